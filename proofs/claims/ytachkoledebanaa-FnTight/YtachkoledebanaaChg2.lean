/-
  changesTo: the program's; a board that is closed or broken somewhere.
-/
import Derived.Test.YtachkoledebanaaChgD
import Derived.Test.YtachkoledebanaaBOf
namespace Go.Proofs.Ytachkoledebanaa
open Go.RowKit Go.WideMaps Go.Maps

theorem Right.ways' {d : RD} (h : Right d) : ∀ i, i < d.nN → -1 ≤ d.nx i ∧ d.nx i < d.nN := fun i hi => (h.w i hi).1

theorem SlN.keep {w w' : World} {X n : Nat} {ao : Option Addr} {f : Nat → Value} (h : SlN w X ao n f) (hb : Below w.heap.size w w') : SlN w' X ao n f := fun k hk => by
  obtain ⟨b, o, e, hne, hc⟩ := h k hk
  exact ⟨b, o, e, hne, (hb.cell (p := ⟨b, o + k, none⟩) (block_lt_of_cell hc)).trans hc⟩
theorem Stat.keep {w w' : World} {X : Nat} {A : BA} {d : RD} (h : Stat w X A d) (hb : Below w.heap.size w w') : Stat w' X A d := ⟨h.nx.keep hb, groups_keep h.gr hb, h.op.keep hb, h.lm.keep hb⟩

/-- a board, ready to settle -/
structure Ready (w : World) (X : Nat) (A : BA) (d : RD) : Prop where
  bk : Blk w X (bcells A d.nN (.slice none 0 0) (.slice none 0 0)) 67
  st : Stat w X A d
theorem Ready.keep {w w' : World} {X : Nat} {A : BA} {d : RD} (h : Ready w X A d) (hb : Below w.heap.size w w') : Ready w' X A d := ⟨h.bk.keep hb, h.st.keep hb⟩
theorem Ready.settle {w : World} {X : Nat} {A : BA} {d : RD} (hR : Right d) (h : Ready w X A d) : Calls Try.prog 50 #[.pointer (some ⟨X, 0, none⟩)] w fun e w' => e = .returned (.tuple #[]) ∧ Settled w X A d w' :=
  settle_any X A d w hR.s.nN hR.ways' h.bk h.st
theorem BoardAt.ready {w w' : World} {X : Nat} {A : BA} {d : RD} (h : BoardAt w X A d w') : Ready w' X A d := ⟨h.bk, h.stat⟩

theorem grow3 {w0 w w' : World} {o : Obj} {lo e n : Nat} {v : Value} {xs : List Value} (hb : Below lo w0 w) (hlo : lo ≤ w.heap.size) (hown : w.ownsRow lo e 3 v n xs) (hg : (w.alloc o).grownBy w' v.ownBlock) : Below lo w0 w' :=
  (hb.alloc hlo o).grown hg (by simp; omega) (fun j hj => (hown.lt j hj).1)

set_option maxHeartbeats 4000000 in
set_option maxRecDepth 100000 in
theorem changesTo_any (a1 a2 a3 a4 : Option Addr) (c1 c2 c3 c4 : Nat) (A : Nat → Option Addr) (C : Nat → Nat) (d d' : RD) (X : Nat) (B : BA) (w : World) (h : RowAt w a1 a2 a3 a4 A C d) (hR : Right d) (hR' : Right d') (hn : d'.nN = d.nN) (hX : Ready w X B d') :
    Calls Try.prog 54 #[.pointer (some ⟨X, 0, none⟩), .agg #[.slice a1 d.nN c1, .slice a2 d.nF c2, .slice a3 d.nO c3, .slice a4 d.nW c4]] w fun e w' =>
      (∃ wn sh wn' sh', Least d d.nN wn sh ∧ Least d' d.nN wn' sh' ∧ RetChg e w.heap.size w' (chg sh sh' d.nN)) ∧ Below X w w' := by
  obtain ⟨i0, hi, hz0, hz1, hz2⟩ := info_parts Try.iChg
  have h60 := hR.s.nN
  have hXl := hX.bk.lt
  have bel : Below w.heap.size w (w.alloc (.cells #[.slice a1 d.nN c1, .slice a2 d.nF c2, .slice a3 d.nO c3, .slice a4 d.nW c4] 27)) := (Below.refl _ _).alloc (Nat.le_refl _) _
  have HH : Hid (RowAt (w.alloc (.cells #[.slice a1 d.nN c1, .slice a2 d.nF c2, .slice a3 d.nO c3, .slice a4 d.nW c4] 27)) a1 a2 a3 a4 A C d) := h.keep bel
  have HX : Hid (Ready w X B d') := hX
  have HN : Hid (d'.nN = d.nN) := hn
  have HR : Hid (Right d ∧ Right d') := ⟨hR, hR'⟩
  clear h hX hn hR hR'
  go_enter Try.func54, Try.ntmps54
  go_wp2_with fail
  generalize (w.alloc (.cells #[.slice a1 d.nN c1, .slice a2 d.nF c2, .slice a3 d.nO c3, .slice a4 d.nW c4] 27)) = W at *
  refine (boardOf_any a1 a2 a3 a4 c1 c2 c3 c4 A C d W HH.out HR.out.1).mono ?_
  rintro e w1 ⟨X1, B1, rfl, hA⟩
  have HA : Hid (BoardAt W X1 B1 d w1) := hA
  have bel1 : Below w.heap.size w w1 := chain bel hA.bel
  have hX1 : w.heap.size ≤ X1 := Nat.le_trans bel.size hA.lo
  clear hA bel HH
  go_wp2_with fail
  refine (HA.out.ready.settle HR.out.1).mono ?_
  rintro e w2 ⟨rfl, sh, hl, hbd, hB⟩
  have bel2 : Below w.heap.size w w2 := bel1.trans (hB.on.below hX1 bel1.size)
  have HB : Hid (Bd w1 X1 B1 d sh [] w2) := hB
  have HL : Hid (Least d d.nN (wish d sh) sh) := hl
  clear hB hl hbd
  go_wp2_with fail
  refine ((HX.out.keep bel2).settle HR.out.2).mono ?_
  rintro e w3 ⟨rfl, sh', hl', hbd', hB'⟩
  rw [HN.out] at hl'
  have HL' : Hid (Least d' d.nN (wish d' sh') sh') := hl'
  have hsz2 := HB.out.size
  have hs1 : w.heap.size ≤ w1.heap.size := bel1.size
  have HB' : Hid (Bd w2 X B d' sh' [] w3) := hB'
  have bel3 : Below X w w3 := (bel2.mono (by omega)).trans (hB'.on.below (Nat.le_refl _) (by have := bel2.size; omega))
  have hsz3 : w2.heap.size < w3.heap.size := hB'.size
  obtain ⟨qv, hk1, -⟩ := HB.out.bk
  obtain ⟨qv', hk2, -⟩ := hB'.bk
  have p1 := hB'.on.blk hk1 (Or.inr (by omega))
  have r1 := hB'.on.rowIs HB.out.sh (Or.inr (by omega))
  have r2 := hB'.sh
  have y4 := p1.cell 4
  have x4 := hk2.cell 4
  unfold bcells at y4 x4
  simp at y4 x4
  rw [HN.out] at x4 r2
  clear hB' hk1 hk2 p1 hl' hbd' HB HA HX bel1 bel2
  go_wp2
  go_loopw [6, 21] (fun v i wr => ∃ k : Nat, k ≤ d.nN ∧ i = .int .i64 k ∧ wr.ownsRow w3.heap.size 42 3 v (chg sh sh' k).length (cellsC (chg sh sh' k)) ∧ Below w3.heap.size w3 wr) (fun _ i _ => d.nN - (intOf i).toNat)
  case atStart => exact ⟨0, Nat.zero_le _, rfl, World.ownsRow_nil _ _ _ _, Below.refl _ _⟩
  case round =>
    obtain ⟨k, hkn, rfl, hown, hbw⟩ := hrel
    have hle := chg_le sh sh' k
    have hwz := hbw.size
    by_cases hlt : k < d.nN
    · have hc1 := (rowIs_below r1 hbw (by omega)).cell hlt
      have hc2 := (rowIs_below r2 hbw (by omega)).cell hlt
      have x4' := (hbw.cell (p := ⟨X, 4, none⟩) (by show X < _; omega)).trans x4
      clear y4 x4 r1 r2
      by_cases q : sh k = sh' k
      · have z : (sh' k != sh k) = false := by rw [bne_eq_false_iff_eq]; exact q.symm
        have HC : Hid (chg sh sh' (k + 1) = chg sh sh' k) := by show _ = _; conv => lhs; unfold chg; rw [if_pos q]
        clear q
        go_wp2
        go_roundw
        case rel => exact ⟨k + 1, by omega, by go_num, by rw [HC.out]; exact hown, hbw⟩
        case measure => simp [intOf]; omega
      · have z : (sh' k != sh k) = true := by rw [bne_iff_ne]; exact Ne.symm q
        have HC : Hid (chg sh sh' (k + 1) = chg sh sh' k ++ [((k : Int), sh k, sh' k)]) := by show _ = _; conv => lhs; unfold chg; rw [if_neg q]
        clear q
        go_wp2_with (at_builtin; refine wpList_append_own _ rfl _ _ 38 rfl w3.heap.size 42 i0 (.agg #[.int .i64 0, .int .i64 0, .int .i64 0]) 3 24 Try.uChgs hi hz0 hz1 hz2 rfl (by decide) _ _ _ rfl (hown.alloc _) ⟨wr.heap.size, 0, none⟩ 1 1 [.int .i64 (k : Int), .int .i64 (sh k), .int .i64 (sh' k)] rfl rfl (World.news_of_block (cs := #[.int .i64 (k : Int), .int .i64 (sh k), .int .i64 (sh' k)]) (t := 42) (fr := (0, 0)) (heap_alloc_new wr _)) (by simp [Value.oneCell']) (by unfold maxLen; omega) (by omega) (by simp; omega) ?_; intro v' w4 hown' hgrow hnil)
        have HO : Hid (w4.ownsRow w3.heap.size 42 3 v' (chg sh sh' (k + 1)).length (cellsC (chg sh sh' (k + 1)))) := by show World.ownsRow _ _ _ _ _ _ _; rw [HC.out, cellsC_snoc]; simpa using hown'
        have HBl : Hid (Below w3.heap.size w3 w4) := grow3 hbw hwz hown hgrow
        clear hown' hgrow hnil hown
        go_roundw
        case rel => exact ⟨k + 1, by omega, by go_num, HO.out, HBl.out⟩
        case measure => simp [intOf]; omega
    · obtain rfl : k = d.nN := by omega
      have HBl : Below X w wr := bel3.trans (hbw.mono (by omega))
      have HRt : Hid (RetChg (.returned u6) w.heap.size wr (chg sh sh' d.nN)) := (RetChg.ofOwns rfl hown).wide (by omega)
      clear hbw hown
      go_wp2
      go_ret
      exact ⟨⟨_, sh, _, sh', HL.out, HL'.out, HRt.out⟩, HBl⟩

theorem Dm_nx {d d' : RD} (h : d'.nx = d.nx) : ∀ k, Dm d' k = Dm d k
  | 0 => rfl
  | k + 1 => by
    unfold Dm
    rw [Dm_nx h k, h]
    unfold bh
    rw [h]

theorem blk_ne {w : World} {b X : Nat} {c c' : Array Value} {t t' : TypeId} {fz : Nat × Nat} (h : w.heap[b]? = some (.cells c t fz)) (hX : Blk w X c' t') (ht : t' ≠ t) : X ≠ b := fun e => by
  subst e
  unfold Blk at hX
  rw [h] at hX
  injection hX with hX
  injection hX with _ hX _
  exact ht hX.symm

/-- a store into a block of another type of the call's own -/
theorem BoardAt.nx_store {w w' : World} {X b i : Nat} {A : BA} {d : RD} (h : BoardAt w X A d w') (hb : w.heap.size ≤ b) (v : Value) : SlN (w'.setCell ⟨b, i, none⟩ v) X A.a1 d.nN (fun k => .int .i64 (d.nx k)) := fun k hk => by
  obtain ⟨b1, o1, e, hc⟩ := h.nx k hk
  have hlt : b1 < w.heap.size := block_lt_of_cell hc
  exact ⟨b1, o1, e, by have := h.lo; omega, ((Below.setCell h.bel (show w.heap.size ≤ (⟨b, i, none⟩ : Addr).block from hb) v).cell (p := ⟨b1, o1 + k, none⟩) hlt).trans hc⟩

theorem BoardAt.close {w w' : World} {X s : Nat} {A : BA} {d : RD} (h : BoardAt w X A d w') (hs : s < d.nN) :
    ∃ b, A.ao = some ⟨b, 0, none⟩ ∧ w.heap.size ≤ b ∧ w'.cell? ⟨b, s, none⟩ = some (.bool (d.op s)) ∧ w'.frozen? ⟨b, s, none⟩ = false ∧ Ready (w'.setCell ⟨b, s, none⟩ (.bool false)) X A (closed d s) := by
  obtain ⟨b, c, e, h1, h2, h3, h4⟩ := h.op s hs
  have hne : X ≠ b := blk_ne h3 h.bk (by decide)
  have hbk := h.bk.other (a := ⟨b, s, none⟩) hne (.bool false)
  refine ⟨b, e, h1, by simp [World.cell?, h3, h4], by simp [World.frozen?, h3], hbk, ⟨h.nx_store h1 _, ?_, ?_, ?_⟩⟩
  · show World.ownsGroups _ _ _ _ _ _ _ d.nN (Dm (closed d s) d.nN)
    rw [Dm_nx (d := d) (d' := closed d s) rfl]
    exact groups_only h.gr h3 (by decide) ((Only.refl b (b + 1) w').setCell (p := ⟨b, s, none⟩) (Nat.le_refl _) (Nat.lt_succ_self _) _)
  · have ho := h.op
    rw [e] at ho
    have := ((ho.store (j := s) (.bool false)).congr (g := fun k => .bool ((closed d s).op k)) (fun k _ => by
      show _ = Value.bool (if k = s then false else d.op k)
      by_cases ek : k = s <;> simp [ek])).sln hbk (by decide)
    rw [← e] at this
    exact this
  · exact (h.lm.apart (p := ⟨b, s, none⟩) (fun b' c' _ _ _ hb' => by
      show b' ≠ b
      intro e1
      subst e1
      rw [h3] at hb'
      injection hb' with hb'
      injection hb' with _ hb' _
      exact absurd hb' (by decide)) (.bool false)).sln hbk (by decide)

theorem BoardAt.brk {w w' : World} {X s l : Nat} {A : BA} {d : RD} (h : BoardAt w X A d w') (hs : s < d.nN) :
    ∃ b, A.al = some ⟨b, 0, none⟩ ∧ w.heap.size ≤ b ∧ b ≠ X ∧ w'.cell? ⟨b, s, none⟩ = some (.int .u8 (enc (d.wk s))) ∧ w'.frozen? ⟨b, s, none⟩ = false ∧ Ready (w'.setCell ⟨b, s, none⟩ (.int .u8 (enc (less (d.wk s) l)))) X A (broken d s l) := by
  obtain ⟨b, c, e, h1, h2, h3, h4⟩ := h.lm s hs
  have hne : X ≠ b := blk_ne h3 h.bk (by decide)
  have hbk := h.bk.other (a := ⟨b, s, none⟩) hne (.int .u8 (enc (less (d.wk s) l)))
  refine ⟨b, e, h1, Ne.symm hne, by simp [World.cell?, h3, h4], by simp [World.frozen?, h3], hbk, ⟨h.nx_store h1 _, ?_, ?_, ?_⟩⟩
  · show World.ownsGroups _ _ _ _ _ _ _ d.nN (Dm (broken d s l) d.nN)
    rw [Dm_nx (d := d) (d' := broken d s l) rfl]
    exact groups_only h.gr h3 (by decide) ((Only.refl b (b + 1) w').setCell (p := ⟨b, s, none⟩) (Nat.le_refl _) (Nat.lt_succ_self _) _)
  · exact (h.op.apart (p := ⟨b, s, none⟩) (fun b' c' _ _ _ hb' => by
      show b' ≠ b
      intro e1
      subst e1
      rw [h3] at hb'
      injection hb' with hb'
      injection hb' with _ hb' _
      exact absurd hb' (by decide)) _).sln hbk (by decide)
  · have ho := h.lm
    rw [e] at ho
    have := ((ho.store (j := s) (.int .u8 (enc (less (d.wk s) l)))).congr (g := fun k => .int .u8 (enc ((broken d s l).wk k))) (fun k _ => by
      show _ = Value.int .u8 (enc (fun i => if k = s ∧ i = l then false else d.wk k i))
      by_cases ek : k = s
      · subst ek
        rw [if_pos rfl]
        congr 2
        funext q
        simp [less]
      · simp [ek])).sln hbk (by decide)
    rw [← e] at this
    exact this

end Go.Proofs.Ytachkoledebanaa
