/-
  boardOf: the program's.
-/
import Derived.Test.YtachkoledebanaaGreatDoorClo
import Derived.Deep.RegionHeld3
import Derived.Deep.RegionLaw
import Derived.Deep.AppendLies
namespace Go.Proofs.YtachkoledebanaaGreatDoor
open Go.RowKit Go.WideMaps Go.Maps

theorem Tryz.uLamps : Tryz.prog.underlying 90 = some (.slice 126) := by kernel_rfl
theorem Tryz.iLamp : (Tryz.prog.info? 126).map (fun i => (i.zero, i.size, i.bytes)) = some (some (.int .u8 0), 1, 1) := by kernel_rfl

theorem OwnT.off {w w' : World} {lo hi n t X : Nat} {ao : Option Addr} {f : Nat → Value} {c : Array Value} {t' : TypeId} {fz : Nat × Nat} (h : OwnT w lo hi ao n t f) (hX : w.heap[X]? = some (.cells c t' fz)) (ht : t' ≠ t) (ho : Only X (X + 1) w w') : OwnT w' lo hi ao n t f := fun k hk => by
  obtain ⟨b, cc, e, h1, h2, h3, h4⟩ := h k hk
  have hne : b ≠ X := fun e1 => by
    subst e1
    rw [h3] at hX
    injection hX with hX
    injection hX with _ hX _
    exact ht hX.symm
  exact ⟨b, cc, e, h1, h2, (ho.block b (Array.getElem?_eq_some_iff.1 h3).1 (by omega)).trans h3, h4⟩

/-- a board that has just been made -/
structure BoardAt (w : World) (X : Nat) (A : BA) (d : RD) (w' : World) : Prop where
  bk : Blk w' X (bcells A d.nN (.slice none 0 0) (.slice none 0 0)) 94
  nx : SlAt w A.a1 d.nN (fun k => .int .i64 (d.nx k))
  gr : w'.ownsGroups (H := Unit) Tryz.prog 3 A.base 3 .i64 A.bm d.nN (Dm d d.nN)
  op : OwnT w' w.heap.size w'.heap.size A.ao d.nN 4 (fun k => .bool (d.op k))
  lm : OwnT w' w.heap.size w'.heap.size A.al d.nN 126 (fun k => .int .u8 (enc (d.wk k)))
  lo : w.heap.size ≤ X
  bel : Below w.heap.size w w'

theorem OwnT.sln {w : World} {lo hi n t X : Nat} {ao : Option Addr} {f : Nat → Value} {c : Array Value} {t' : TypeId} (h : OwnT w lo hi ao n t f) (hX : Blk w X c t') (ht : t' ≠ t) : SlN w X ao n f := fun k hk => by
  obtain ⟨b, cc, e, h1, h2, h3, h4⟩ := h k hk
  refine ⟨b, 0, e, fun e1 => ?_, by simp [World.cell?, h3, h4]⟩
  subst e1
  unfold Blk at hX
  rw [h3] at hX
  injection hX with hX
  injection hX with _ hX _
  exact ht hX.symm

theorem BoardAt.stat {w w' : World} {X : Nat} {A : BA} {d : RD} (h : BoardAt w X A d w') : Stat w' X A d :=
  ⟨fun k hk => by
    obtain ⟨b, o, e, hc⟩ := h.nx k hk
    have hlt : b < w.heap.size := block_lt_of_cell hc
    exact ⟨b, o, e, by have := h.lo; omega, (h.bel.cell (p := ⟨b, o + k, none⟩) hlt).trans hc⟩, h.gr, h.op.sln h.bk (by decide), h.lm.sln h.bk (by decide)⟩

/-- while its lamps are laid: from the world w1 on, in which it is the last block -/
structure Half (w : World) (X : Nat) (A : BA) (d : RD) (w1 : World) : Prop where
  nx : SlAt w A.a1 d.nN (fun k => .int .i64 (d.nx k))
  gr : w1.ownsGroups (H := Unit) Tryz.prog 3 A.base 3 .i64 A.bm d.nN (Dm d d.nN)
  op : OwnT w1 w.heap.size w1.heap.size A.ao d.nN 4 (fun k => .bool (d.op k))
  lo : w.heap.size ≤ X
  sz : w1.heap.size = X + 1
  bel : Below w.heap.size w w1

/-- the board's cells, the lamps' list v -/
def hcells (A : BA) (n : Nat) (v : Value) : Array Value := #[.slice A.a1 n A.c1, .map (some A.bm), .slice A.ao n A.co, v, .slice none 0 0, .slice none 0 0]

structure Lay (w w1 : World) (X : Nat) (A : BA) (d : RD) (k : Nat) (v : Value) (wr : World) : Prop where
  on : Only X (X + 1) w1 wr
  bk : Blk wr X (hcells A d.nN v) 94
  ow : wr.ownsRow (X + 1) 126 1 v k ((List.range k).map (fun j => .int .u8 (enc (d.wk j))))

theorem Lay.board {w w1 wr : World} {X : Nat} {A : BA} {d : RD} {v : Value} {c : Array Value} (h1 : Half w X A d w1) (hX : Blk w1 X c 94) (h : Lay w w1 X A d d.nN v wr) : ∃ A', BoardAt w X A' d wr := by
  obtain ⟨al, cl, rfl, ht⟩ := OwnT.ofOwns h.ow
  have hsz := h.on.size
  refine ⟨{ A with al := al, cl := cl }, h.bk, h1.nx, groups_only h1.gr hX (by decide) h.on, ((h1.op.off hX (by decide) h.on).wide (Nat.le_refl _) h.on.size), ht.wide (by have := h1.lo; omega) (Nat.le_refl _), h1.lo, ?_⟩
  exact h1.bel.trans (h.on.below h1.lo (by have := h1.lo; have := h1.sz; omega))

/-- what a call that makes memory of its own hands on -/
def RetG (e : Ending) (d : RD) (w' : World) : Prop := ∃ bm base, e = .returned (.map (some bm)) ∧ w'.ownsGroups (H := Unit) Tryz.prog 3 base 3 .i64 bm d.nN (Dm d d.nN)

theorem mkHalf {w W V : World} {a1 ao : Option Addr} {c1 co bm base : Nat} {d : RD} (hO : d.nO = d.nN) (hnx : SlAt w a1 d.nN (fun k => .int .i64 (d.nx k))) (hw : Below w.heap.size w W) (hb : Below W.heap.size W V) (hg : V.ownsGroups (H := Unit) Tryz.prog 3 base 3 .i64 bm d.nN (Dm d d.nN)) {lo : Nat} (hlo : w.heap.size ≤ lo) (hl : OwnT V lo V.heap.size ao d.nO 4 (fun k => .bool (d.op k))) :
    Half w V.heap.size ⟨a1, c1, bm, base, ao, co, none, 0⟩ d (V.alloc (.cells #[.slice a1 d.nN c1, .map (some bm), .slice ao d.nO co, .slice none 0 0, .slice none 0 0, .slice none 0 0] 94)) ∧
      Blk (V.alloc (.cells #[.slice a1 d.nN c1, .map (some bm), .slice ao d.nO co, .slice none 0 0, .slice none 0 0, .slice none 0 0] 94)) V.heap.size (hcells ⟨a1, c1, bm, base, ao, co, none, 0⟩ d.nN (.slice none 0 0)) 94 ∧
      Below W.heap.size W (V.alloc (.cells #[.slice a1 d.nN c1, .map (some bm), .slice ao d.nO co, .slice none 0 0, .slice none 0 0, .slice none 0 0] 94)) := by
  rw [hO] at hl ⊢
  have hal : Below V.heap.size V (V.alloc (.cells #[.slice a1 d.nN c1, .map (some bm), .slice ao d.nN co, .slice none 0 0, .slice none 0 0, .slice none 0 0] 94)) := (Below.refl _ _).alloc (Nat.le_refl _) _
  exact ⟨⟨hnx, groups_keep hg hal, (hl.keep hal (Nat.le_refl _)).wide hlo (by simp), Nat.le_trans hw.size hb.size, by simp, chain (chain hw hb) hal⟩, Blk.new _ _ _, chain hb hal⟩

theorem lamps_snoc (d : RD) (k : Nat) : (List.range (k + 1)).map (fun j => Value.int .u8 (enc (d.wk j))) = (List.range k).map (fun j => Value.int .u8 (enc (d.wk j))) ++ [.int .u8 (enc (d.wk k))] := by
  rw [List.range_succ, List.map_append]; rfl

/-- one lamp list more -/
theorem Lay.next {w w1 wr w4 : World} {X : Nat} {A : BA} {d : RD} {k g cap : Nat} {v : Value} {o : Obj} (hsz : w1.heap.size = X + 1) (h : Lay w w1 X A d k v wr)
    (ho : w4.ownsRow (X + 1) 126 1 (.slice (some ⟨g, 0, none⟩) (k + 1) cap) (k + 1) ((List.range k).map (fun j => Value.int .u8 (enc (d.wk j))) ++ [.int .u8 (enc (d.wk k))])) (hg : (wr.alloc o).drew.grownBy w4 v.ownBlock) :
    Lay w w1 X A d (k + 1) (.slice (some ⟨g, 0, none⟩) (k + 1) cap) (w4.setCell ⟨X, 3, none⟩ (.slice (some ⟨g, 0, none⟩) (k + 1) cap)) := by
  obtain ⟨on, bk, ow⟩ := h
  have hs0 := on.size
  have hs1 : wr.heap.size + 1 ≤ w4.heap.size := by have := hg.size; simpa using this
  have hrow : ∀ j, v.ownBlock = some j → X + 1 ≤ j := fun j hj => (ow.lt j hj).1
  have hblk : ∀ j, j < X + 1 → w4.heap[j]? = wr.heap[j]? := fun j hj =>
    (hg.block j (by simp; omega) (fun e => by have := hrow j e.symm; omega)).trans (Below.heap_alloc wr o j (by omega))
  refine ⟨⟨hg.os.trans on.os, hg.tape.trans on.tape, hg.output.trans on.output, by simp; omega, fun j hj hne => ?_⟩, ?_, ?_⟩
  · exact (Below.heap_setCell w4 ⟨X, 3, none⟩ _ j (by show j ≠ X; omega)).trans ((hblk j (by omega)).trans (on.block j hj hne))
  · have hb4 : Blk w4 X (hcells A d.nN v) 94 := (hblk X (by omega)).trans bk
    have := hb4.set 3 (.slice (some ⟨g, 0, none⟩) (k + 1) cap)
    simpa [hcells] using this
  · rw [lamps_snoc]
    refine ownsRow_setCell_other ho (fun e => ?_) _
    have := (ho.lt X e).1
    omega

set_option maxHeartbeats 4000000 in
set_option maxRecDepth 100000 in
theorem boardOf_any (a1 a2 a3 a4 : Option Addr) (c1 c2 c3 c4 : Nat) (A : Nat → Option Addr) (C : Nat → Nat) (d : RD) (w : World) (h : RowAt w a1 a2 a3 a4 A C d) (hR : Right d) :
    Calls Tryz.prog 46 #[.agg #[.slice a1 d.nN c1, .slice a2 d.nF c2, .slice a3 d.nO c3, .slice a4 d.nW c4]] w fun e w' =>
      ∃ X B, e = .returned (.pointer (some ⟨X, 0, none⟩)) ∧ BoardAt w X B d w' := by
  obtain ⟨il, hil, hzl0, hzl1, hzl2⟩ := info_parts Tryz.iLamp
  have h60 := hR.s.nN
  have HE : Hid (d.nO = d.nN ∧ d.nW = d.nN) := ⟨hR.s.nO, hR.s.nW⟩
  have HR : Hid (Right d) := hR
  have HH : Hid (RowAt w a1 a2 a3 a4 A C d) := h
  have bel : Below w.heap.size w (w.alloc (.cells #[.slice a1 d.nN c1, .slice a2 d.nF c2, .slice a3 d.nO c3, .slice a4 d.nW c4] 27)) := (Below.refl _ _).alloc (Nat.le_refl _) _
  have hbk := Blk.new w #[.slice a1 d.nN c1, .slice a2 d.nF c2, .slice a3 d.nO c3, .slice a4 d.nW c4] 27
  clear h hR
  go_enter Tryz.func46, Tryz.ntmps46
  go_upto_region 1 with fail
  generalize (w.alloc (.cells #[.slice a1 d.nN c1, .slice a2 d.nF c2, .slice a3 d.nO c3, .slice a4 d.nW c4] 27)) = W at *
  have HBE : Hid (∀ V, Below W.heap.size W V → Calls Tryz.prog 59 #[.agg #[.slice a1 d.nN c1, .slice a2 d.nF c2, .slice a3 d.nO c3, .slice a4 d.nW c4]] V fun e w' => RetG e d w' ∧ Below V.heap.size V w') := fun V hV =>
    (behindEach_any a1 a2 a3 a4 c1 c2 c3 c4 A C d V (HH.out.keep (chain bel hV)) HR.out).mono fun e w' hh => ⟨⟨_, _, hh.1, hh.2.1⟩, hh.2.2⟩
  have HCL : Hid (∀ V, Below W.heap.size W V → Calls Tryz.prog 60 #[.slice a3 d.nO c3] V fun e w' => RetT e V.heap.size d.nO 4 w' (fun k => .bool (d.op k)) ∧ Below V.heap.size V w') := fun V hV =>
    clone_any a3 d.nO c3 d.op V (by have := HE.out; omega) (HH.out.keep (chain bel hV)).op
  have y0 := hbk.cell 0
  have y1 := hbk.cell 1
  have y2 := hbk.cell 2
  have y3 := hbk.cell 3
  simp at y0 y1 y2 y3
  go_cut [3] (fun t wc => ∃ X B, t = .pointer (some ⟨X, 0, none⟩) ∧ Half w X B d wc ∧ Blk wc X (hcells B d.nN (.slice none 0 0)) 94 ∧ Below W.heap.size W wc)
  case first =>
    go_region_held3 (fun w' => w'.cell? ⟨w.heap.size, 0, none⟩ = some (.slice a1 d.nN c1) ∧ w'.cell? ⟨w.heap.size, 1, none⟩ = some (.slice a2 d.nF c2) ∧ w'.cell? ⟨w.heap.size, 2, none⟩ = some (.slice a3 d.nO c3) ∧ w'.cell? ⟨w.heap.size, 3, none⟩ = some (.slice a4 d.nW c4)) (go_keep) (first
      | (go_at_call 59; refine (HBE.out _ ?_).mono ?_; (first | exact bC | exact (Below.refl _ _).drew); rintro e w1 ⟨⟨bm, base, rfl, hg⟩, hb1⟩; have bB : Below W.heap.size W w1 := chain (by first | exact bC | exact (Below.refl _ _).drew) hb1; have hbb := hbk.keep bB; have z0 := hbb.cell 0; have z1 := hbb.cell 1; have z2 := hbb.cell 2; have z3 := hbb.cell 3; simp at z0 z1 z2 z3)
      | (go_at_call 60; refine (HCL.out _ ?_).mono ?_; (first | exact bB | exact (Below.refl _ _).drew); rintro e w2 ⟨⟨ao, co, rfl, hl⟩, hb2⟩; have bC : Below W.heap.size W w2 := chain (by first | exact bB | exact (Below.refl _ _).drew) hb2; have hcc := hbk.keep bC; have q0 := hcc.cell 0; have q1 := hcc.cell 1; have q2 := hcc.cell 2; have q3 := hcc.cell 3; simp at q0 q1 q2 q3))
    all_goals
      go_wp2_with fail
      go_meet
      first
        | exact ⟨w2.heap.size, ⟨a1, c1, bm, base, ao, co, none, 0⟩, rfl, mkHalf HE.out.1 HH.out.nx bel bC (groups_keep hg hb2) (Nat.le_trans bel.size bB.size) hl⟩
        | exact ⟨w1.heap.size, ⟨a1, c1, bm, base, ao, co, none, 0⟩, rfl, mkHalf HE.out.1 HH.out.nx bel bB hg (Nat.le_trans bel.size (Nat.le_refl _)) ((hl.keep hb1 (Nat.le_refl _)).wide (Nat.le_refl _) hb1.size)⟩
  case rest =>
    obtain ⟨X, B, rfl, hH, hX, hB⟩ := hcut
    have HF : Hid (Half w X B d wc ∧ Blk wc X (hcells B d.nN (.slice none 0 0)) 94) := ⟨hH, hX⟩
    have hbw := hbk.keep hB
    clear y0 y1 y2 y3
    have y3 := hbw.cell 3
    simp at y3
    have hsz := hH.sz
    have hlo := hH.lo
    have HZ : Hid (wc.heap.size = X + 1) := hsz
    clear hH hX hB hbw hbk HBE HCL bel hsz
    go_wp2
    go_loopg [18] d.nW (fun g t wr => ∃ (k : Nat) (v : Value), k + g = d.nW ∧ t = .int .i64 k ∧ Lay w wc X B d k v wr)
    case atStart => exact ⟨0, .slice none 0 0, Nat.zero_add _, rfl, .refl _ _ _, HF.out.2, World.ownsRow_nil _ _ _ _⟩
    case round =>
      obtain ⟨k, v, hk, rfl, hL⟩ := hrel
      have HL : Hid (Lay w wc X B d k v wr) := hL
      have hWr : Below w.heap.size w wr := HF.out.1.bel.trans (hL.on.below hlo (by have := HZ.out; omega))
      clear y3
      by_cases hlt : k < d.nW
      · have hrow := HH.out.keep hWr
        obtain ⟨b, o, rfl, hc⟩ := hrow.wk k hlt
        have hlm := hrow.lm k hlt
        have hl4 := HR.out.l k hlt
        simp only [hl4] at hc hlm
        obtain ⟨al, cl, rfl, -⟩ := OwnT.ofOwns hL.ow
        have x3 := hL.bk.cell 3
        have f3 := hL.bk.free 3
        unfold hcells at x3
        simp at x3
        have hsX := hL.bk.lt
        have how := hL.ow
        have hWz := HE.out.2
        have hk6 : k ≤ 60 := by omega
        have hlb := lampBitsOf_any (A k) (C k) (d.wk k) wr.drew hlm
        have HQ : Hid (∀ g cap w4, w4.ownsRow (X + 1) 126 1 (.slice (some ⟨g, 0, none⟩) (k + 1) cap) (k + 1) ((List.range k).map (fun j => Value.int .u8 (enc (d.wk j))) ++ [.int .u8 (enc (d.wk k))]) → (wr.alloc (.cells #[.int .u8 (enc (d.wk k))] 126)).drew.grownBy w4 (Value.slice al k cl).ownBlock → Lay w wc X B d (k + 1) (.slice (some ⟨g, 0, none⟩) (k + 1) cap) (w4.setCell ⟨X, 3, none⟩ (.slice (some ⟨g, 0, none⟩) (k + 1) cap))) := fun g cap w4 h1 h2 => hL.next HZ.out h1 h2
        have hbkr := hL.bk
        have hne : some X ≠ (Value.slice al k cl).ownBlock := fun e => by have := (how.lt X e.symm).1; omega
        clear hrow hWr hL hlm hl4 hWz
        go_upto_region 5 with fail
        go_region_law
          (first
            | ((refine step_append_lies _ (by rfl) (.tmp 26) (.tmp 29) 90 (by rfl) (X + 1) 126 il (.int .u8 0) 1 1 Tryz.uLamps hil hzl0 hzl1 hzl2 rfl (by omega) (.slice al k cl) k ((List.range k).map (fun j => .int .u8 (enc (d.wk j)))) (by rfl) ((how.alloc _).drew) ⟨wr.heap.size, 0, none⟩ 1 1 [.int .u8 (enc (d.wk k))] (by rfl) (by rfl) (World.news_of_block (cs := #[.int .u8 (enc (d.wk k))]) (t := 126) (fr := (0, 0)) (heap_alloc_new wr _)) (by simp [Value.oneCell']) (by omega) (by unfold maxLen; omega) (by omega) (by simp; omega) (wr.heap.size + 1) (by simp) ?_; intro g cap w4 ho4 hg4 hat4 hlt4; have o6 : Blk w4 X (hcells B d.nN (.slice al k cl)) 94 := (hg4.block X (by simp; omega) hne).trans (hbkr.alloc _); have cA := o6.cell 3; have fA := o6.free 3; unfold hcells at cA; simp at cA))
            | ((go_simp; go_at_call 61; refine hlb.mono ?_; rintro e w2 ⟨rfl, rfl⟩; dsimp only)))
        all_goals
          have HV : Hid (Lay w wc X B d (k + 1) (.slice (some ⟨g, 0, none⟩) (k + 1) cap) (w4.setCell ⟨X, 3, none⟩ (.slice (some ⟨g, 0, none⟩) (k + 1) cap))) := HQ.out g cap w4 ho4 hg4
          clear ho4 hg4 hat4 hlt4 o6 how hbkr hlb HQ HL
          go_wp2
          go_roundg (d.nW - (k + 1))
          case measure => omega
          case rel => exact ⟨k + 1, _, by omega, by go_num, HV.out⟩
      · obtain rfl : k = d.nW := by omega
        have HA : Hid (∃ A', BoardAt w X A' d wr) := by
          have h1 := HL.out
          rw [HE.out.2] at h1
          exact h1.board HF.out.1 HF.out.2
        clear hL hWr
        go_wp2
        go_ret
        obtain ⟨A', hA⟩ := HA.out
        exact ⟨X, A', rfl, hA⟩

end Go.Proofs.YtachkoledebanaaGreatDoor
