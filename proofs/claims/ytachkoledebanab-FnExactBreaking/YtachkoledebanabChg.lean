/-
  l2changes.
-/
import Derived.Test.YtachkoledebanabChgD
namespace Go.Proofs.Ytachkoledebanab
open Go.RowKit

attribute [local go_sem ↓] Go.wp_at_zero Go.wp_at_succ

set_option maxHeartbeats 4000000 in
set_option maxRecDepth 100000 in
theorem l2changes_any (a1 a2 a3 a4 b1 b2 b3 b4 : Option Addr) (c1 c2 c3 c4 e1 e2 e3 e4 : Nat) (A B : Nat → Option Addr) (C D : Nat → Nat) (d d' : RD) (w : World) (ha : RowAt w a1 a2 a3 a4 A C d) (hb : RowAt w b1 b2 b3 b4 B D d') (hR : Right d) (hR' : Right d') (hn : d'.nN = d.nN) :
    Calls Try.prog 31 #[.agg #[.slice a1 d.nN c1, .slice a2 d.nF c2, .slice a3 d.nO c3, .slice a4 d.nW c4], .agg #[.slice b1 d'.nN e1, .slice b2 d'.nF e2, .slice b3 d'.nO e3, .slice b4 d'.nW e4]] w fun e w' =>
      (∃ wn sh wn' sh', Least d d.nN wn sh ∧ Least d' d.nN wn' sh' ∧ RetChg e w.heap.size w' (chg sh sh' d.nN)) ∧ Below w.heap.size w w' := by
  obtain ⟨i0, hi, hz0, hz1, hz2⟩ := info_parts Try.iChg
  have h60 := hR.s.nN
  have HN : Hid (d'.nN = d.nN) := hn
  clear hn
  have p0 := (Blk.new w #[.slice a1 d.nN c1, .slice a2 d.nF c2, .slice a3 d.nO c3, .slice a4 d.nW c4] 30).alloc (.cells #[.slice b1 d'.nN e1, .slice b2 d'.nF e2, .slice b3 d'.nO e3, .slice b4 d'.nW e4] 30)
  have q0 := Blk.new (w.alloc (.cells #[.slice a1 d.nN c1, .slice a2 d.nF c2, .slice a3 d.nO c3, .slice a4 d.nW c4] 30)) #[.slice b1 d'.nN e1, .slice b2 d'.nF e2, .slice b3 d'.nO e3, .slice b4 d'.nW e4] 30
  rw [World.size_alloc] at q0
  have bel : Below w.heap.size w ((w.alloc (.cells #[.slice a1 d.nN c1, .slice a2 d.nF c2, .slice a3 d.nO c3, .slice a4 d.nW c4] 30)).alloc (.cells #[.slice b1 d'.nN e1, .slice b2 d'.nF e2, .slice b3 d'.nO e3, .slice b4 d'.nW e4] 30)) := ((Below.refl _ _).alloc (Nat.le_refl _) _).alloc (by simp) _
  go_enter Try.func31, Try.ntmps31
  go_wp2_with fail
  generalize ((w.alloc (.cells #[.slice a1 d.nN c1, .slice a2 d.nF c2, .slice a3 d.nO c3, .slice a4 d.nW c4] 30)).alloc (.cells #[.slice b1 d'.nN e1, .slice b2 d'.nF e2, .slice b3 d'.nO e3, .slice b4 d'.nW e4] 30)) = W at *
  refine (l2both_any a1 a2 a3 a4 c1 c2 c3 c4 A C d W (ha.keep bel) hR).mono ?_
  rintro e w1 ⟨⟨wn, sh, hl, ⟨ao, ca, bo, cb, rfl, -, hbo⟩⟩, hb1⟩
  have bel1 : Below w.heap.size w w1 := chain bel hb1
  have q1 := q0.keep hb1
  have y0 := q1.cell 0
  have y1 := q1.cell 1
  have y2 := q1.cell 2
  have y3 := q1.cell 3
  simp at y0 y1 y2 y3
  clear p0 q0 bel
  go_wp2_with fail
  refine (l2both_any b1 b2 b3 b4 e1 e2 e3 e4 B D d' w1 (hb.keep bel1) hR').mono ?_
  rintro e w2 ⟨⟨wn', sh', hl', ⟨ao', ca', bo', cb', rfl, -, hbo'⟩⟩, hb2⟩
  have bel2 : Below w.heap.size w w2 := chain bel1 hb2
  have hx := hbo.keep hb2
  rw [HN.out] at hl' hbo' ⊢
  have HL : Hid (Least d d.nN wn sh ∧ Least d' d.nN wn' sh') := ⟨hl, hl'⟩
  clear y0 y1 y2 y3 q1 hb1 hb2 hbo hl hl' ha hb hR hR'
  go_wp2
  go_loopw [9, 23] (fun v i wr => ∃ k : Nat, k ≤ d.nN ∧ i = .int .i64 k ∧ wr.ownsRow w2.heap.size 63 3 v (chg sh sh' k).length (cellsC (chg sh sh' k)) ∧ Below w2.heap.size w2 wr) (fun _ i _ => d.nN - (intOf i).toNat)
  case atStart => exact ⟨0, Nat.zero_le _, rfl, World.ownsRow_nil _ _ _ _, Below.refl _ _⟩
  case round =>
    obtain ⟨k, hkn, rfl, hown, hbw⟩ := hrel
    have hle := chg_le sh sh' k
    have hwz := hbw.size
    by_cases hlt : k < d.nN
    · obtain ⟨bx, rfl, hx1, hx2, hxc, -⟩ := (hx.keep hbw) k hlt
      obtain ⟨by', rfl, hy1, hy2, hyc, -⟩ := (hbo'.keep hbw) k hlt
      have hk0 : (0 : Int) ≤ (k : Int) := Int.natCast_nonneg _
      have hk1 : (k : Int) < (d.nN : Int) := by omega
      have lx := block_lt_of_cell hxc
      have ly := block_lt_of_cell hyc
      simp only at lx ly
      clear hx hbo'
      by_cases q : sh k = sh' k
      · have z : (sh k != sh' k) = false := by rw [bne_eq_false_iff_eq]; exact q
        have HC : Hid (chg sh sh' (k + 1) = chg sh sh' k) := by show _ = _; conv => lhs; unfold chg; rw [if_pos q]
        clear q
        go_wp2_with fail
        go_quiet (fail)
        go_wp2
        go_roundw
        case rel => exact ⟨k + 1, by omega, by go_num, by rw [HC.out]; exact hown.kept (row := none) ⟨rfl, rfl, rfl, Nat.le_refl _, fun _ _ _ => rfl⟩ (by cases u9.ownBlock <;> simp), below_drewN hbw _⟩
        case measure => simp [intOf]; omega
      · have z : (sh k != sh' k) = true := by rw [bne_iff_ne]; exact q
        have HC : Hid (chg sh sh' (k + 1) = chg sh sh' k ++ [((k : Int), sh k, sh' k)]) := by show _ = _; conv => lhs; unfold chg; rw [if_neg q]
        clear q
        go_wp2_with fail
        go_quiet (fail)
        go_wp2_with fail
        have hownV : (wr.drewN nq).ownsRow w2.heap.size 63 3 u9 (chg sh sh' k).length (cellsC (chg sh sh' k)) := hown.kept (row := none) ⟨rfl, rfl, rfl, Nat.le_refl _, fun _ _ _ => rfl⟩ (by cases u9.ownBlock <;> simp)
        have hbV : Below w2.heap.size w2 (wr.drewN nq) := below_drewN hbw _
        have hxV : (wr.drewN nq).cell? ⟨bx, k, none⟩ = some (.int .i64 (sh k)) := hxc
        have hyV : (wr.drewN nq).cell? ⟨by', k, none⟩ = some (.int .i64 (sh' k)) := hyc
        have hVz : w2.heap.size ≤ (wr.drewN nq).heap.size := hwz
        have lxV : bx < (wr.drewN nq).heap.size := lx
        have lyV : by' < (wr.drewN nq).heap.size := ly
        clear hown hbw hxc hyc hwz lx ly z
        generalize (wr.drewN nq) = V at *
        have ax : u9.ownBlock ≠ some bx := fun e => by have := (hownV.lt bx e).1; omega
        have ay : u9.ownBlock ≠ some by' := fun e => by have := (hownV.lt by' e).1; omega
        go_region_held3 (fun w' => w'.cell? ⟨bx, k, none⟩ = some (.int .i64 (sh k)) ∧ w'.cell? ⟨by', k, none⟩ = some (.int .i64 (sh' k)))
          (first
            | go_keep
            | (go_split_ands
               refine ⟨?_, ?_⟩
               · (rw [hgrow.cell_far _ (by simp; omega) (Ne.symm ax)]; assumption)
               · (rw [hgrow.cell_far _ (by simp; omega) (Ne.symm ay)]; assumption)))
          ((refine step_append_lies _ (by rfl) _ _ _ (by rfl) w2.heap.size 63 i0 _ 3 24 Try.uChgs hi hz0 hz1 hz2 rfl (by omega) u9 (chg sh sh' k).length (cellsC (chg sh sh' k)) (by rfl) ((hownV.alloc _).drew)
              ⟨V.heap.size, 0, none⟩ 1 1 [.int .i64 (k : Int), .int .i64 (sh k), .int .i64 (sh' k)] (by rfl) (by rfl) (World.news_of_block (cs := #[.int .i64 (k : Int), .int .i64 (sh k), .int .i64 (sh' k)]) (t := 63) (fr := (0, 0)) (heap_alloc_new V _)) (by simp [Value.oneCell'])
              (by omega) (by unfold maxLen; omega) (by omega) (by simp; omega) (V.heap.size + 1) (by simp) ?_; intro gg cap w3 hown1 hgrow hat hlt3))
        have HBl : Hid (Below w2.heap.size w2 w3) := ((hbV.alloc hVz _).drew).grown hgrow (by simp; omega) (fun j hj => (hownV.lt j hj).1)
        have HO : Hid (w3.ownsRow w2.heap.size 63 3 (.slice (some ⟨gg, 0, none⟩) ((chg sh sh' k).length + 1) cap) (chg sh sh' (k + 1)).length (cellsC (chg sh sh' (k + 1)))) := by show World.ownsRow _ _ _ _ _ _ _; rw [HC.out, cellsC_snoc]; simpa using hown1
        clear hown1 hgrow hat hlt3 hownV hbV hxV hyV ax ay
        go_wp2
        go_roundw
        case rel => exact ⟨k + 1, by omega, by go_num, HO.out, HBl.out⟩
        case measure => simp [intOf]; omega
    · obtain rfl : k = d.nN := by omega
      have HBl : Below w.heap.size w wr := chain bel2 hbw
      have HRt : Hid (RetChg (.returned u9) w.heap.size wr (chg sh sh' d.nN)) := (RetChg.ofOwns rfl hown).wide bel2.size
      clear hx hbo' hbw hown
      go_wp2
      go_ret
      exact ⟨⟨wn, sh, wn', sh', HL.out.1, HL.out.2, HRt.out⟩, HBl⟩

end Go.Proofs.Ytachkoledebanab
