/-
  l2both: all are asked anew, all at once, until nothing changes.
-/
import Derived.Test.YtachkoledebanabGreatDoorShow2
import Derived.Maps.AppendAt
import Derived.Deep.LoopGhost
namespace Go.Proofs.YtachkoledebanabGreatDoor
open Go.RowKit

/-- two lists in new memory -/
def RetTwo (e : Ending) (lo : Nat) (w' : World) (n : Nat) (f g : Nat → Int) : Prop :=
  ∃ ao ca bo cb, e = .returned (.tuple #[.slice ao n ca, .slice bo n cb]) ∧ OwnS w' lo w'.heap.size ao n (fun k => .int .i64 (f k)) ∧ OwnS w' lo w'.heap.size bo n (fun k => .int .i64 (g k))

/-- two slices do not lie in one row -/
def Apart (a b : Value) : Prop := ∀ g, a.ownBlock = some g → b.ownBlock ≠ some g
theorem Apart.symm {a b : Value} (h : Apart a b) : Apart b a := fun g hb ha => h g ha hb
theorem Apart.row {a b : Value} (h : Apart a b) : a.ownBlock = none ∨ a.ownBlock ≠ b.ownBlock := by
  cases e : a.ownBlock with
  | none => exact Or.inl rfl
  | some g => exact Or.inr fun e' => h g e e'.symm
/-- behind an append onto a: it lies where it lay, or in a new block -/
theorem Apart.grown {a a' b : Value} {n : Nat} (h : Apart a b) (hl : a'.ownBlock = a.ownBlock ∨ a'.ownBlock = some n) (hb : ∀ g, b.ownBlock = some g → g < n) : Apart a' b := fun g ha hg => by
  rcases hl with e | e
  · exact h g (e ▸ ha) hg
  · rw [e] at ha
    have := hb g hg
    cases ha
    omega

/-- has nothing changed among the first j? -/
def sameTo (d : RD) (k j : Nat) : Bool := (List.range j).all (fun i => Sh d (k + 1) i == Sh d k i && Wn d (k + 1) i == Wn d k i)
theorem sameTo_succ (d : RD) (k j : Nat) : sameTo d k (j + 1) = (sameTo d k j && (Sh d (k + 1) j == Sh d k j && Wn d (k + 1) j == Wn d k j)) := by simp [sameTo, List.range_succ, List.all_append]
theorem sameTo_still {d : RD} {k n : Nat} : sameTo d k n = true ↔ Still d n k := by
  simp only [sameTo, List.all_eq_true, List.mem_range, Bool.and_eq_true, beq_iff_eq]
  exact ⟨fun h => ⟨fun i hi => (h i hi).1, fun i hi => (h i hi).2⟩, fun h i hi => ⟨h.sh i hi, h.wn i hi⟩⟩

theorem Right.inside {d : RD} (h : Right d) : Inside d d.nN := fun i hi => (h.w i hi).1.2

set_option maxHeartbeats 4000000 in
theorem l2both_any (a1 a2 a3 a4 : Option Addr) (c1 c2 c3 c4 : Nat) (A : Nat → Option Addr) (C : Nat → Nat) (d : RD) (w : World) (h : RowAt w a1 a2 a3 a4 A C d) (hR : Right d) :
    Calls Tryz.prog 21 #[.agg #[.slice a1 d.nN c1, .slice a2 d.nF c2, .slice a3 d.nO c3, .slice a4 d.nW c4]] w fun e w' =>
      (∃ wn sh, Least d d.nN wn sh ∧ RetTwo e w.heap.size w' d.nN wn sh) ∧ Below w.heap.size w w' := by
  obtain ⟨i0, hi, hz0, hz1, hz2⟩ := info_parts Tryz.iInt
  have HR : Hid (Right d) := hR
  have h60 := hR.s.nN
  obtain ⟨m, hm, hmin⟩ := least_some (still_some hR.inside)
  have HM : Hid (Still d d.nN m ∧ ∀ k, k < m → ¬ Still d d.nN k) := ⟨hm, hmin⟩
  have hmk := run_make_row' (P := Tryz.prog) 22 3 (.int .i64 0) 8 Tryz.uInts Tryz.iInt rfl .i64 .i64 d.nN (by omega) (by omega)
  clear hm hmin hR
  go_enter Tryz.func21, Tryz.ntmps21
  go_wp2
  generalize hW : (((w.alloc (.cells #[.slice a1 d.nN c1, .slice a2 d.nF c2, .slice a3 d.nO c3, .slice a4 d.nW c4] 26)).alloc (.cells (madeCells #[.int .i64 0] d.nN) 3)).alloc (.cells (madeCells #[.int .i64 0] d.nN) 3)) = W
  have bW : Below w.heap.size w W := by subst hW; exact (((Below.refl _ _).alloc (Nat.le_refl _) _).alloc (by simp) _).alloc (by simp; omega) _
  have sW : W.heap.size = w.heap.size + 1 + 1 + 1 := by subst hW; simp
  have pW : Blk W w.heap.size #[.slice a1 d.nN c1, .slice a2 d.nF c2, .slice a3 d.nO c3, .slice a4 d.nW c4] 26 := by subst hW; exact ((Blk.new _ _ _).alloc _).alloc _
  have r1 : W.rowIs (w.heap.size + 1) 3 d.nN (fun _ => .int .i64 0) := by
    subst hW
    have := World.rowIs_made (w.alloc (.cells #[.slice a1 d.nN c1, .slice a2 d.nF c2, .slice a3 d.nO c3, .slice a4 d.nW c4] 26)) (.int .i64 0) d.nN 3
    rw [World.size_alloc] at this
    exact this.alloc _
  have r2 : W.rowIs (w.heap.size + 1 + 1) 3 d.nN (fun _ => .int .i64 0) := by
    subst hW
    have := World.rowIs_made ((w.alloc (.cells #[.slice a1 d.nN c1, .slice a2 d.nF c2, .slice a3 d.nO c3, .slice a4 d.nW c4] 26)).alloc (.cells (madeCells #[.int .i64 0] d.nN) 3)) (.int .i64 0) d.nN 3
    rw [World.size_alloc, World.size_alloc] at this
    exact this
  clear hW
  go_loopw [23] (fun i wr => ∃ k : Nat, k ≤ d.nN ∧ i = .int .i64 k ∧ wr.rowIs (w.heap.size + 1 + 1) 3 d.nN (fun j => if j < k then .int .i64 (Sh d 0 j) else .int .i64 0) ∧ Below (w.heap.size + 1 + 1) W wr ∧ wr.heap.size = w.heap.size + 1 + 1 + 1) (fun i _ => d.nN - (intOf i).toNat)
  case atStart => exact ⟨0, Nat.zero_le _, rfl, r2.congr (fun i _ => by simp), Below.refl _ _, sW⟩
  case round =>
    obtain ⟨k, hkn, rfl, hrow, hb, hsz⟩ := hrel
    have pr := pW.below hb (by omega)
    have b3 := pr.cell 3
    simp at b3
    have belr : Below w.heap.size w wr := bW.trans (hb.mono (by omega))
    have hk := h.keep belr
    by_cases hlt : k < d.nN
    · have hnW : k < d.nW := by rw [HR.out.s.nW]; exact hlt
      have hL := HR.out.l k hnW
      obtain ⟨b, o, rfl, hc⟩ := hk.wk k hnW
      have hlm := hk.lm k hnW
      simp only [hL] at hc hlm
      have hcell := hrow.cell hlt
      have hfz := hrow.frozen k
      have R := row_step (f := fun j => .int .i64 (Sh d 0 j)) hrow
      have HRw : Hid _ := R
      have HB : Hid _ := hb.setCell (p := ⟨w.heap.size + 1 + 1, k, none⟩) (Nat.le_refl _) (.int .i64 (Sh d 0 k))
      have HS : Hid (wr.heap.size = w.heap.size + 1 + 1 + 1) := hsz
      have HE : Hid (lamp (d.wk k) 0 = Sh d 0 k) := rfl
      clear hk hL R hrow hb hsz h pr
      go_wp2_with fail
      refine (l2lamp_any (A k) (C k) (d.wk k) 0 wr hlm (by omega) (by omega)).mono ?_
      rintro e w' ⟨rfl, hw'⟩
      have hw' := hw'.symm
      subst hw'
      rw [HE.out]
      clear hlm
      go_wp2
      go_roundw
      case rel => exact ⟨k + 1, by omega, by go_num, HRw.out, HB.out, by simpa using HS.out⟩
      case measure => simp [intOf]; omega
    · obtain rfl : k = d.nN := by omega
      have o1 := OwnS.ofRow (lo := w.heap.size) (hi := wr.heap.size) ((rowIs_below r1 hb (by omega)).congr (g := fun j => .int .i64 (Wn d 0 j)) (fun j _ => rfl)) (by omega) (by omega)
      have o2 := OwnS.ofRow (lo := w.heap.size) (hi := wr.heap.size) (hrow.congr (g := fun j => .int .i64 (Sh d 0 j)) (fun j hj => by rw [if_pos hj])) (by omega) (by omega)
      have hpl : w.heap.size < wr.heap.size := by omega
      obtain ⟨W1, rfl⟩ : ∃ W1, W1 = wr := ⟨wr, rfl⟩
      clear hrow hb hsz r1 r2 pW bW sW b3
      go_wp2
      go_loopg [4, 5] m (fun g v4 v5 wx => ∃ (k : Nat) (wo so : Option Addr) (cw cs : Nat), k + g = m ∧ v4 = .slice wo d.nN cw ∧ v5 = .slice so d.nN cs ∧ OwnS wx w.heap.size wx.heap.size wo d.nN (fun j => .int .i64 (Wn d k j)) ∧ OwnS wx w.heap.size wx.heap.size so d.nN (fun j => .int .i64 (Sh d k j)) ∧ Below W1.heap.size W1 wx)
      case atStart => exact ⟨0, _, _, _, _, Nat.zero_add _, rfl, rfl, o1, o2, Below.refl _ _⟩
      case round =>
        obtain ⟨k, wo, so, cw, cs, hkm, rfl, rfl, ow, os, hbx⟩ := hrel
        obtain ⟨X, rfl⟩ : ∃ X, X = wr := ⟨wr, rfl⟩
        have hX : Below w.heap.size w X := chain belr hbx
        have hXs := hX.size
        have pX := pr.keep hbx
        have hPX : w.heap.size < X.heap.size := pX.lt
        clear o1 o2 hkn hlt hk pr hpl
        go_wp2
        go_loopw [7, 8, 9, 38] (fun vw vx sm i wy => ∃ j : Nat, j ≤ d.nN ∧ i = .int .i64 j ∧ wy.ownsRow X.heap.size 3 1 vw (lst (Wn d (k + 1)) j).length ((lst (Wn d (k + 1)) j).map (Value.int .i64)) ∧
            wy.ownsRow X.heap.size 3 1 vx (lst (Sh d (k + 1)) j).length ((lst (Sh d (k + 1)) j).map (Value.int .i64)) ∧ Apart vw vx ∧ sm = .bool (sameTo d k j) ∧ Below X.heap.size X wy) (fun _ _ _ i _ => d.nN - (intOf i).toNat)
        case atStart => exact ⟨0, Nat.zero_le _, rfl, World.ownsRow_nil _ _ _ _, World.ownsRow_nil _ _ _ _, fun g hg => (by simp [Value.ownBlock] at hg), rfl, Below.refl _ _⟩
        case round =>
          obtain ⟨j, hj, rfl, hw7, hx8, hap, rfl, hby⟩ := hrel
          obtain ⟨Y, rfl⟩ : ∃ Y, Y = wr := ⟨wr, rfl⟩
          have hYs := hby.size
          have hY : Below w.heap.size w Y := chain hX hby
          by_cases hlt : j < d.nN
          · have pY := pX.below hby hPX
            have b0 := pY.cell 0
            have b1 := pY.cell 1
            have b2 := pY.cell 2
            have b3 := pY.cell 3
            simp at b0 b1 b2 b3
            have hkY := h.keep hY
            have hsY := os.sl.keep hby
            have hwY := ow.sl.keep hby
            go_wp2_with fail
            refine (l2want_any a1 a2 a3 a4 so c1 c2 c3 c4 cs d.nN A C d (Sh d k) j Y hkY rfl HR.out.s.nO h60 HR.out.inside hlt hsY (fun i _ => Sh_lo d k i) (fun i _ => Sh_hi d k i)).mono ?_
            rintro e w2 ⟨rfl, hb2⟩
            have e1 : wish d (Sh d k) j = Wn d (k + 1) j := rfl
            rw [e1]
            have l1 := Wn_lo d (k + 1) j
            have l2 := Wn_hi d (k + 1) j
            have hnW : j < d.nW := by rw [HR.out.s.nW]; exact hlt
            have hL := HR.out.l j hnW
            have h2w := chain hY hb2
            have hk2 := h.keep h2w
            obtain ⟨b, o, ea4, hc⟩ := hk2.wk j hnW
            have hlm := hk2.lm j hnW
            simp only [hL] at hc hlm
            obtain ⟨bs, os', eso, hcs⟩ := (hsY.keep hb2) j hlt
            obtain ⟨bw, ow', ewo, hcw⟩ := (hwY.keep hb2) j hlt
            have p2 := pY.keep hb2
            clear b0 b1 b2 b3
            have b3 := p2.cell 3
            simp at b3
            have hw2 : w2.ownsRow X.heap.size 3 1 u7 (lst (Wn d (k + 1)) j).length ((lst (Wn d (k + 1)) j).map (Value.int .i64)) := hw7.kept (row := none) ⟨hb2.os, hb2.tape, hb2.output, hb2.size, fun q hq _ => hb2.block q hq⟩ (by cases u7.ownBlock <;> simp)
            have hx2 : w2.ownsRow X.heap.size 3 1 u8 (lst (Sh d (k + 1)) j).length ((lst (Sh d (k + 1)) j).map (Value.int .i64)) := hx8.kept (row := none) ⟨hb2.os, hb2.tape, hb2.output, hb2.size, fun q hq _ => hb2.block q hq⟩ (by cases u8.ownBlock <;> simp)
            have hby2 : Below X.heap.size X w2 := chain hby hb2
            clear hkY hsY hwY hk2 hL hw7 hx8 pY hb2 hby hYs hY h2w p2
            subst ea4 eso ewo
            go_wp2_with fail
            refine (l2lamp_any (A j) (C j) (d.wk j) (Wn d (k + 1) j) w2 hlm l1 l2).mono ?_
            rintro e w' ⟨rfl, hw'⟩
            have hw' := hw'.symm
            subst hw'
            have e2 : lamp (d.wk j) (Wn d (k + 1) j) = Sh d (k + 1) j := rfl
            rw [e2]
            clear hlm
            have HSm : Hid (sameTo d k (j + 1) = (sameTo d k j && (Sh d (k + 1) j == Sh d k j && Wn d (k + 1) j == Wn d k j))) := sameTo_succ d k j
            have HapL : ∀ g, u8.ownBlock = some g → g < w2.heap.size + 1 := fun g hg => by have := (hx2.lt g hg).2; omega
            have Hap : Hid (Apart u7 u8) := hap
            have HapLt : Hid (∀ g, u8.ownBlock = some g → g < w2.heap.size + 1) := HapL
            have hj2 := hby2.size
            clear hap HapL
            cases hs1 : sameTo d k j <;> cases hs2 : (Sh d (k + 1) j == Sh d k j) <;> cases hs3 : (Wn d (k + 1) j == Wn d k j)
            all_goals
              rw [hs1, hs2, hs3] at HSm
              clear hs1
              go_wp2_with (first
                | (at_builtin; refine wpList_append_own_at _ rfl (.tmp 69) (.tmp 71) 22 rfl X.heap.size 3 i0 (.int .i64 0) 1 8 Tryz.uInts hi hz0 hz1 hz2 rfl (by decide) _ _ _ rfl (hw2.alloc _) ⟨w2.heap.size, 0, none⟩ 1 1 [.int .i64 (Wn d (k + 1) j)] rfl rfl (cell_one_new _ _ _) (ints_oneCell .i64 [Wn d (k + 1) j]) (by unfold maxLen; rw [lst_len]; omega) (by rw [lst_len]; omega) (by simp; omega) ?_; intro v7 w3 hw3 hg3 hn3 hl3; have hx3 := (hx2.alloc (.cells #[.int .i64 (Wn d (k + 1) j)] 3)).kept hg3 Hap.out.symm.row; have hb3 := app_below hby2 hj2 hw2 hg3; have hz3 := hb3.size)
                | (at_builtin; refine wpList_append_own_at _ rfl (.tmp 73) (.tmp 75) 22 rfl X.heap.size 3 i0 (.int .i64 0) 1 8 Tryz.uInts hi hz0 hz1 hz2 rfl (by decide) _ _ _ rfl (hx3.alloc _) ⟨w3.heap.size, 0, none⟩ 1 1 [.int .i64 (Sh d (k + 1) j)] rfl rfl (cell_one_new _ _ _) (ints_oneCell .i64 [Sh d (k + 1) j]) (by unfold maxLen; rw [lst_len]; omega) (by rw [lst_len]; omega) (by simp; omega) ?_; intro v8 w4 hx4 hg4 hn4 hl4))
            all_goals
              have hl3' : v7.ownBlock = u7.ownBlock ∨ v7.ownBlock = some (w2.heap.size + 1) := by
                rcases hl3 with h | h
                · exact Or.inl h
                · exact Or.inr (by simpa using h)
              have hl4' : v8.ownBlock = u8.ownBlock ∨ v8.ownBlock = some (w3.heap.size + 1) := by
                rcases hl4 with h | h
                · exact Or.inl h
                · exact Or.inr (by simpa using h)
              have ap1 : Apart v7 u8 := Hap.out.grown (n := w2.heap.size + 1) hl3' HapLt.out
              have ap2 : Apart v7 v8 := (ap1.symm.grown (n := w3.heap.size + 1) hl4' (fun g hg => by have := (hw3.lt g hg).2; omega)).symm
              have hw4 := (hw3.alloc (.cells #[.int .i64 (Sh d (k + 1) j)] 3)).kept hg4 ap1.row
              have hb4 := app_below hb3 hz3 hx3 hg4
              have HW4 : Hid (w4.ownsRow X.heap.size 3 1 v7 (lst (Wn d (k + 1)) (j + 1)).length ((lst (Wn d (k + 1)) (j + 1)).map (Value.int .i64))) := by show World.ownsRow _ _ _ _ _ _ _; rw [lst_snoc]; simpa using hw4
              have HX4 : Hid (w4.ownsRow X.heap.size 3 1 v8 (lst (Sh d (k + 1)) (j + 1)).length ((lst (Sh d (k + 1)) (j + 1)).map (Value.int .i64))) := by show World.ownsRow _ _ _ _ _ _ _; rw [lst_snoc]; simpa using hx4
              clear hw3 hg3 hn3 hl3 hx4 hg4 hn4 hl4 hw4 hl3' hl4'
              go_roundw
              case rel => exact ⟨j + 1, by omega, by go_num, HW4.out, HX4.out, ap2, by rw [HSm.out]; rfl, hb4⟩
              case measure => simp [intOf]; omega
          · obtain rfl : j = d.nN := by omega
            obtain ⟨wo', cw', rfl, ow2⟩ := own_lst hw7
            obtain ⟨so', cs', rfl, os2⟩ := own_lst hx8
            have hYX : Below W1.heap.size W1 Y := hbx.trans (hby.mono hbx.size)
            have ow3 : Hid (OwnS Y w.heap.size Y.heap.size wo' d.nN (fun j => .int .i64 (Wn d (k + 1) j))) := ow2.wide hXs (Nat.le_refl _)
            have os3 : Hid (OwnS Y w.heap.size Y.heap.size so' d.nN (fun j => .int .i64 (Sh d (k + 1) j))) := os2.wide hXs (Nat.le_refl _)
            cases hs : sameTo d k d.nN with
            | true =>
              have hst := sameTo_still.1 hs
              have HL : Hid (Least d d.nN (Wn d k) (Sh d k)) := hst.least HR.out.inside
              have HT : Hid (RetTwo (.returned (.tuple #[.slice wo d.nN cw, .slice so d.nN cs])) w.heap.size Y d.nN (Wn d k) (Sh d k)) :=
                ⟨wo, cw, so, cs, rfl, (ow.keep hby).wide (Nat.le_refl _) hYs, (os.keep hby).wide (Nat.le_refl _) hYs⟩
              clear hst hs ow os ow2 os2 hw7 hx8
              go_wp2
              go_ret2
              exact ⟨⟨_, _, HL.out, HT.out⟩, hY⟩
            | false =>
              have hkm2 : k ≠ m := fun e => by
                have := sameTo_still.2 (e ▸ HM.out.1)
                rw [hs] at this; cases this
              clear hs ow os ow2 os2 hw7 hx8
              go_wp2
              go_roundg (gk - 1)
              case measure => omega
              case rel => exact ⟨k + 1, wo', so', cw', cs', by omega, rfl, rfl, ow3.out, os3.out, hYX⟩

end Go.Proofs.YtachkoledebanabGreatDoor
