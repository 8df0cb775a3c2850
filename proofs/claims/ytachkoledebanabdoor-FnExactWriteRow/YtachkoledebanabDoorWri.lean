/-
  WriteRow: the document's.
-/
import Derived.Test.YtachkoledebanabDoorLne
namespace Go.Proofs.YtachkoledebanabDoor
open Go.RowKit

def rowTxt (d : RD) : Nat → List UInt8
  | 0 => []
  | i + 1 => rowTxt d i ++ (lineTxt d i ++ [10])
def IsText (d : RD) (xs : List UInt8) : Prop := (Right d ∧ xs = rowTxt d d.nN) ∨ (¬ Right d ∧ xs = [])
theorem IsText.one {d : RD} {xs ys : List UInt8} (h : IsText d xs) (k : IsText d ys) : xs = ys := by
  rcases h with ⟨a, rfl⟩ | ⟨a, rfl⟩ <;> rcases k with ⟨a', rfl⟩ | ⟨a', rfl⟩
  · rfl
  · exact absurd a a'
  · exact absurd a' a
  · rfl
theorem Right.tell {d : RD} (h : Right d) {i : Nat} (hi : i < d.nN) : Tellable d i := by
  have h1 : OkWay d i := h.w i hi
  unfold OkWay at h1
  have h2 := h.s.nN
  have h3 := h.s.nF
  have h4 := h.s.nO
  have h5 := h.s.nW
  exact ⟨hi, by omega, by omega, by omega, h.l i (by omega), by omega, by omega, by omega⟩
theorem rowTxt_len {d : RD} (h : Right d) : ∀ k, k ≤ d.nN → (rowTxt d k).length ≤ 101 * k
  | 0, _ => by simp [rowTxt]
  | k + 1, hk => by
    have ih := rowTxt_len h k (by omega)
    have := line_len (h.tell (show k < d.nN by omega))
    unfold rowTxt
    simp only [List.length_append, List.length_cons, List.length_nil]
    omega

set_option maxHeartbeats 2000000 in
theorem specWriteRow_any (a1 a2 a3 a4 : Option Addr) (c1 c2 c3 c4 : Nat) (A : Nat → Option Addr) (C : Nat → Nat) (d : RD) (w : World) (hs : Small d) (h : RowAt w a1 a2 a3 a4 A C d) :
    Calls Tryd.prog 5 #[.agg #[.slice a1 d.nN c1, .slice a2 d.nF c2, .slice a3 d.nO c3, .slice a4 d.nW c4]] w fun e w' =>
      (∃ xs, IsText d xs ∧ e = .returned (.string (bs xs))) ∧ Below w.heap.size w w' := by
  have bel : Below w.heap.size w (w.alloc (.cells #[.slice a1 d.nN c1, .slice a2 d.nF c2, .slice a3 d.nO c3, .slice a4 d.nW c4] 29)) := (Below.refl _ _).alloc (Nat.le_refl _) _
  have hk := h.keep bel
  have hbk := Blk.new w #[.slice a1 d.nN c1, .slice a2 d.nF c2, .slice a3 d.nO c3, .slice a4 d.nW c4] 29
  clear h
  go_enter Tryd.func5, Tryd.ntmps5
  go_wp2_with fail
  generalize (w.alloc (.cells #[.slice a1 d.nN c1, .slice a2 d.nF c2, .slice a3 d.nO c3, .slice a4 d.nW c4] 29)) = W at *
  refine (specRowOk_any a1 a2 a3 a4 c1 c2 c3 c4 A C d W hs hk).mono ?_
  rintro e w1 ⟨⟨r, rfl, hr⟩, hb1⟩
  have bel1 : Below w.heap.size w w1 := chain bel hb1
  by_cases hr0 : r = 0
  case neg =>
    have z : (r != 0) = true := by rw [bne_iff_ne]; exact hr0
    have HB : Hid (IsText d []) := Or.inr ⟨fun u => hr0 (hr.zero u), rfl⟩
    clear hk hbk hb1 hr hs
    go_wp2
    go_ret
    exact ⟨⟨[], HB.out, rfl⟩, bel1⟩
  subst hr0
  have hR : Hid (Right d) := hr.rt
  have h60 : d.nN ≤ 60 := hR.out.s.nN
  have z : ((0 : Int) != 0) = false := by simp
  have HK1 : Hid (RowAt w1 a1 a2 a3 a4 A C d) := hk.keep hb1
  have HBR : Hid (Blk w1 w.heap.size #[.slice a1 d.nN c1, .slice a2 d.nF c2, .slice a3 d.nO c3, .slice a4 d.nW c4] 29) := hbk.keep hb1
  have HSM : Hid (Small d) := hs
  have x0 := HBR.out.cell 0
  simp at x0
  clear hbk hk hb1 bel hr hs
  go_wp2
  go_loopw [3, 11] (fun o t wr => ∃ q : Nat, q ≤ d.nN ∧ t = .int .i64 q ∧ o = .string (bs (rowTxt d q)) ∧ Below w1.heap.size w1 wr) (fun _ t _ => d.nN - (intOf t).toNat)
  case atStart => exact ⟨0, by omega, rfl, rfl, Below.refl _ _⟩
  case round =>
    obtain ⟨q, hq, rfl, rfl, hB⟩ := hrel
    have hlen := rowTxt_len hR.out q hq
    by_cases hlt : q < d.nN
    · have hbr := HBR.out.keep hB
      clear x0
      have x0 := hbr.cell 0
      have x1 := hbr.cell 1
      have x2 := hbr.cell 2
      have x3 := hbr.cell 3
      simp at x0 x1 x2 x3
      have hT := hR.out.tell hlt
      have hll := line_len hT
      have hln := line_any a1 a2 a3 a4 c1 c2 c3 c4 A C d q wr HSM.out hT (HK1.out.keep hB)
      have HS : Hid (rowTxt d (q + 1) = rowTxt d q ++ (lineTxt d q ++ [10])) := rfl
      generalize lineTxt d q = ln at *
      generalize rowTxt d q = rt at *
      clear hT
      go_wp2_with fail
      refine hln.mono ?_
      rintro e w2 ⟨rfl, hb2⟩
      have ha1 : (Op.stringOp .add (bs ln) ⟨#[10]⟩).run Tryd.prog w2 = .ok (.string (bs (ln ++ [10]))) w2 := add_bs ln [10] (by simp; omega) w2
      have ha2 : (Op.stringOp .add (bs rt) (bs (ln ++ [10]))).run Tryd.prog w2 = .ok (.string (bs (rt ++ (ln ++ [10])))) w2 := add_bs _ _ (by simp; omega) w2
      have hB2 : Below w1.heap.size w1 w2 := chain hB hb2
      clear hln x0 x1 x2 x3 hbr
      go_wp2
      go_roundw
      case rel => exact ⟨q + 1, by omega, by go_num, by rw [HS.out], hB2⟩
      case measure => simp [intOf]; omega
    · obtain rfl : q = d.nN := by omega
      have HI : Hid (IsText d (rowTxt d d.nN)) := Or.inl ⟨hR.out, rfl⟩
      clear x0
      go_wp2
      go_ret
      exact ⟨⟨_, HI.out, rfl⟩, chain bel1 hB⟩

end Go.Proofs.YtachkoledebanabDoor
