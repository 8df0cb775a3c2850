/-
  A signal as a line: the document's.
-/
import Derived.Test.YtachkoledebanabDoorStr
namespace Go.Proofs.YtachkoledebanabDoor
open Go.RowKit

def lampTxt (f : Nat → Bool) : Nat → List UInt8
  | 0 => []
  | a + 1 => lampTxt f a ++ (if f a then dec a else [45])
def headTxt (o : Bool) : List UInt8 := (if o then [111, 112, 101, 110] else [115, 104, 117, 116]) ++ [32, 108, 97, 109, 112, 115, 32]
def nextTxt (n : Int) : List UInt8 := if 0 ≤ n then [32, 110, 101, 120, 116, 32] ++ dec n.toNat else [32, 101, 110, 100]
def lineTxt (d : RD) (i : Nat) : List UInt8 := headTxt (d.op i) ++ lampTxt (d.wk i) 4 ++ nextTxt (d.nx i) ++ [32, 102, 97, 114, 32] ++ dec (d.fr i).toNat

theorem head_len (o : Bool) : (headTxt o).length = 11 := by cases o <;> rfl
theorem dec_len9 {n : Nat} (h : n < 1000000000) : (dec n).length ≤ 9 := dec_len (by omega) (by omega)
theorem lamp_len (f : Nat → Bool) : ∀ k, k ≤ 1000 → (lampTxt f k).length ≤ 9 * k
  | 0, _ => by simp [lampTxt]
  | k + 1, h => by
    have ih := lamp_len f k (by omega)
    have := dec_len9 (n := k) (by omega)
    unfold lampTxt
    rw [List.length_append]
    split
    · omega
    · simp; omega
theorem next_len {n : Int} (h : n < 1000000000) : (nextTxt n).length ≤ 15 := by
  unfold nextTxt
  split
  · have := dec_len9 (n := n.toNat) (by omega)
    rw [List.length_append]
    simp
    omega
  · simp

/-- a signal that can be told as a line -/
structure Tellable (d : RD) (i : Nat) : Prop where
  iN : i < d.nN
  iF : i < d.nF
  iO : i < d.nO
  iW : i < d.nW
  L4 : d.L i = 4
  nh : d.nx i < 1000000000
  f0 : 0 ≤ d.fr i
  f1 : d.fr i < 1000000000
theorem line_len {d : RD} {i : Nat} (h : Tellable d i) : (lineTxt d i).length ≤ 100 := by
  have h1 := head_len (d.op i)
  have h2 := lamp_len (d.wk i) 4 (by omega)
  have h3 := next_len h.nh
  have h4 := dec_len9 (n := (d.fr i).toNat) (by have := h.f0; have := h.f1; omega)
  unfold lineTxt
  simp only [List.length_append, List.length_cons, List.length_nil]
  omega

set_option maxHeartbeats 4000000 in
theorem line_any (a1 a2 a3 a4 : Option Addr) (c1 c2 c3 c4 : Nat) (A : Nat → Option Addr) (C : Nat → Nat) (d : RD) (i : Nat) (w : World) (hs : Small d) (ht : Tellable d i) (h : RowAt w a1 a2 a3 a4 A C d) :
    Calls Tryd.prog 13 #[.agg #[.slice a1 d.nN c1, .slice a2 d.nF c2, .slice a3 d.nO c3, .slice a4 d.nW c4], .int .i64 i] w fun e w' =>
      e = .returned (.string (bs (lineTxt d i))) ∧ Below w.heap.size w w' := by
  have bel : Below w.heap.size w (w.alloc (.cells #[.slice a1 d.nN c1, .slice a2 d.nF c2, .slice a3 d.nO c3, .slice a4 d.nW c4] 29)) := (Below.refl _ _).alloc (Nat.le_refl _) _
  have HK : Hid (RowAt (w.alloc (.cells #[.slice a1 d.nN c1, .slice a2 d.nF c2, .slice a3 d.nO c3, .slice a4 d.nW c4] 29)) a1 a2 a3 a4 A C d) := h.keep bel
  have hbk := Blk.new w #[.slice a1 d.nN c1, .slice a2 d.nF c2, .slice a3 d.nO c3, .slice a4 d.nW c4] 29
  have HT : Hid (Tellable d i) := ht
  have h20 : i < 1048576 := by have := ht.iN; have := hs.nN; omega
  have hO : i < d.nO := ht.iO
  have hW : i < d.nW := ht.iW
  have hO2 : d.nO ≤ 1048576 := hs.nO
  have hW2 : d.nW ≤ 1048576 := hs.nW
  clear h ht
  obtain ⟨bo, oo, rfl, hco⟩ := HK.out.op i hO
  obtain ⟨b4, o4, rfl, hc4⟩ := HK.out.wk i hW
  obtain ⟨W, hWe⟩ : ∃ W, W = w.alloc (.cells #[.slice a1 d.nN c1, .slice a2 d.nF c2, .slice (some ⟨bo, oo, none⟩) d.nO c3, .slice (some ⟨b4, o4, none⟩) d.nW c4] 29) := ⟨_, rfl⟩
  rw [← hWe] at HK hbk bel hco hc4
  have HBK : Hid (Blk W w.heap.size #[.slice a1 d.nN c1, .slice a2 d.nF c2, .slice (some ⟨bo, oo, none⟩) d.nO c3, .slice (some ⟨b4, o4, none⟩) d.nW c4] 29) := hbk
  clear hbk
  replace hco : W.cell? ⟨bo, oo + i, none⟩ = some (.bool (d.op i)) := hco
  replace hc4 : W.cell? ⟨b4, o4 + i, none⟩ = some (.slice (A i) (d.L i) (C i)) := hc4
  have HLM : Hid (SlAt W (A i) 4 (fun j => .bool (d.wk i j))) := by have := HK.out.lm i hW; rw [HT.out.L4] at this; exact this
  rw [HT.out.L4] at hc4
  obtain ⟨hd, hhd⟩ : ∃ hd, hd = headTxt (d.op i) := ⟨_, rfl⟩
  have HHD : Hid (hd = headTxt (d.op i)) := hhd
  have hhl : hd.length = 11 := by rw [hhd, head_len]
  cases hop : d.op i
  case' true =>
    have ha : (Op.stringOp .add ⟨#[111, 112, 101, 110]⟩ ⟨#[32, 108, 97, 109, 112, 115, 32]⟩).run Tryd.prog W = .ok (.string (bs hd)) W := by
      rw [hhd, hop]
      exact add_bs [111, 112, 101, 110] [32, 108, 97, 109, 112, 115, 32] (by simp) W
  case' false =>
    have ha : (Op.stringOp .add ⟨#[115, 104, 117, 116]⟩ ⟨#[32, 108, 97, 109, 112, 115, 32]⟩).run Tryd.prog W = .ok (.string (bs hd)) W := by
      rw [hhd, hop]
      exact add_bs [115, 104, 117, 116] [32, 108, 97, 109, 112, 115, 32] (by simp) W
  all_goals
    rw [hop] at hco
    clear hop hhd
    rw [hWe] at hco hc4 ha
    go_enter Tryd.func13, Tryd.ntmps13
    go_wp2
    clear ha hco hc4
    rw [← hWe]
    clear hWe
    go_loopw [5, 21] (fun o t wr => ∃ q : Nat, q ≤ 4 ∧ t = .int .i64 q ∧ o = .string (bs (hd ++ lampTxt (d.wk i) q)) ∧ Below W.heap.size W wr) (fun _ t _ => 4 - (intOf t).toNat)
    case atStart => exact ⟨0, by omega, rfl, by simp [lampTxt], Below.refl _ _⟩
    case round =>
      obtain ⟨q, hq, rfl, rfl, hB⟩ := hrel
      have hll := lamp_len (d.wk i) q (by omega)
      have HS : Hid (∀ b, d.wk i q = b → lampTxt (d.wk i) (q + 1) = lampTxt (d.wk i) q ++ (if b then dec q else [45])) := fun b e => by rw [← e]; rfl
      obtain ⟨sf, hsf⟩ : ∃ sf, sf = hd ++ lampTxt (d.wk i) q := ⟨_, rfl⟩
      have hsl : sf.length ≤ 50 := by rw [hsf, List.length_append]; omega
      have HSF : Hid (sf = hd ++ lampTxt (d.wk i) q) := hsf
      rw [← hsf]
      clear hsf hll
      by_cases hlt : q < 4
      · obtain ⟨bq, oq, hAq, hcq⟩ := (HLM.out.keep hB) q hlt
        replace hcq : wr.cell? ⟨bq, oq + q, none⟩ = some (.bool (d.wk i q)) := hcq
        generalize A i = Ai at *
        subst hAq
        cases hwk : d.wk i q
        · have HE : Hid (hd ++ lampTxt (d.wk i) (q + 1) = sf ++ [45]) := by show _ = _; rw [HS.out _ hwk, HSF.out, List.append_assoc]; rfl
          rw [hwk] at hcq
          have ha : (Op.stringOp .add (bs sf) ⟨#[45]⟩).run Tryd.prog wr = .ok (.string (bs (sf ++ [45]))) wr := add_bs sf [45] (by simp; omega) wr
          clear hwk
          go_wp2
          go_roundw
          case rel => exact ⟨q + 1, by omega, by go_num, by rw [HE.out], hB⟩
          case measure => simp [intOf]; omega
        · have HE : Hid (hd ++ lampTxt (d.wk i) (q + 1) = sf ++ dec q) := by show _ = _; rw [HS.out _ hwk, HSF.out, List.append_assoc]; rfl
          rw [hwk] at hcq
          have hdl := dec_len9 (n := q) (by omega)
          clear hwk
          go_wp2_with fail
          refine (decimal_any q wr (by omega)).mono ?_
          rintro e w2 ⟨rfl, hb2⟩
          have ha : (Op.stringOp .add (bs sf) (bs (dec q))).run Tryd.prog w2 = .ok (.string (bs (sf ++ dec q))) w2 := add_bs sf (dec q) (by omega) w2
          have hB2 : Below W.heap.size W w2 := chain hB hb2
          clear hcq
          go_wp2
          go_roundw
          case rel => exact ⟨q + 1, by omega, by go_num, by rw [HE.out], hB2⟩
          case measure => simp [intOf]; omega
      · obtain rfl : q = 4 := by omega
        have hbk := HBK.out.keep hB
        have x0 := hbk.cell 0
        have x1 := hbk.cell 1
        simp at x0 x1
        have hN := HT.out.iN
        have hF := HT.out.iF
        have hN2 := hs.nN
        have hF2 := hs.nF
        have hf0 := HT.out.f0
        have hf1 := HT.out.f1
        have hnh := HT.out.nh
        obtain ⟨bx, ox, rfl, hcx⟩ := (HK.out.keep hB).nx i hN
        obtain ⟨bf, of, rfl, hcf⟩ := HK.out.fr i hF
        replace hcx : wr.cell? ⟨bx, ox + i, none⟩ = some (.int .i64 (d.nx i)) := hcx
        replace hcf : W.cell? ⟨bf, of + i, none⟩ = some (.int .i64 (d.fr i)) := hcf
        clear HS hlt
        by_cases hneg : 0 ≤ d.nx i
        · obtain ⟨N, hN'⟩ : ∃ N : Nat, d.nx i = N := ⟨(d.nx i).toNat, by omega⟩
          rw [hN'] at hcx
          have HNT : Hid (nextTxt (d.nx i) = [32, 110, 101, 120, 116, 32] ++ dec N) := by
            show _ = _
            unfold nextTxt
            rw [if_pos hneg, hN', Int.toNat_natCast]
          have hdl := dec_len9 (n := N) (by omega)
          have hNb : N < 1000000000 := by omega
          clear hN' hneg hnh
          go_wp2_with fail
          refine (decimal_any N wr (by omega)).mono ?_
          rintro e w2 ⟨rfl, hb2⟩
          have ha1 : (Op.stringOp .add ⟨#[32, 110, 101, 120, 116, 32]⟩ (bs (dec N))).run Tryd.prog w2 = .ok (.string (bs ([32, 110, 101, 120, 116, 32] ++ dec N))) w2 := add_bs [32, 110, 101, 120, 116, 32] (dec N) (by simp; omega) w2
          rw [← HNT.out] at ha1
          have hnl := next_len HT.out.nh
          have ha2 : (Op.stringOp .add (bs sf) (bs (nextTxt (d.nx i)))).run Tryd.prog w2 = .ok (.string (bs (sf ++ nextTxt (d.nx i)))) w2 := add_bs sf _ (by omega) w2
          have hB2 : Below W.heap.size W w2 := chain hB hb2
          have hbk2 := HBK.out.keep hB2
          clear x0 x1
          have x1 := hbk2.cell 1
          simp at x1
          have hcf2 := (hB2.cell (p := ⟨bf, of + i, none⟩) (block_lt_of_cell hcf)).trans hcf
          obtain ⟨F, hF'⟩ : ∃ F : Nat, d.fr i = F := ⟨(d.fr i).toNat, by omega⟩
          rw [hF'] at hcf2
          have hFb : F < 1000000000 := by omega
          have hfl := dec_len9 hFb
          have ha3 : (Op.stringOp .add (bs (sf ++ nextTxt (d.nx i))) ⟨#[32, 102, 97, 114, 32]⟩).run Tryd.prog w2 = .ok (.string (bs (sf ++ nextTxt (d.nx i) ++ [32, 102, 97, 114, 32]))) w2 := add_bs _ [32, 102, 97, 114, 32] (by rw [List.length_append]; simp; omega) _
          have HFIN : Hid (sf ++ nextTxt (d.nx i) ++ [32, 102, 97, 114, 32] ++ dec F = lineTxt d i) := by
            show _ = _
            unfold lineTxt
            rw [HSF.out, HHD.out, hF', Int.toNat_natCast]
          have hLen : (sf ++ nextTxt (d.nx i) ++ [32, 102, 97, 114, 32]).length ≤ 100 := by simp only [List.length_append, List.length_cons, List.length_nil]; omega
          generalize sf ++ nextTxt (d.nx i) ++ [32, 102, 97, 114, 32] = s3 at *
          clear hF' hcf
          go_wp2_with fail
          refine (decimal_any F w2 hFb).mono ?_
          rintro e w3 ⟨rfl, hb3⟩
          have ha4 : (Op.stringOp .add (bs s3) (bs (dec F))).run Tryd.prog w3 = .ok (.string (bs (s3 ++ dec F))) w3 := add_bs _ _ (by omega) w3
          have hB3 : Below w.heap.size w w3 := chain (chain bel hB2) hb3
          rw [HFIN.out] at ha4
          go_wp2
          go_ret
          exact ⟨rfl, hB3⟩
        · have HNT : Hid (nextTxt (d.nx i) = [32, 101, 110, 100]) := by
            show _ = _
            unfold nextTxt
            rw [if_neg hneg]
          have hnl := next_len HT.out.nh
          have ha2 : (Op.stringOp .add (bs sf) ⟨#[32, 101, 110, 100]⟩).run Tryd.prog wr = .ok (.string (bs (sf ++ nextTxt (d.nx i)))) wr := by
            rw [HNT.out]
            exact add_bs sf [32, 101, 110, 100] (by simp; omega) wr
          have z : decide (0 ≤ d.nx i) = false := by simp; omega
          have hB2 : Below W.heap.size W wr := hB
          have hbk2 := HBK.out.keep hB2
          have hcf2 := (hB2.cell (p := ⟨bf, of + i, none⟩) (block_lt_of_cell hcf)).trans hcf
          obtain ⟨F, hF'⟩ : ∃ F : Nat, d.fr i = F := ⟨(d.fr i).toNat, by omega⟩
          rw [hF'] at hcf2
          have hFb : F < 1000000000 := by omega
          have hfl := dec_len9 hFb
          have ha3 : (Op.stringOp .add (bs (sf ++ nextTxt (d.nx i))) ⟨#[32, 102, 97, 114, 32]⟩).run Tryd.prog wr = .ok (.string (bs (sf ++ nextTxt (d.nx i) ++ [32, 102, 97, 114, 32]))) wr := add_bs _ [32, 102, 97, 114, 32] (by rw [List.length_append]; simp; omega) _
          have HFIN : Hid (sf ++ nextTxt (d.nx i) ++ [32, 102, 97, 114, 32] ++ dec F = lineTxt d i) := by
            show _ = _
            unfold lineTxt
            rw [HSF.out, HHD.out, hF', Int.toNat_natCast]
          have hLen : (sf ++ nextTxt (d.nx i) ++ [32, 102, 97, 114, 32]).length ≤ 100 := by simp only [List.length_append, List.length_cons, List.length_nil]; omega
          generalize sf ++ nextTxt (d.nx i) ++ [32, 102, 97, 114, 32] = s3 at *
          clear hF' hcf
          go_wp2_with fail
          refine (decimal_any F wr hFb).mono ?_
          rintro e w3 ⟨rfl, hb3⟩
          have ha4 : (Op.stringOp .add (bs s3) (bs (dec F))).run Tryd.prog w3 = .ok (.string (bs (s3 ++ dec F))) w3 := add_bs _ _ (by omega) w3
          have hB3 : Below w.heap.size w w3 := chain (chain bel hB2) hb3
          rw [HFIN.out] at ha4
          go_wp2
          go_ret
          exact ⟨rfl, hB3⟩

end Go.Proofs.YtachkoledebanabDoor
