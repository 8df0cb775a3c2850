import Derived.Test.YtachkoledebanabGreatDoorBaseEtc
import Derived.Laws.Concat
import Derived.Laws.IdiomStrings
import Derived.Laws.BytesString
import Derived.Lib.IndexMore
import Derived.Lib.AtoiAll
namespace Go.Proofs.YtachkoledebanabGreatDoor
open Go.RowKit

/-- a text -/
def bs (l : List UInt8) : ByteArray := ⟨l.toArray⟩
theorem bs_size (l : List UInt8) : (bs l).size = l.length := by show l.toArray.size = _; simp
theorem bs_app (x y : List UInt8) : bs x ++ bs y = bs (x ++ y) := by unfold bs; rw [ByteArray.mk_append_mk]
theorem bs_list (l : List UInt8) : (bs l).toList = l := ByteArray.toList_mk l
theorem add_bs {P : Program} (x y : List UInt8) (h : x.length + y.length ≤ 9223372036854775807) (w : World) : (Op.stringOp .add (bs x) (bs y)).run P w = .ok (.string (bs (x ++ y))) w := by
  rw [run_string_add_sum w _ _ (by rw [bs_size, bs_size]; exact h), bs_app]

/-- the digits of a number, none for 0 -/
def dig (n : Nat) : UInt8 := UInt8.ofNat (48 + n % 10)
def decP (n : Nat) : List UInt8 := if n = 0 then [] else decP (n / 10) ++ [dig n]
decreasing_by omega
def dec (n : Nat) : List UInt8 := if n = 0 then [48] else decP n
theorem decP_zero : decP 0 = [] := by unfold decP; simp
theorem decP_pos {n : Nat} (h : 0 < n) : decP n = decP (n / 10) ++ [dig n] := by
  rw [decP, if_neg (by omega)]
theorem decP_len : ∀ (k n : Nat), n < 10 ^ k → (decP n).length ≤ k
  | 0, n, h => by
    obtain rfl : n = 0 := by omega
    rw [decP_zero]; simp
  | k + 1, n, h => by
    by_cases e : n = 0
    · subst e; rw [decP_zero]; simp
    · rw [decP_pos (by omega), List.length_append, List.length_singleton]
      have := decP_len k (n / 10) (by rw [Nat.pow_succ] at h; omega)
      omega
theorem dec_len {k n : Nat} (hk : 0 < k) (h : n < 10 ^ k) : (dec n).length ≤ k := by
  unfold dec
  split
  · exact hk
  · exact decP_len k n h

theorem conv_one (w : World) {v : Int} {c : UInt8} (h : (c.toNat : Int) = v) : (convert 53 9 (.slice (some ⟨w.heap.size, 0, none⟩) 1 1)).run Tryz.prog (w.alloc (.cells #[.int .u8 v] 5)) = .ok (.string (bs [c])) (w.alloc (.cells #[.int .u8 v] 5)) :=
  run_convert_bytes_back (P := Tryz.prog) (w.alloc (.cells #[.int .u8 v] 5)) 53 9 5 ⟨w.heap.size, 0, none⟩ 1 [c] Tryz.underlying53 Tryz.underlying5 Tryz.underlying9 (fun j hj => by
    obtain rfl : j = 0 := by simpa using hj
    have h1 := (Blk.new w #[.int .u8 v] 5).cell 0
    show World.cell? _ ⟨w.heap.size, 0, none⟩ = some (.int .u8 (c.toNat : Int))
    rw [h1, h]
    rfl)
theorem dig_nat (n : Nat) : ((dig n).toNat : Int) = 48 + (n : Int) % 10 := by
  unfold dig
  rw [UInt8.toNat_ofNat_of_lt' (show 48 + n % 10 < 256 by omega)]
  omega

set_option maxHeartbeats 1000000 in
theorem decimal_any (n : Nat) (w : World) (hn : n < 1000000000) :
    Calls Tryz.prog 20 #[.int .i64 n] w fun e w' => e = .returned (.string (bs (dec n))) ∧ Below w.heap.size w w' := by
  go_enter Tryz.func20, Tryz.ntmps20
  by_cases h0 : n = 0
  · subst h0
    go_wp2
    go_ret
    exact ⟨by simp [dec]; rfl, Below.refl _ _⟩
  have z : ((n : Int) == 0) = false := by rw [beq_eq_false_iff_ne]; omega
  go_wp2
  go_loopw [0, 3] (fun t o wr => ∃ (N : Nat) (out : List UInt8), t = .int .i64 N ∧ o = .string (bs out) ∧ decP N ++ out = decP n ∧ N ≤ n ∧ Below w.heap.size w wr) (fun t _ _ => (intOf t).toNat)
  case atStart => exact ⟨n, [], rfl, rfl, by simp, Nat.le_refl _, Below.refl _ _⟩
  case round =>
    obtain ⟨N, out, rfl, rfl, hd, hN, hB⟩ := hrel
    have hlen : out.length ≤ 9 := by
      have h1 := decP_len 9 n (by omega)
      rw [← hd, List.length_append] at h1
      omega
    have HD : Hid (decP N ++ out = decP n) := hd
    clear hd
    by_cases hp : 0 < N
    · have hc := conv_one wr (dig_nat N)
      have ha := add_bs (P := Tryz.prog) [dig N] out (by simp; omega) (wr.alloc (.cells #[.int .u8 (48 + (N : Int) % 10)] 5))
      have HN : Hid (decP (N / 10) ++ ([dig N] ++ out) = decP n) := by show _ = _; rw [← List.append_assoc, ← decP_pos hp]; exact HD.out
      have hB' : Below w.heap.size w (wr.alloc (.cells #[.int .u8 (48 + (N : Int) % 10)] 5)) := hB.alloc hB.size _
      go_wp2
      go_roundw
      case rel => exact ⟨N / 10, [dig N] ++ out, by go_num, rfl, HN.out, by omega, hB'⟩
      case measure => simp [intOf]; omega
    · obtain rfl : N = 0 := by omega
      have HE : Hid (out = dec n) := by
        show _ = _
        have h1 := HD.out
        rw [decP_zero, List.nil_append] at h1
        unfold dec
        rw [if_neg h0]
        exact h1
      go_wp2
      go_ret
      exact ⟨by rw [← HE.out]; rfl, hB⟩

theorem own_cells {w : World} {lo t : Nat} {v : Value} {n : Nat} {xs : List Value} (h : w.ownsRow lo t 1 v n xs) (hn : xs.length = n) : ∃ ao cap, v = .slice ao n cap ∧ SlAt w ao n (fun k => xs.getD k undef) := by
  obtain ⟨h1, ⟨hv, hn0⟩ | ⟨g, cap, cur, hv, hg, hh, hcap, _, hcs, htk⟩⟩ := h
  · exact ⟨none, 0, by rw [hv, hn0], fun k hk => absurd hk (by omega)⟩
  · refine ⟨some ⟨g, 0, none⟩, cap, hv, fun k hk => ⟨g, 0, rfl, ?_⟩⟩
    have e1 : cur.toList[k]? = xs[k]? := by
      rw [← htk, List.getElem?_take, if_pos (by omega)]
    simp only [World.cell?, hh]
    simp only [Array.getElem?_toList] at e1
    simp only [Option.isSome_none, Bool.false_eq_true, if_false, Nat.zero_add]
    rw [e1]
    simp [hn, hk]
theorem own_slat {w : World} {lo t : Nat} {ao : Option Addr} {n cap : Nat} {xs : List Value} (h : w.ownsRow lo t 1 (.slice ao n cap) n xs) (hn : xs.length = n) : SlAt w ao n (fun k => xs.getD k undef) := by
  obtain ⟨ao', cap', e, hs⟩ := own_cells h hn
  injection e with e
  rw [e]
  exact hs

end Go.Proofs.YtachkoledebanabGreatDoor

namespace Go.Proofs.YtachkoledebanabGreatDoor
open Go.RowKit

def lampTxt (f : Nat → Bool) : Nat → List UInt8
  | 0 => []
  | a + 1 => lampTxt f a ++ (if f a then dec a else [45])
def headTxt (o : Bool) : List UInt8 := (if o then [111, 112, 101, 110] else [115, 104, 117, 116]) ++ [32, 108, 97, 109, 112, 115, 32]
def nextTxt (n : Int) : List UInt8 := if 0 ≤ n then [32, 110, 101, 120, 116, 32] ++ dec n.toNat else [32, 101, 110, 100]
def lineTxt (d : RD) (i : Nat) : List UInt8 := headTxt (d.op i) ++ lampTxt (d.wk i) 4 ++ nextTxt (d.nx i) ++ [32, 102, 97, 114, 32] ++ dec (d.fr i).toNat

theorem head_len (o : Bool) : (headTxt o).length = 11 := by cases o <;> rfl
theorem dec_len9 {n : Nat} (h : n < 1000000000) : (dec n).length ≤ 9 := dec_len (by omega) (by omega)
theorem lamp_len (f : Nat → Bool) : ∀ k, k ≤ 1000 → (lampTxt f k).length ≤ 9 * k
  | 0, _ => by simp [lampTxt]
  | k + 1, h => by
    have ih := lamp_len f k (by omega)
    have := dec_len9 (n := k) (by omega)
    unfold lampTxt
    rw [List.length_append]
    split
    · omega
    · simp; omega
theorem next_len {n : Int} (h : n < 1000000000) : (nextTxt n).length ≤ 15 := by
  unfold nextTxt
  split
  · have := dec_len9 (n := n.toNat) (by omega)
    rw [List.length_append]
    simp
    omega
  · simp

/-- a signal that can be told as a line -/
structure Tellable (d : RD) (i : Nat) : Prop where
  iN : i < d.nN
  iF : i < d.nF
  iO : i < d.nO
  iW : i < d.nW
  L4 : d.L i = 4
  nh : d.nx i < 1000000000
  f0 : 0 ≤ d.fr i
  f1 : d.fr i < 1000000000
theorem line_len {d : RD} {i : Nat} (h : Tellable d i) : (lineTxt d i).length ≤ 100 := by
  have h1 := head_len (d.op i)
  have h2 := lamp_len (d.wk i) 4 (by omega)
  have h3 := next_len h.nh
  have h4 := dec_len9 (n := (d.fr i).toNat) (by have := h.f0; have := h.f1; omega)
  unfold lineTxt
  simp only [List.length_append, List.length_cons, List.length_nil]
  omega

set_option maxHeartbeats 4000000 in
theorem line_any (a1 a2 a3 a4 : Option Addr) (c1 c2 c3 c4 : Nat) (A : Nat → Option Addr) (C : Nat → Nat) (d : RD) (i : Nat) (w : World) (hs : Small d) (ht : Tellable d i) (h : RowAt w a1 a2 a3 a4 A C d) :
    Calls Tryz.prog 30 #[.agg #[.slice a1 d.nN c1, .slice a2 d.nF c2, .slice a3 d.nO c3, .slice a4 d.nW c4], .int .i64 i] w fun e w' =>
      e = .returned (.string (bs (lineTxt d i))) ∧ Below w.heap.size w w' := by
  have bel : Below w.heap.size w (w.alloc (.cells #[.slice a1 d.nN c1, .slice a2 d.nF c2, .slice a3 d.nO c3, .slice a4 d.nW c4] 26)) := (Below.refl _ _).alloc (Nat.le_refl _) _
  have HK : Hid (RowAt (w.alloc (.cells #[.slice a1 d.nN c1, .slice a2 d.nF c2, .slice a3 d.nO c3, .slice a4 d.nW c4] 26)) a1 a2 a3 a4 A C d) := h.keep bel
  have hbk := Blk.new w #[.slice a1 d.nN c1, .slice a2 d.nF c2, .slice a3 d.nO c3, .slice a4 d.nW c4] 26
  have HT : Hid (Tellable d i) := ht
  have h20 : i < 1048576 := by have := ht.iN; have := hs.nN; omega
  have hO : i < d.nO := ht.iO
  have hW : i < d.nW := ht.iW
  have hO2 : d.nO ≤ 1048576 := hs.nO
  have hW2 : d.nW ≤ 1048576 := hs.nW
  clear h ht
  obtain ⟨bo, oo, rfl, hco⟩ := HK.out.op i hO
  obtain ⟨b4, o4, rfl, hc4⟩ := HK.out.wk i hW
  obtain ⟨W, hWe⟩ : ∃ W, W = w.alloc (.cells #[.slice a1 d.nN c1, .slice a2 d.nF c2, .slice (some ⟨bo, oo, none⟩) d.nO c3, .slice (some ⟨b4, o4, none⟩) d.nW c4] 26) := ⟨_, rfl⟩
  rw [← hWe] at HK hbk bel hco hc4
  have HBK : Hid (Blk W w.heap.size #[.slice a1 d.nN c1, .slice a2 d.nF c2, .slice (some ⟨bo, oo, none⟩) d.nO c3, .slice (some ⟨b4, o4, none⟩) d.nW c4] 26) := hbk
  clear hbk
  replace hco : W.cell? ⟨bo, oo + i, none⟩ = some (.bool (d.op i)) := hco
  replace hc4 : W.cell? ⟨b4, o4 + i, none⟩ = some (.slice (A i) (d.L i) (C i)) := hc4
  have HLM : Hid (SlAt W (A i) 4 (fun j => .bool (d.wk i j))) := by have := HK.out.lm i hW; rw [HT.out.L4] at this; exact this
  rw [HT.out.L4] at hc4
  obtain ⟨hd, hhd⟩ : ∃ hd, hd = headTxt (d.op i) := ⟨_, rfl⟩
  have HHD : Hid (hd = headTxt (d.op i)) := hhd
  have hhl : hd.length = 11 := by rw [hhd, head_len]
  cases hop : d.op i
  case' true =>
    have ha : (Op.stringOp .add ⟨#[111, 112, 101, 110]⟩ ⟨#[32, 108, 97, 109, 112, 115, 32]⟩).run Tryz.prog W = .ok (.string (bs hd)) W := by
      rw [hhd, hop]
      exact add_bs [111, 112, 101, 110] [32, 108, 97, 109, 112, 115, 32] (by simp) W
  case' false =>
    have ha : (Op.stringOp .add ⟨#[115, 104, 117, 116]⟩ ⟨#[32, 108, 97, 109, 112, 115, 32]⟩).run Tryz.prog W = .ok (.string (bs hd)) W := by
      rw [hhd, hop]
      exact add_bs [115, 104, 117, 116] [32, 108, 97, 109, 112, 115, 32] (by simp) W
  all_goals
    rw [hop] at hco
    clear hop hhd
    rw [hWe] at hco hc4 ha
    go_enter Tryz.func30, Tryz.ntmps30
    go_wp2
    clear ha hco hc4
    rw [← hWe]
    clear hWe
    go_loopw [5, 21] (fun o t wr => ∃ q : Nat, q ≤ 4 ∧ t = .int .i64 q ∧ o = .string (bs (hd ++ lampTxt (d.wk i) q)) ∧ Below W.heap.size W wr) (fun _ t _ => 4 - (intOf t).toNat)
    case atStart => exact ⟨0, by omega, rfl, by simp [lampTxt], Below.refl _ _⟩
    case round =>
      obtain ⟨q, hq, rfl, rfl, hB⟩ := hrel
      have hll := lamp_len (d.wk i) q (by omega)
      have HS : Hid (∀ b, d.wk i q = b → lampTxt (d.wk i) (q + 1) = lampTxt (d.wk i) q ++ (if b then dec q else [45])) := fun b e => by rw [← e]; rfl
      obtain ⟨sf, hsf⟩ : ∃ sf, sf = hd ++ lampTxt (d.wk i) q := ⟨_, rfl⟩
      have hsl : sf.length ≤ 50 := by rw [hsf, List.length_append]; omega
      have HSF : Hid (sf = hd ++ lampTxt (d.wk i) q) := hsf
      rw [← hsf]
      clear hsf hll
      by_cases hlt : q < 4
      · obtain ⟨bq, oq, hAq, hcq⟩ := (HLM.out.keep hB) q hlt
        replace hcq : wr.cell? ⟨bq, oq + q, none⟩ = some (.bool (d.wk i q)) := hcq
        generalize A i = Ai at *
        subst hAq
        cases hwk : d.wk i q
        · have HE : Hid (hd ++ lampTxt (d.wk i) (q + 1) = sf ++ [45]) := by show _ = _; rw [HS.out _ hwk, HSF.out, List.append_assoc]; rfl
          rw [hwk] at hcq
          have ha : (Op.stringOp .add (bs sf) ⟨#[45]⟩).run Tryz.prog wr = .ok (.string (bs (sf ++ [45]))) wr := add_bs sf [45] (by simp; omega) wr
          clear hwk
          go_wp2
          go_roundw
          case rel => exact ⟨q + 1, by omega, by go_num, by rw [HE.out], hB⟩
          case measure => simp [intOf]; omega
        · have HE : Hid (hd ++ lampTxt (d.wk i) (q + 1) = sf ++ dec q) := by show _ = _; rw [HS.out _ hwk, HSF.out, List.append_assoc]; rfl
          rw [hwk] at hcq
          have hdl := dec_len9 (n := q) (by omega)
          clear hwk
          go_wp2_with fail
          refine (decimal_any q wr (by omega)).mono ?_
          rintro e w2 ⟨rfl, hb2⟩
          have ha : (Op.stringOp .add (bs sf) (bs (dec q))).run Tryz.prog w2 = .ok (.string (bs (sf ++ dec q))) w2 := add_bs sf (dec q) (by omega) w2
          have hB2 : Below W.heap.size W w2 := chain hB hb2
          clear hcq
          go_wp2
          go_roundw
          case rel => exact ⟨q + 1, by omega, by go_num, by rw [HE.out], hB2⟩
          case measure => simp [intOf]; omega
      · obtain rfl : q = 4 := by omega
        have hbk := HBK.out.keep hB
        have x0 := hbk.cell 0
        have x1 := hbk.cell 1
        simp at x0 x1
        have hN := HT.out.iN
        have hF := HT.out.iF
        have hN2 := hs.nN
        have hF2 := hs.nF
        have hf0 := HT.out.f0
        have hf1 := HT.out.f1
        have hnh := HT.out.nh
        obtain ⟨bx, ox, rfl, hcx⟩ := (HK.out.keep hB).nx i hN
        obtain ⟨bf, of, rfl, hcf⟩ := HK.out.fr i hF
        replace hcx : wr.cell? ⟨bx, ox + i, none⟩ = some (.int .i64 (d.nx i)) := hcx
        replace hcf : W.cell? ⟨bf, of + i, none⟩ = some (.int .i64 (d.fr i)) := hcf
        clear HS hlt
        by_cases hneg : 0 ≤ d.nx i
        · obtain ⟨N, hN'⟩ : ∃ N : Nat, d.nx i = N := ⟨(d.nx i).toNat, by omega⟩
          rw [hN'] at hcx
          have HNT : Hid (nextTxt (d.nx i) = [32, 110, 101, 120, 116, 32] ++ dec N) := by
            show _ = _
            unfold nextTxt
            rw [if_pos hneg, hN', Int.toNat_natCast]
          have hdl := dec_len9 (n := N) (by omega)
          have hNb : N < 1000000000 := by omega
          clear hN' hneg hnh
          go_wp2_with fail
          refine (decimal_any N wr (by omega)).mono ?_
          rintro e w2 ⟨rfl, hb2⟩
          have ha1 : (Op.stringOp .add ⟨#[32, 110, 101, 120, 116, 32]⟩ (bs (dec N))).run Tryz.prog w2 = .ok (.string (bs ([32, 110, 101, 120, 116, 32] ++ dec N))) w2 := add_bs [32, 110, 101, 120, 116, 32] (dec N) (by simp; omega) w2
          rw [← HNT.out] at ha1
          have hnl := next_len HT.out.nh
          have ha2 : (Op.stringOp .add (bs sf) (bs (nextTxt (d.nx i)))).run Tryz.prog w2 = .ok (.string (bs (sf ++ nextTxt (d.nx i)))) w2 := add_bs sf _ (by omega) w2
          have hB2 : Below W.heap.size W w2 := chain hB hb2
          have hbk2 := HBK.out.keep hB2
          clear x0 x1
          have x1 := hbk2.cell 1
          simp at x1
          have hcf2 := (hB2.cell (p := ⟨bf, of + i, none⟩) (block_lt_of_cell hcf)).trans hcf
          obtain ⟨F, hF'⟩ : ∃ F : Nat, d.fr i = F := ⟨(d.fr i).toNat, by omega⟩
          rw [hF'] at hcf2
          have hFb : F < 1000000000 := by omega
          have hfl := dec_len9 hFb
          have ha3 : (Op.stringOp .add (bs (sf ++ nextTxt (d.nx i))) ⟨#[32, 102, 97, 114, 32]⟩).run Tryz.prog w2 = .ok (.string (bs (sf ++ nextTxt (d.nx i) ++ [32, 102, 97, 114, 32]))) w2 := add_bs _ [32, 102, 97, 114, 32] (by rw [List.length_append]; simp; omega) _
          have HFIN : Hid (sf ++ nextTxt (d.nx i) ++ [32, 102, 97, 114, 32] ++ dec F = lineTxt d i) := by
            show _ = _
            unfold lineTxt
            rw [HSF.out, HHD.out, hF', Int.toNat_natCast]
          have hLen : (sf ++ nextTxt (d.nx i) ++ [32, 102, 97, 114, 32]).length ≤ 100 := by simp only [List.length_append, List.length_cons, List.length_nil]; omega
          generalize sf ++ nextTxt (d.nx i) ++ [32, 102, 97, 114, 32] = s3 at *
          clear hF' hcf
          go_wp2_with fail
          refine (decimal_any F w2 hFb).mono ?_
          rintro e w3 ⟨rfl, hb3⟩
          have ha4 : (Op.stringOp .add (bs s3) (bs (dec F))).run Tryz.prog w3 = .ok (.string (bs (s3 ++ dec F))) w3 := add_bs _ _ (by omega) w3
          have hB3 : Below w.heap.size w w3 := chain (chain bel hB2) hb3
          rw [HFIN.out] at ha4
          go_wp2
          go_ret
          exact ⟨rfl, hB3⟩
        · have HNT : Hid (nextTxt (d.nx i) = [32, 101, 110, 100]) := by
            show _ = _
            unfold nextTxt
            rw [if_neg hneg]
          have hnl := next_len HT.out.nh
          have ha2 : (Op.stringOp .add (bs sf) ⟨#[32, 101, 110, 100]⟩).run Tryz.prog wr = .ok (.string (bs (sf ++ nextTxt (d.nx i)))) wr := by
            rw [HNT.out]
            exact add_bs sf [32, 101, 110, 100] (by simp; omega) wr
          have z : decide (0 ≤ d.nx i) = false := by simp; omega
          have hB2 : Below W.heap.size W wr := hB
          have hbk2 := HBK.out.keep hB2
          have hcf2 := (hB2.cell (p := ⟨bf, of + i, none⟩) (block_lt_of_cell hcf)).trans hcf
          obtain ⟨F, hF'⟩ : ∃ F : Nat, d.fr i = F := ⟨(d.fr i).toNat, by omega⟩
          rw [hF'] at hcf2
          have hFb : F < 1000000000 := by omega
          have hfl := dec_len9 hFb
          have ha3 : (Op.stringOp .add (bs (sf ++ nextTxt (d.nx i))) ⟨#[32, 102, 97, 114, 32]⟩).run Tryz.prog wr = .ok (.string (bs (sf ++ nextTxt (d.nx i) ++ [32, 102, 97, 114, 32]))) wr := add_bs _ [32, 102, 97, 114, 32] (by rw [List.length_append]; simp; omega) _
          have HFIN : Hid (sf ++ nextTxt (d.nx i) ++ [32, 102, 97, 114, 32] ++ dec F = lineTxt d i) := by
            show _ = _
            unfold lineTxt
            rw [HSF.out, HHD.out, hF', Int.toNat_natCast]
          have hLen : (sf ++ nextTxt (d.nx i) ++ [32, 102, 97, 114, 32]).length ≤ 100 := by simp only [List.length_append, List.length_cons, List.length_nil]; omega
          generalize sf ++ nextTxt (d.nx i) ++ [32, 102, 97, 114, 32] = s3 at *
          clear hF' hcf
          go_wp2_with fail
          refine (decimal_any F wr hFb).mono ?_
          rintro e w3 ⟨rfl, hb3⟩
          have ha4 : (Op.stringOp .add (bs s3) (bs (dec F))).run Tryz.prog w3 = .ok (.string (bs (s3 ++ dec F))) w3 := add_bs _ _ (by omega) w3
          have hB3 : Below w.heap.size w w3 := chain (chain bel hB2) hb3
          rw [HFIN.out] at ha4
          go_wp2
          go_ret
          exact ⟨rfl, hB3⟩

end Go.Proofs.YtachkoledebanabGreatDoor

namespace Go.Proofs.YtachkoledebanabGreatDoor
open Go.RowKit

/-- a digit's byte -/
def isDig (c : UInt8) : Prop := 48 ≤ c.toNat ∧ c.toNat ≤ 57
instance (c : UInt8) : Decidable (isDig c) := by unfold isDig; infer_instance
/-- what digits come to, behind n -/
def val : Nat → List UInt8 → Nat
  | n, [] => n
  | n, c :: l => val (10 * n + (c.toNat - 48)) l
/-- -1: no number of one to eight digits -/
def num (l : List UInt8) : Int := if (∀ c ∈ l, isDig c) ∧ l.length ≤ 8 ∧ l ≠ [] then val 0 l else -1

theorem val_snoc : ∀ (l : List UInt8) (n : Nat) (c : UInt8), val n (l ++ [c]) = 10 * val n l + (c.toNat - 48)
  | [], n, c => rfl
  | x :: l, n, c => by
    show val (10 * n + (x.toNat - 48)) (l ++ [c]) = _
    rw [val_snoc l]
    rfl
theorem pow_split (a k : Nat) : (a * 10) * 10 ^ k = a * 10 ^ (k + 1) := by rw [Nat.pow_succ, Nat.mul_comm (10 ^ k) 10, Nat.mul_assoc]
theorem val_lt (l : List UInt8) : ∀ (n : Nat), (∀ c ∈ l, isDig c) → val n l < (n + 1) * 10 ^ l.length := by
  induction l with
  | nil =>
    intro n _
    have e : val n [] = n := rfl
    rw [e, List.length_nil, Nat.pow_zero]
    omega
  | cons c l ih =>
    intro n h
    have hc := h c (by simp)
    unfold isDig at hc
    have ih := ih (10 * n + (c.toNat - 48)) (fun x hx => h x (by simp [hx]))
    have e : val n (c :: l) = val (10 * n + (c.toNat - 48)) l := rfl
    rw [e, List.length_cons, ← pow_split]
    exact Nat.lt_of_lt_of_le ih (Nat.mul_le_mul_right _ (by omega))
theorem num_bd (l : List UInt8) : -1 ≤ num l ∧ num l < 100000000 := by
  unfold num
  split
  · rename_i h
    have h1 := val_lt l 0 h.1
    have h2 : 10 ^ l.length ≤ 10 ^ 8 := Nat.pow_le_pow_right (by omega) h.2.1
    omega
  · omega

theorem dig_is (n : Nat) : isDig (dig n) := by
  have := dig_nat n
  unfold isDig
  omega
theorem decP_digs (n : Nat) : ∀ c ∈ decP n, isDig c := by
  induction n using Nat.strongRecOn with
  | ind n ih =>
    by_cases h : n = 0
    · subst h; rw [decP_zero]; simp
    · rw [decP_pos (by omega)]
      intro c hc
      rcases List.mem_append.1 hc with hc | hc
      · exact ih (n / 10) (by omega) c hc
      · obtain rfl : c = dig n := by simpa using hc
        exact dig_is n
theorem decP_val (n : Nat) : val 0 (decP n) = n := by
  induction n using Nat.strongRecOn with
  | ind n ih =>
    by_cases h : n = 0
    · subst h; rw [decP_zero]; rfl
    · rw [decP_pos (by omega), val_snoc, ih (n / 10) (by omega)]
      have := dig_nat n
      omega
theorem dec_digs (n : Nat) : ∀ c ∈ dec n, isDig c := by
  unfold dec
  split
  · intro c hc
    obtain rfl : c = 48 := by simpa using hc
    exact ⟨by decide, by decide⟩
  · exact decP_digs n
theorem dec_ne (n : Nat) : dec n ≠ [] := by
  unfold dec
  split
  · simp
  · rename_i h
    rw [decP_pos (by omega)]
    simp
theorem dec_val (n : Nat) : val 0 (dec n) = n := by
  unfold dec
  split
  · rename_i h; subst h; rfl
  · exact decP_val n
theorem num_dec {n : Nat} (h : n < 100000000) : num (dec n) = n := by
  unfold num
  rw [if_pos ⟨dec_digs n, dec_len (by omega) (by omega), dec_ne n⟩, dec_val]
theorem dec_inj {m n : Nat} (h : dec m = dec n) : m = n := by rw [← dec_val m, h, dec_val]

/-- a byte of a text -/
theorem idx_bs (l : List UInt8) (i : Nat) (h : i < l.length) (w : World) : (Instr.index 9 (.string (bs l)) (.int .i64 (i : Int))).run Tryz.prog w = .ok (.int .u8 ((l.getD i 0).toNat : Int)) w := by
  rw [run_index_string w 9 (bs l) .i64 i Tryz.underlying9, dif_pos ⟨by omega, by rw [bs_size]; omega⟩]
  congr 2
  have e : (bs l)[((i : Int)).toNat]'(by rw [bs_size]; omega) = l.getD i 0 := by
    show l.toArray[((i : Int)).toNat]'_ = _
    simp [h]
  rw [e]
theorem bs_get (l : List UInt8) (i : Nat) (h : i < l.length) : (bs l)[i]? = some (l.getD i 0) := by
  rw [ByteArray.getElem?_lt' _ _ (by rw [bs_size]; exact h)]
  congr 1
  show l.toArray[i] = _
  simp [h]

set_option maxHeartbeats 1000000 in
theorem num_any (l : List UInt8) (w : World) (hl : l.length ≤ 1048576) :
    Calls Tryz.prog 29 #[.string (bs l)] w fun e w' => e = .returned (.int .i64 (num l)) ∧ w' = w := by
  have hz := bs_size l
  go_enter Tryz.func29, Tryz.ntmps29
  go_wp2
  go_loop [3, 4] (fun n t => ∃ k : Nat, k ≤ l.length ∧ k ≤ 8 ∧ t = .int .i64 k ∧ n = .int .i64 (val 0 (l.take k)) ∧ ∀ c ∈ l.take k, isDig c) (fun _ t => l.length - (intOf t).toNat)
  case atStart => exact ⟨0, by omega, by omega, rfl, rfl, by simp⟩
  case round =>
    obtain ⟨k, hk, hk8, rfl, rfl, hd⟩ := hrel
    have HD : Hid (∀ c ∈ l.take k, isDig c) := hd
    have hv : val 0 (l.take k) < 100000000 := by
      have h1 := val_lt (l.take k) 0 hd
      have h2 : 10 ^ (l.take k).length ≤ 10 ^ 8 := Nat.pow_le_pow_right (by omega) (by rw [List.length_take]; omega)
      omega
    clear hd
    by_cases hlt : k < l.length
    · have HT : Hid (l.take (k + 1) = l.take k ++ [l.getD k 0]) := by
        show _ = _
        rw [List.take_add_one]
        simp [hlt]
      have HM : Hid (l.getD k 0 ∈ l) := by
        show _ ∈ _
        simp [hlt]
      have hg := idx_bs l k hlt w
      obtain ⟨c, hc⟩ : ∃ c, c = l.getD k 0 := ⟨_, rfl⟩
      have HC : Hid (c = l.getD k 0) := hc
      rw [← hc] at hg
      clear hc
      have hc0 : c.toNat < 256 := c.toNat_lt
      by_cases hd : isDig c ∧ k < 8
      · have hdd := hd.1
        unfold isDig at hdd
        have z1 : decide ((c.toNat : Int) < 48) = false := by simp; omega
        have z2 : decide ((57 : Int) < (c.toNat : Int)) = false := by simp; omega
        have z3 : ((k : Int) == 8) = false := by rw [beq_eq_false_iff_ne]; omega
        have HV : Hid (val 0 (l.take (k + 1)) = 10 * val 0 (l.take k) + (c.toNat - 48)) := by show _ = _; rw [HT.out, val_snoc, ← HC.out]
        have HD2 : Hid (∀ x ∈ l.take (k + 1), isDig x) := fun x hx => by
          rw [HT.out] at hx
          rcases List.mem_append.1 hx with hx | hx
          · exact HD.out x hx
          · obtain rfl : x = c := by rw [HC.out]; simpa using hx
            exact hd.1
        have hk8' := hd.2
        generalize val 0 (l.take k) = v at *
        clear hd
        go_wp2
        go_round
        case rel => exact ⟨k + 1, by omega, by omega, by go_num, by rw [HV.out]; go_num, HD2.out⟩
        case measure => simp [intOf]; omega
      · have HE : Hid (num l = -1) := by
          show _ = _
          unfold num
          rw [if_neg (fun ⟨q1, q2, _⟩ => hd ⟨by rw [HC.out]; exact q1 _ HM.out, by omega⟩)]
        by_cases h1 : (c.toNat : Int) < 48
        · go_wp2
          go_ret
          exact ⟨by rw [HE.out]; rfl, rfl⟩
        have z1 : decide ((c.toNat : Int) < 48) = false := by simpa using h1
        by_cases h2 : (57 : Int) < (c.toNat : Int)
        · go_wp2
          go_ret
          exact ⟨by rw [HE.out]; rfl, rfl⟩
        have z2 : decide ((57 : Int) < (c.toNat : Int)) = false := by simpa using h2
        have hk9 : k = 8 := by
          have : ¬ k < 8 := fun q => hd ⟨by unfold isDig; omega, q⟩
          omega
        have z3 : ((k : Int) == 8) = true := by rw [beq_iff_eq]; omega
        clear hk9 hd
        go_wp2
        go_ret
        exact ⟨by rw [HE.out]; rfl, rfl⟩
    · obtain rfl : k = l.length := by omega
      rw [List.take_length] at HD hv ⊢
      by_cases h0 : l = []
      · have HE : Hid (num l = -1) := by
          show _ = _
          unfold num
          rw [if_neg (fun ⟨_, _, q⟩ => q h0)]
        have z : ((l.length : Int) == 0) = true := by rw [h0]; rfl
        clear h0
        go_wp2
        go_ret
        exact ⟨by rw [HE.out]; rfl, rfl⟩
      · have HE : Hid (num l = val 0 l) := by
          show _ = _
          unfold num
          rw [if_pos ⟨HD.out, hk8, h0⟩]
        have z : ((l.length : Int) == 0) = false := by
          rw [beq_eq_false_iff_ne]
          have := List.length_pos_iff.2 h0
          omega
        clear h0
        go_wp2
        go_ret
        exact ⟨by rw [HE.out]; rfl, rfl⟩

end Go.Proofs.YtachkoledebanabGreatDoor

namespace Go.Proofs.YtachkoledebanabGreatDoor
open Go.RowKit

theorem Tryz.uStrs : Tryz.prog.underlying 51 = some (.slice 9) := by kernel_rfl
theorem Tryz.iStr : (Tryz.prog.info? 9).map (fun i => (i.zero, i.size, i.bytes)) = some (some (.string ⟨#[]⟩), 1, 16) := by kernel_rfl

def wordsA : List UInt8 → List UInt8 → List (List UInt8)
  | cur, [] => [cur]
  | cur, c :: l => if c = 32 then cur :: wordsA [] l else wordsA (cur ++ [c]) l
def words (l : List UInt8) : List (List UInt8) := wordsA [] l

/-- no blank within -/
def NoBl (l : List UInt8) : Prop := ∀ c ∈ l, c ≠ 32
theorem wordsA_nobl : ∀ (x cur y : List UInt8), NoBl x → wordsA cur (x ++ y) = wordsA (cur ++ x) y
  | [], cur, y, _ => by simp
  | c :: x, cur, y, h => by
    show (if c = 32 then _ else wordsA (cur ++ [c]) (x ++ y)) = _
    rw [if_neg (h c (by simp)), wordsA_nobl x (cur ++ [c]) y (fun z hz => h z (by simp [hz]))]
    simp
/-- a word, a blank, the rest -/
theorem words_cons {x y : List UInt8} (h : NoBl x) : words (x ++ 32 :: y) = x :: words y := by
  unfold words
  rw [wordsA_nobl x [] _ h]
  rfl
theorem words_one {x : List UInt8} (h : NoBl x) : words x = [x] := by
  unfold words
  have := wordsA_nobl x [] [] h
  rw [List.append_nil] at this
  rw [this]
  rfl
theorem wordsA_len : ∀ (l cur : List UInt8), (wordsA cur l).length ≤ l.length + 1
  | [], _ => by simp [wordsA]
  | c :: l, cur => by
    show (if c = 32 then _ else _ : List (List UInt8)).length ≤ _
    split
    · have := wordsA_len l []
      simp only [List.length_cons]
      omega
    · have := wordsA_len l (cur ++ [c])
      simp only [List.length_cons]
      omega
def strs (W : List (List UInt8)) : List Value := W.map fun x => .string (bs x)
theorem strs_snoc (W : List (List UInt8)) (x : List UInt8) : strs (W ++ [x]) = strs W ++ [.string (bs x)] := by simp [strs]

theorem wordsA_step {W : List (List UInt8)} {cur l : List UInt8} {k : Nat} {T : List (List UInt8)} (hlt : k < l.length) (h : W ++ wordsA cur (l.drop k) = T) :
    (l.getD k 0 = 32 → (W ++ [cur]) ++ wordsA [] (l.drop (k + 1)) = T) ∧ (l.getD k 0 ≠ 32 → W ++ wordsA (cur ++ [l.getD k 0]) (l.drop (k + 1)) = T) := by
  have e : l.drop k = l.getD k 0 :: l.drop (k + 1) := by
    rw [List.drop_eq_getElem_cons hlt]
    simp [hlt]
  rw [e] at h
  have e2 : wordsA cur (l.getD k 0 :: l.drop (k + 1)) = if l.getD k 0 = 32 then cur :: wordsA [] (l.drop (k + 1)) else wordsA (cur ++ [l.getD k 0]) (l.drop (k + 1)) := rfl
  rw [e2] at h
  constructor
  · intro hc
    rw [if_pos hc] at h
    rw [← h]
    simp
  · intro hc
    rw [if_neg hc] at h
    exact h

/-- the loop's state -/
structure WdS (w : World) (l : List UInt8) (k : Nat) (W : List (List UInt8)) (cur : List UInt8) (v : Value) (wr : World) : Prop where
  own : wr.ownsRow w.heap.size 9 1 v W.length (strs W)
  bel : Below w.heap.size w wr
  at' : (k ≤ l.length ∧ W ++ wordsA cur (l.drop k) = words l) ∨ (k = l.length + 1 ∧ W = words l)
  wl : W.length ≤ k
  cl : cur.length ≤ k

set_option maxHeartbeats 2000000 in
theorem words_any (l : List UInt8) (w : World) (hl : l.length ≤ 1048576) :
    Calls Tryz.prog 28 #[.string (bs l)] w fun e w' => (∃ v, e = .returned v ∧ w'.ownsRow w.heap.size 9 1 v (words l).length (strs (words l))) ∧ Below w.heap.size w w' := by
  obtain ⟨i0, hi, hz0, hz1, hz2⟩ := info_parts Tryz.iStr
  have hz := bs_size l
  go_enter Tryz.func28, Tryz.ntmps28
  go_wp2
  go_loopw [3, 4, 5] (fun out wd t wr => ∃ (k : Nat) (W : List (List UInt8)) (cur : List UInt8), t = .int .i64 k ∧ wd = .string (bs cur) ∧ WdS w l k W cur out wr) (fun _ _ t _ => l.length + 1 - (intOf t).toNat)
  case atStart => exact ⟨0, [], [], rfl, rfl, ⟨World.ownsRow_nil _ _ _ _, Below.refl _ _, Or.inl ⟨by omega, rfl⟩, by simp, by simp⟩⟩
  case round =>
    obtain ⟨k, W, cur, rfl, rfl, hS⟩ := hrel
    have HS := hS
    obtain ⟨hown, hB, hat, hwl, hcl⟩ := hS
    have HAT : Hid ((k ≤ l.length ∧ W ++ wordsA cur (l.drop k) = words l) ∨ (k = l.length + 1 ∧ W = words l)) := hat
    have hk1 : k ≤ l.length + 1 := by
      rcases hat with h | h <;> omega
    clear hat HS
    by_cases hle : k ≤ l.length
    · have HA : Hid (W ++ wordsA cur (l.drop k) = words l) := by
        rcases HAT.out with h | h
        · exact h.2
        · omega
      by_cases heq : k = l.length
      · have z : ((k : Int) == (l.length : Int)) = true := by rw [beq_iff_eq]; omega
        have HN : Hid (W ++ [cur] = words l) := by
          show _ = _
          rw [← HA.out, heq, List.drop_length]
          rfl
        have HQ : Hid (k + 1 = l.length + 1) := by show _ = _; omega
        clear heq
        go_wp2_with (at_builtin; refine wpList_append_own _ rfl _ _ 51 rfl w.heap.size 9 i0 (.string ⟨#[]⟩) 1 16 Tryz.uStrs hi hz0 hz1 hz2 rfl (by decide) _ _ _ rfl (hown.alloc _) ⟨wr.heap.size, 0, none⟩ 1 1 [.string (bs cur)] rfl rfl (cell_one_new _ _ _) (by simp [Value.oneCell']) (by unfold maxLen; omega) (by omega) (by have := hB.size; simp; omega) ?_; intro v' w2 hown' hgrow hnil; have HBl : Hid (Below w.heap.size w w2) := app_below hB hB.size hown hgrow)
        clear hgrow hnil hown
        go_roundw
        case rel => exact ⟨k + 1, W ++ [cur], [], by go_num, rfl, ⟨by rw [strs_snoc, List.length_append]; exact hown', HBl.out, Or.inr ⟨HQ.out, HN.out⟩, by simp; omega, by simp⟩⟩
        case measure => simp [intOf]; omega
      · have hlt : k < l.length := by omega
        have z : ((k : Int) == (l.length : Int)) = false := by rw [beq_eq_false_iff_ne]; omega
        have hst := wordsA_step hlt HA.out
        have hg := idx_bs l k hlt wr
        obtain ⟨c, hc⟩ : ∃ c, c = l.getD k 0 := ⟨_, rfl⟩
        rw [← hc] at hg hst
        clear hc
        by_cases hbl : c = 32
        · have z4 : ((c.toNat : Int) == 32) = true := by rw [hbl]; rfl
          have HN := hst.1 hbl
          have HN : Hid ((W ++ [cur]) ++ wordsA [] (l.drop (k + 1)) = words l) := HN
          clear hbl hst
          go_wp2_with (at_builtin; refine wpList_append_own _ rfl _ _ 51 rfl w.heap.size 9 i0 (.string ⟨#[]⟩) 1 16 Tryz.uStrs hi hz0 hz1 hz2 rfl (by decide) _ _ _ rfl (hown.alloc _) ⟨wr.heap.size, 0, none⟩ 1 1 [.string (bs cur)] rfl rfl (cell_one_new _ _ _) (by simp [Value.oneCell']) (by unfold maxLen; omega) (by omega) (by have := hB.size; simp; omega) ?_; intro v' w2 hown' hgrow hnil; have HBl : Hid (Below w.heap.size w w2) := app_below hB hB.size hown hgrow)
          clear hgrow hnil hown
          go_roundw
          case rel => exact ⟨k + 1, W ++ [cur], [], by go_num, rfl, ⟨by rw [strs_snoc, List.length_append]; exact hown', HBl.out, Or.inl ⟨by omega, HN.out⟩, by simp; omega, by simp⟩⟩
          case measure => simp [intOf]; omega
        · have z4 : ((c.toNat : Int) == 32) = false := by
            rw [beq_eq_false_iff_ne]
            intro e
            exact hbl (UInt8.toNat.inj (by rw [show (32 : UInt8).toNat = 32 from rfl]; omega))
          have HN : Hid (W ++ wordsA (cur ++ [c]) (l.drop (k + 1)) = words l) := hst.2 hbl
          have hcv := conv_one wr (v := (c.toNat : Int)) (c := c) rfl
          have ha := add_bs (P := Tryz.prog) cur [c] (by simp; omega) (wr.alloc (.cells #[.int .u8 (c.toNat : Int)] 5))
          have HO2 : Hid _ := hown.alloc (.cells #[.int .u8 (c.toNat : Int)] 5)
          have HB2 : Hid (Below w.heap.size w (wr.alloc (.cells #[.int .u8 (c.toNat : Int)] 5))) := hB.alloc hB.size _
          clear hbl hst hown
          go_wp2
          go_roundw
          case rel => exact ⟨k + 1, W, cur ++ [c], by go_num, rfl, ⟨HO2.out, HB2.out, Or.inl ⟨by omega, HN.out⟩, by omega, by simp; omega⟩⟩
          case measure => simp [intOf]; omega
    · have HN : Hid (W = words l) := by
        rcases HAT.out with h | h
        · exact absurd h.1 hle
        · exact h.2
      have z : decide ((k : Int) ≤ (l.length : Int)) = false := by simp; omega
      go_wp2
      go_ret
      exact ⟨⟨_, rfl, by rw [← HN.out]; exact hown⟩, hB⟩

end Go.Proofs.YtachkoledebanabGreatDoor

namespace Go.Proofs.YtachkoledebanabGreatDoor
open Go.RowKit

/-- a signal as a line tells it -/
structure Sg where
  op : Bool
  wk : Nat → Bool
  nx : Int
  fr : Int
/-- it alone, as a row -/
def one (g : Sg) : RD := ⟨1, fun _ => g.nx, 1, fun _ => g.fr, 1, fun _ => g.op, 1, fun _ => 4, fun _ => g.wk⟩
structure Sg.Ok (g : Sg) : Prop where
  n0 : -1 ≤ g.nx
  n1 : g.nx < 100000000
  f0 : 0 ≤ g.fr
  f1 : g.fr < 100000000
  wz : ∀ a, 4 ≤ a → g.wk a = false
def ltxt (g : Sg) : List UInt8 := lineTxt (one g) 0
theorem Sg.Ok.tell {g : Sg} (h : g.Ok) : Tellable (one g) 0 :=
  ⟨Nat.zero_lt_one, Nat.zero_lt_one, Nat.zero_lt_one, Nat.zero_lt_one, rfl, by show g.nx < _; have := h.n1; omega, h.f0, by show g.fr < _; have := h.f1; omega⟩

def opW (o : Bool) : List UInt8 := if o then [111, 112, 101, 110] else [115, 104, 117, 116]
def nxW (n : Int) : List (List UInt8) := if 0 ≤ n then [[110, 101, 120, 116], dec n.toNat] else [[101, 110, 100]]
/-- the words of a line -/
def lwords (g : Sg) : List (List UInt8) := [opW g.op, [108, 97, 109, 112, 115], lampTxt g.wk 4] ++ nxW g.nx ++ [[102, 97, 114], dec g.fr.toNat]

theorem dig_nobl {l : List UInt8} (h : ∀ c ∈ l, isDig c) : NoBl l := fun c hc e => by
  have := h c hc
  unfold isDig at this
  rw [e] at this
  have h1 : (32 : UInt8).toNat = 32 := rfl
  omega
theorem lamp_nobl (f : Nat → Bool) : ∀ k, NoBl (lampTxt f k)
  | 0 => fun c hc => by simp [lampTxt] at hc
  | k + 1 => fun c hc => by
    rcases List.mem_append.1 hc with h | h
    · exact lamp_nobl f k c h
    · split at h
      · exact dig_nobl (dec_digs k) c h
      · obtain rfl : c = 45 := by simpa using h
        decide
theorem opW_nobl (o : Bool) : NoBl (opW o) := fun c hc => by
  cases o
  · have : c = 115 ∨ c = 104 ∨ c = 117 ∨ c = 116 := by simpa [opW] using hc
    rcases this with rfl | rfl | rfl | rfl <;> decide
  · have : c = 111 ∨ c = 112 ∨ c = 101 ∨ c = 110 := by simpa [opW] using hc
    rcases this with rfl | rfl | rfl | rfl <;> decide
theorem nobl_lits : NoBl [108, 97, 109, 112, 115] ∧ NoBl [110, 101, 120, 116] ∧ NoBl [101, 110, 100] ∧ NoBl [102, 97, 114] := by
  refine ⟨?_, ?_, ?_, ?_⟩ <;> (intro c hc; simp at hc; rcases hc with rfl | rfl | rfl | rfl | rfl <;> decide)

theorem words_ltxt (g : Sg) : words (ltxt g) = lwords g := by
  obtain ⟨l1, l2, l3, l4⟩ := nobl_lits
  unfold lwords nxW ltxt lineTxt headTxt nextTxt
  show words ((if g.op then _ else _) ++ _ ++ lampTxt g.wk 4 ++ (if 0 ≤ g.nx then _ else _) ++ _ ++ dec g.fr.toNat) = _
  by_cases h : 0 ≤ g.nx
  · rw [if_pos h, if_pos h]
    have e : (if g.op then [111, 112, 101, 110] else [115, 104, 117, 116]) ++ [32, 108, 97, 109, 112, 115, 32] ++ lampTxt g.wk 4 ++ ([32, 110, 101, 120, 116, 32] ++ dec g.nx.toNat) ++ [32, 102, 97, 114, 32] ++ dec g.fr.toNat
        = opW g.op ++ 32 :: ([108, 97, 109, 112, 115] ++ 32 :: (lampTxt g.wk 4 ++ 32 :: ([110, 101, 120, 116] ++ 32 :: (dec g.nx.toNat ++ 32 :: ([102, 97, 114] ++ 32 :: dec g.fr.toNat))))) := by
      unfold opW
      simp [List.append_assoc]
    refine (congrArg words e).trans ?_
    rw [words_cons (opW_nobl _), words_cons l1, words_cons (lamp_nobl _ _), words_cons l2, words_cons (dig_nobl (dec_digs _)), words_cons l4, words_one (dig_nobl (dec_digs _))]
    rfl
  · rw [if_neg h, if_neg h]
    have e : (if g.op then [111, 112, 101, 110] else [115, 104, 117, 116]) ++ [32, 108, 97, 109, 112, 115, 32] ++ lampTxt g.wk 4 ++ [32, 101, 110, 100] ++ [32, 102, 97, 114, 32] ++ dec g.fr.toNat
        = opW g.op ++ 32 :: ([108, 97, 109, 112, 115] ++ 32 :: (lampTxt g.wk 4 ++ 32 :: ([101, 110, 100] ++ 32 :: ([102, 97, 114] ++ 32 :: dec g.fr.toNat)))) := by
      unfold opW
      simp [List.append_assoc]
    refine (congrArg words e).trans ?_
    rw [words_cons (opW_nobl _), words_cons l1, words_cons (lamp_nobl _ _), words_cons l3, words_cons l4, words_one (dig_nobl (dec_digs _))]
    rfl

/-- the lamps' word: a sign a lamp -/
def lampC (f : Nat → Bool) (a : Nat) : UInt8 := if f a then dig a else 45
theorem dec_dig {a : Nat} (h : a < 10) : dec a = [dig a] := by
  unfold dec
  split
  · rename_i e; subst e; rfl
  · rw [decP_pos (by omega), show a / 10 = 0 by omega, decP_zero]; rfl
theorem lampTxt4 (f : Nat → Bool) : lampTxt f 4 = [lampC f 0, lampC f 1, lampC f 2, lampC f 3] := by
  have e : ∀ a, a < 10 → (if f a then dec a else [45]) = [lampC f a] := fun a ha => by
    unfold lampC
    split
    · exact dec_dig ha
    · rfl
  show ((([] ++ _) ++ _) ++ _) ++ _ = _
  rw [e 0 (by omega), e 1 (by omega), e 2 (by omega), e 3 (by omega)]
  rfl
theorem lampC_dash (f : Nat → Bool) (a : Nat) : (lampC f a ≠ 45) ↔ f a = true := by
  unfold lampC
  cases h : f a
  · simp
  · simp
    intro e
    have h1 := dig_nat a
    rw [e] at h1
    have h2 : (45 : UInt8).toNat = 45 := rfl
    omega

/-- what the words come to -/
def gOf (W : List (List UInt8)) : Sg :=
  ⟨decide (W.getD 0 [] = [111, 112, 101, 110]), fun a => decide (a < 4) && decide ((W.getD 2 []).getD a 0 ≠ 45), if W.length = 7 then num (W.getD 4 []) else -1, num (W.getD (W.length - 1) [])⟩
structure Fits (W : List (List UInt8)) : Prop where
  six : 6 ≤ W.length
  four : (W.getD 2 []).length = 4
  nx : W.length = 7 → 0 ≤ num (W.getD 4 [])
  fr : 0 ≤ num (W.getD (W.length - 1) [])
/-- the line is the signal's -/
def IsLine (l : List UInt8) (g : Sg) : Prop := g.Ok ∧ ltxt g = l
theorem Fits.ok {W : List (List UInt8)} (h : Fits W) : (gOf W).Ok := by
  have h1 := num_bd (W.getD 4 [])
  have h2 := num_bd (W.getD (W.length - 1) [])
  refine ⟨?_, ?_, h.fr, h2.2, fun a ha => by simp [gOf]; omega⟩
  · show -1 ≤ (if W.length = 7 then num (W.getD 4 []) else -1)
    split <;> omega
  · show (if W.length = 7 then num (W.getD 4 []) else -1) < 100000000
    split <;> omega

theorem lwords_fits {g : Sg} (h : g.Ok) : Fits (lwords g) ∧ gOf (lwords g) = g := by
  have hf := num_dec (n := g.fr.toNat) (by have := h.f1; have := h.f0; omega)
  have hfr : (num (dec g.fr.toNat)) = g.fr := by rw [hf]; have := h.f0; omega
  have hop : decide (opW g.op = [111, 112, 101, 110]) = g.op := by
    cases g.op
    · simp [opW]
    · simp [opW]
  have hwk : (fun a => decide (a < 4) && decide ((lampTxt g.wk 4).getD a 0 ≠ 45)) = g.wk := by
    funext a
    by_cases ha : a < 4
    · rw [lampTxt4]
      have e : [lampC g.wk 0, lampC g.wk 1, lampC g.wk 2, lampC g.wk 3].getD a 0 = lampC g.wk a := by
        match a, ha with
        | 0, _ => rfl
        | 1, _ => rfl
        | 2, _ => rfl
        | 3, _ => rfl
      rw [e]
      have := lampC_dash g.wk a
      cases hw : g.wk a
      · rw [hw] at this
        simp [ha]
        by_cases q : lampC g.wk a = 45
        · exact q
        · exact absurd (this.1 q) (by simp)
      · rw [hw] at this
        simp [ha]
        exact this.2 rfl
    · rw [h.wz a (by omega)]
      simp [ha]
  have h4 : (lampTxt g.wk 4).length = 4 := by rw [lampTxt4]; rfl
  unfold lwords nxW
  by_cases hn : 0 ≤ g.nx
  · have hnx : num (dec g.nx.toNat) = g.nx := by rw [num_dec (by have := h.n1; omega)]; omega
    rw [if_pos hn]
    refine ⟨⟨by simp, h4, fun _ => by show 0 ≤ num (dec g.nx.toNat); omega, by show 0 ≤ num (dec g.fr.toNat); rw [hfr]; exact h.f0⟩, ?_⟩
    show Sg.mk _ _ _ _ = _
    cases g
    simp only [Sg.mk.injEq]
    exact ⟨hop, hwk, hnx, hfr⟩
  · have hnx : g.nx = -1 := by have := h.n0; omega
    rw [if_neg hn]
    refine ⟨⟨by simp, h4, fun e => by simp at e, by show 0 ≤ num (dec g.fr.toNat); rw [hfr]; exact h.f0⟩, ?_⟩
    show Sg.mk _ _ _ _ = _
    cases g
    simp only [Sg.mk.injEq]
    exact ⟨hop, hwk, hnx.symm, hfr⟩

/-- a line is a signal's just when it is that of what its words come to -/
theorem isLine_iff {l : List UInt8} {g : Sg} : IsLine l g ↔ Fits (words l) ∧ ltxt (gOf (words l)) = l ∧ g = gOf (words l) := by
  constructor
  · rintro ⟨h, rfl⟩
    rw [words_ltxt]
    obtain ⟨h1, h2⟩ := lwords_fits h
    rw [h2]
    exact ⟨h1, rfl, rfl⟩
  · rintro ⟨h1, h2, rfl⟩
    exact ⟨h1.ok, h2⟩
theorem IsLine.one {l : List UInt8} {g g' : Sg} (h : IsLine l g) (k : IsLine l g') : g = g' := (isLine_iff.1 h).2.2.trans (isLine_iff.1 k).2.2.symm

end Go.Proofs.YtachkoledebanabGreatDoor

namespace Go.Proofs.YtachkoledebanabGreatDoor
open Go.RowKit

theorem index_cons (c b : UInt8) (l : List UInt8) : Lib.index (b :: l) [c] = if b = c then 0 else if Lib.index l [c] = -1 then -1 else Lib.index l [c] + 1 := by
  show (if [c].isPrefixOf (b :: l) then (0 : Int) else _) = _
  by_cases h : b = c
  · subst h
    simp [List.isPrefixOf]
  · have h' : (c == b) = false := by rw [beq_eq_false_iff_ne]; exact fun e => h e.symm
    simp [List.isPrefixOf, h', h]
theorem index_spec (c : UInt8) : ∀ l : List UInt8, ((∀ z ∈ l, z ≠ c) ∧ Lib.index l [c] = -1) ∨ ∃ x y, (∀ z ∈ x, z ≠ c) ∧ l = x ++ c :: y ∧ Lib.index l [c] = x.length
  | [] => Or.inl ⟨fun z hz => (by cases hz), rfl⟩
  | b :: l => by
    rw [index_cons]
    by_cases h : b = c
    · subst h
      exact Or.inr ⟨[], l, fun z hz => (by cases hz), rfl, by rw [if_pos rfl]; rfl⟩
    · rw [if_neg h]
      rcases index_spec c l with ⟨h1, h2⟩ | ⟨x, y, h1, h2, h3⟩
      · refine Or.inl ⟨fun z hz => ?_, by rw [if_pos h2]⟩
        rcases List.mem_cons.1 hz with rfl | hz
        · exact h
        · exact h1 z hz
      · refine Or.inr ⟨b :: x, y, fun z hz => ?_, by rw [h2]; rfl, ?_⟩
        · rcases List.mem_cons.1 hz with rfl | hz
          · exact h
          · exact h1 z hz
        · rw [h3, if_neg (by omega)]
          simp
theorem cut_at (c : UInt8) (l : List UInt8) : ((∀ z ∈ l, z ≠ c) ∧ Lib.cut l [c] = (l, [], false)) ∨ ∃ x y, (∀ z ∈ x, z ≠ c) ∧ l = x ++ c :: y ∧ Lib.cut l [c] = (x, y, true) := by
  unfold Lib.cut
  rcases index_spec c l with ⟨h1, h2⟩ | ⟨x, y, h1, h2, h3⟩
  · exact Or.inl ⟨h1, by rw [h2, if_neg (by omega)]⟩
  · refine Or.inr ⟨x, y, h1, h2, ?_⟩
    rw [h3, if_pos (by omega), h2]
    simp

/-- words put together again -/
def joinW : List (List UInt8) → List UInt8
  | [] => []
  | [x] => x
  | x :: y :: r => x ++ 32 :: joinW (y :: r)
theorem wordsA_ne (cur l : List UInt8) : ∃ x r, wordsA cur l = x :: r := by
  induction l generalizing cur with
  | nil => exact ⟨cur, [], rfl⟩
  | cons c l ih =>
    show ∃ x r, (if c = 32 then cur :: wordsA [] l else wordsA (cur ++ [c]) l) = x :: r
    split
    · exact ⟨_, _, rfl⟩
    · exact ih _
theorem join_wordsA : ∀ (l cur : List UInt8), joinW (wordsA cur l) = cur ++ l
  | [], cur => by simp [wordsA, joinW]
  | c :: l, cur => by
    show joinW (if c = 32 then cur :: wordsA [] l else wordsA (cur ++ [c]) l) = _
    split
    · rename_i h
      obtain ⟨x, r, e⟩ := wordsA_ne [] l
      have ih := join_wordsA l []
      rw [e] at ih ⊢
      show cur ++ 32 :: joinW (x :: r) = _
      rw [ih, h]
      simp
    · rw [join_wordsA l (cur ++ [c])]
      simp
theorem words_inj {l l' : List UInt8} (h : words l = words l') : l = l' := by
  have h1 := join_wordsA l []
  have h2 := join_wordsA l' []
  unfold words at h
  rw [h, h2] at h1
  simpa using h1.symm
theorem isLine_words {l : List UInt8} {g : Sg} : IsLine l g ↔ g.Ok ∧ words l = lwords g := by
  constructor
  · rintro ⟨h, rfl⟩
    exact ⟨h, words_ltxt g⟩
  · rintro ⟨h, e⟩
    exact ⟨h, words_inj (by rw [words_ltxt]; exact e.symm)⟩
/-- words of a line are parts of it -/
theorem wordsA_nonl : ∀ (l cur : List UInt8), (∀ z ∈ l, z ≠ 10) → (∀ z ∈ cur, z ≠ 10) → ∀ x ∈ wordsA cur l, ∀ z ∈ x, z ≠ 10
  | [], cur, _, hc, x, hx => by
    obtain rfl : x = cur := by simpa [wordsA] using hx
    exact hc
  | c :: l, cur, hl, hc, x, hx => by
    have hl' : ∀ z ∈ l, z ≠ 10 := fun z hz => hl z (by simp [hz])
    replace hx : x ∈ (if c = 32 then cur :: wordsA [] l else wordsA (cur ++ [c]) l) := hx
    split at hx
    · rcases List.mem_cons.1 hx with rfl | hx
      · exact hc
      · exact wordsA_nonl l [] hl' (fun z hz => by cases hz) x hx
    · refine wordsA_nonl l (cur ++ [c]) hl' (fun z hz => ?_) x hx
      rcases List.mem_append.1 hz with hz | hz
      · exact hc z hz
      · obtain rfl : z = c := by simpa using hz
        exact hl z (by simp)
theorem wordsA_short : ∀ (l cur x : List UInt8), x ∈ wordsA cur l → x.length ≤ cur.length + l.length
  | [], cur, x, hx => by
    obtain rfl : x = cur := by simpa [wordsA] using hx
    simp
  | c :: l, cur, x, hx => by
    replace hx : x ∈ (if c = 32 then cur :: wordsA [] l else wordsA (cur ++ [c]) l) := hx
    split at hx
    · rcases List.mem_cons.1 hx with rfl | hx
      · simp
      · have := wordsA_short l [] x hx
        simp at this
        simp
        omega
    · have := wordsA_short l (cur ++ [c]) x hx
      simp at this
      simp
      omega

/-- the next word, and what is left -/
def nw : List (List UInt8) → List UInt8
  | [] => [10]
  | x :: _ => x
def nr : List (List UInt8) → List (List UInt8)
  | [] => []
  | _ :: r => r
theorem nw_eq {ws : List (List UInt8)} {x : List UInt8} (h : nw ws = x) (hx : x ≠ [10]) : ws = x :: nr ws := by
  cases ws with
  | nil => exact absurd h.symm hx
  | cons y r => rw [show y = x from h]; rfl
theorem nr_sub {ws : List (List UInt8)} {x : List UInt8} (h : x ∈ nr ws) : x ∈ ws := by
  cases ws with
  | nil => cases h
  | cons y r => exact List.mem_cons_of_mem _ h

theorem parse_dec : ∀ (l : List UInt8) (n k : Nat), (∀ c ∈ l, isDig c) → n < 10 ^ k → l.length + k ≤ 9 → Lib.parseUint10 n l = .ok (val n l)
  | [], n, k, _, _, _ => rfl
  | c :: l, n, k, h, hn, hk => by
    have hc := h c (by simp)
    unfold isDig at hc
    have h9 : 10 ^ (k + 1) ≤ 10 ^ 9 := Nat.pow_le_pow_right (by omega) (by simp at hk; omega)
    have hn' : n * 10 + (c.toNat - 48) < 10 ^ (k + 1) := by rw [Nat.pow_succ]; omega
    have e9 : (10 : Nat) ^ 9 = 1000000000 := by decide
    have h10 : n < 1000000000 := by omega
    show (if 48 ≤ c.toNat ∧ c.toNat ≤ 57 then (if 1844674407370955162 ≤ n then _ else if 18446744073709551616 ≤ n * 10 + (c.toNat - 48) then _ else Lib.parseUint10 (n * 10 + (c.toNat - 48)) l) else _) = _
    rw [if_pos hc, if_neg (by omega), if_neg (by omega), parse_dec l (n * 10 + (c.toNat - 48)) (k + 1) (fun z hz => h z (by simp [hz])) hn' (by simp at hk ⊢; omega)]
    show Lib.NumEnd.ok (val _ l) = .ok (val (10 * n + (c.toNat - 48)) l)
    rw [Nat.mul_comm]
theorem atoi_dec {m : Nat} (h : m < 100000000) : Lib.atoiAll (dec m) = .ok (m : Int) := by
  have hd := dec_digs m
  have hv := dec_val m
  have hl : (dec m).length ≤ 8 := dec_len (by omega) (by omega)
  have hne := dec_ne m
  generalize dec m = l at *
  cases l with
  | nil => exact absurd rfl hne
  | cons c r =>
    have hc := hd c (by simp)
    unfold isDig at hc
    unfold Lib.atoiAll
    simp only
    rw [if_neg (by omega)]
    unfold Lib.parseMag
    rw [if_neg (by simp), parse_dec (c :: r) 0 0 hd (by omega) (by omega), hv]
    simp only
    rw [if_neg (by omega), if_neg (by omega), if_neg (by omega)]

end Go.Proofs.YtachkoledebanabGreatDoor
