/-
  Texts as lists of bytes; a number in decimal.
-/
import Derived.Test.YtachkoledebanabDoorRet
import Derived.Laws.Concat
import Derived.Laws.IdiomStrings
import Derived.Laws.BytesString
namespace Go.Proofs.YtachkoledebanabDoor
open Go.RowKit

/-- a text -/
def bs (l : List UInt8) : ByteArray := ⟨l.toArray⟩
theorem bs_size (l : List UInt8) : (bs l).size = l.length := by show l.toArray.size = _; simp
theorem bs_app (x y : List UInt8) : bs x ++ bs y = bs (x ++ y) := by unfold bs; rw [ByteArray.mk_append_mk]
theorem bs_list (l : List UInt8) : (bs l).toList = l := ByteArray.toList_mk l
theorem add_bs {P : Program} (x y : List UInt8) (h : x.length + y.length ≤ 9223372036854775807) (w : World) : (Op.stringOp .add (bs x) (bs y)).run P w = .ok (.string (bs (x ++ y))) w := by
  rw [run_string_add_sum w _ _ (by rw [bs_size, bs_size]; exact h), bs_app]

/-- the digits of a number, none for 0 -/
def dig (n : Nat) : UInt8 := UInt8.ofNat (48 + n % 10)
def decP (n : Nat) : List UInt8 := if n = 0 then [] else decP (n / 10) ++ [dig n]
decreasing_by omega
def dec (n : Nat) : List UInt8 := if n = 0 then [48] else decP n
theorem decP_zero : decP 0 = [] := by unfold decP; simp
theorem decP_pos {n : Nat} (h : 0 < n) : decP n = decP (n / 10) ++ [dig n] := by
  rw [decP, if_neg (by omega)]
theorem decP_len : ∀ (k n : Nat), n < 10 ^ k → (decP n).length ≤ k
  | 0, n, h => by
    obtain rfl : n = 0 := by omega
    rw [decP_zero]; simp
  | k + 1, n, h => by
    by_cases e : n = 0
    · subst e; rw [decP_zero]; simp
    · rw [decP_pos (by omega), List.length_append, List.length_singleton]
      have := decP_len k (n / 10) (by rw [Nat.pow_succ] at h; omega)
      omega
theorem dec_len {k n : Nat} (hk : 0 < k) (h : n < 10 ^ k) : (dec n).length ≤ k := by
  unfold dec
  split
  · exact hk
  · exact decP_len k n h

theorem conv_one (w : World) {v : Int} {c : UInt8} (h : (c.toNat : Int) = v) : (convert 42 9 (.slice (some ⟨w.heap.size, 0, none⟩) 1 1)).run Tryd.prog (w.alloc (.cells #[.int .u8 v] 5)) = .ok (.string (bs [c])) (w.alloc (.cells #[.int .u8 v] 5)) :=
  run_convert_bytes_back (P := Tryd.prog) (w.alloc (.cells #[.int .u8 v] 5)) 42 9 5 ⟨w.heap.size, 0, none⟩ 1 [c] Tryd.underlying42 Tryd.underlying5 Tryd.underlying9 (fun j hj => by
    obtain rfl : j = 0 := by simpa using hj
    have h1 := (Blk.new w #[.int .u8 v] 5).cell 0
    show World.cell? _ ⟨w.heap.size, 0, none⟩ = some (.int .u8 (c.toNat : Int))
    rw [h1, h]
    rfl)
theorem dig_nat (n : Nat) : ((dig n).toNat : Int) = 48 + (n : Int) % 10 := by
  unfold dig
  rw [UInt8.toNat_ofNat_of_lt' (show 48 + n % 10 < 256 by omega)]
  omega

set_option maxHeartbeats 1000000 in
theorem decimal_any (n : Nat) (w : World) (hn : n < 1000000000) :
    Calls Tryd.prog 27 #[.int .i64 n] w fun e w' => e = .returned (.string (bs (dec n))) ∧ Below w.heap.size w w' := by
  go_enter Tryd.func27, Tryd.ntmps27
  by_cases h0 : n = 0
  · subst h0
    go_wp2
    go_ret
    exact ⟨by simp [dec]; rfl, Below.refl _ _⟩
  have z : ((n : Int) == 0) = false := by rw [beq_eq_false_iff_ne]; omega
  go_wp2
  go_loopw [0, 3] (fun t o wr => ∃ (N : Nat) (out : List UInt8), t = .int .i64 N ∧ o = .string (bs out) ∧ decP N ++ out = decP n ∧ N ≤ n ∧ Below w.heap.size w wr) (fun t _ _ => (intOf t).toNat)
  case atStart => exact ⟨n, [], rfl, rfl, by simp, Nat.le_refl _, Below.refl _ _⟩
  case round =>
    obtain ⟨N, out, rfl, rfl, hd, hN, hB⟩ := hrel
    have hlen : out.length ≤ 9 := by
      have h1 := decP_len 9 n (by omega)
      rw [← hd, List.length_append] at h1
      omega
    have HD : Hid (decP N ++ out = decP n) := hd
    clear hd
    by_cases hp : 0 < N
    · have hc := conv_one wr (dig_nat N)
      have ha := add_bs (P := Tryd.prog) [dig N] out (by simp; omega) (wr.alloc (.cells #[.int .u8 (48 + (N : Int) % 10)] 5))
      have HN : Hid (decP (N / 10) ++ ([dig N] ++ out) = decP n) := by show _ = _; rw [← List.append_assoc, ← decP_pos hp]; exact HD.out
      have hB' : Below w.heap.size w (wr.alloc (.cells #[.int .u8 (48 + (N : Int) % 10)] 5)) := hB.alloc hB.size _
      go_wp2
      go_roundw
      case rel => exact ⟨N / 10, [dig N] ++ out, by go_num, rfl, HN.out, by omega, hB'⟩
      case measure => simp [intOf]; omega
    · obtain rfl : N = 0 := by omega
      have HE : Hid (out = dec n) := by
        show _ = _
        have h1 := HD.out
        rw [decP_zero, List.nil_append] at h1
        unfold dec
        rw [if_neg h0]
        exact h1
      go_wp2
      go_ret
      exact ⟨by rw [← HE.out]; rfl, hB⟩

theorem own_cells {w : World} {lo t : Nat} {v : Value} {n : Nat} {xs : List Value} (h : w.ownsRow lo t 1 v n xs) (hn : xs.length = n) : ∃ ao cap, v = .slice ao n cap ∧ SlAt w ao n (fun k => xs.getD k undef) := by
  obtain ⟨h1, ⟨hv, hn0⟩ | ⟨g, cap, cur, hv, hg, hh, hcap, _, hcs, htk⟩⟩ := h
  · exact ⟨none, 0, by rw [hv, hn0], fun k hk => absurd hk (by omega)⟩
  · refine ⟨some ⟨g, 0, none⟩, cap, hv, fun k hk => ⟨g, 0, rfl, ?_⟩⟩
    have e1 : cur.toList[k]? = xs[k]? := by
      rw [← htk, List.getElem?_take, if_pos (by omega)]
    simp only [World.cell?, hh]
    simp only [Array.getElem?_toList] at e1
    simp only [Option.isSome_none, Bool.false_eq_true, if_false, Nat.zero_add]
    rw [e1]
    simp [hn, hk]
theorem own_slat {w : World} {lo t : Nat} {ao : Option Addr} {n cap : Nat} {xs : List Value} (h : w.ownsRow lo t 1 (.slice ao n cap) n xs) (hn : xs.length = n) : SlAt w ao n (fun k => xs.getD k undef) := by
  obtain ⟨ao', cap', e, hs⟩ := own_cells h hn
  injection e with e
  rw [e]
  exact hs

end Go.Proofs.YtachkoledebanabDoor
