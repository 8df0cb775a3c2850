/-
  szIntS, szBoolS, szBoolSS, szRow: what is told of the size: less than 0, or no list is longer than 2^20.
-/
import Derived.Test.YtachkoledebanaaRow
namespace Go.Proofs.Ytachkoledebanaa
open Go.RowKit

/-- less than 0; or at least 0, at most what was left, and p -/
def SzOk (left : Int) (p : Prop) (r : Int) : Prop := r = -1 ∨ (0 ≤ r ∧ r ≤ left ∧ p)

set_option maxHeartbeats 400000 in
theorem szIntS_any (ao : Option Addr) (n cap : Nat) (left : Int) (w : World) (hn : n ≤ 9223372036854775807) (h0 : 0 ≤ left) (h1 : left ≤ 1048576) :
    Calls Try.prog 63 #[.slice ao n cap, .int .i64 left] w fun e w' => (∃ r, e = .returned (.int .i64 r) ∧ SzOk left (n ≤ 1048576) r) ∧ w' = w := by
  by_cases hlt : left < n
  · go_enter Try.func63, Try.ntmps63
    go_wp2
    go_ret
    exact ⟨⟨-1, rfl, Or.inl rfl⟩, rfl⟩
  · go_enter Try.func63, Try.ntmps63
    go_wp2
    go_ret
    exact ⟨⟨_, rfl, Or.inr ⟨by omega, by omega, by omega⟩⟩, rfl⟩

set_option maxHeartbeats 400000 in
theorem szBoolS_any (ao : Option Addr) (n cap : Nat) (left : Int) (w : World) (hn : n ≤ 9223372036854775807) (h0 : 0 ≤ left) (h1 : left ≤ 1048576) :
    Calls Try.prog 64 #[.slice ao n cap, .int .i64 left] w fun e w' => (∃ r, e = .returned (.int .i64 r) ∧ SzOk left (n ≤ 1048576) r) ∧ w' = w := by
  by_cases hlt : left < n
  · go_enter Try.func64, Try.ntmps64
    go_wp2
    go_ret
    exact ⟨⟨-1, rfl, Or.inl rfl⟩, rfl⟩
  · go_enter Try.func64, Try.ntmps64
    go_wp2
    go_ret
    exact ⟨⟨_, rfl, Or.inr ⟨by omega, by omega, by omega⟩⟩, rfl⟩

set_option maxHeartbeats 400000 in
theorem szBoolSS_any (ao : Option Addr) (n cap : Nat) (A : Nat → Option Addr) (L C : Nat → Nat) (left : Int) (w : World) (hn : n ≤ 9223372036854775807) (hL : ∀ i, i < n → L i ≤ 9223372036854775807) (h0 : 0 ≤ left) (h1 : left ≤ 1048576)
    (h : SlAt w ao n (fun i => .slice (A i) (L i) (C i))) :
    Calls Try.prog 65 #[.slice ao n cap, .int .i64 left] w fun e w' => (∃ r, e = .returned (.int .i64 r) ∧ SzOk left (n ≤ 1048576 ∧ ∀ i, i < n → L i ≤ 1048576) r) ∧ w' = w := by
  by_cases hlt : left < n
  · go_enter Try.func65, Try.ntmps65
    go_wp2
    go_ret
    exact ⟨⟨-1, rfl, Or.inl rfl⟩, rfl⟩
  · go_enter Try.func65, Try.ntmps65
    go_wp2
    go_loop [1, 5] (fun l i => ∃ (k : Nat) (q : Int), k ≤ n ∧ i = .int .i64 k ∧ l = .int .i64 q ∧ 0 ≤ q ∧ q ≤ left ∧ ∀ j, j < k → L j ≤ 1048576) (fun _ i => n - (intOf i).toNat)
    case atStart => exact ⟨0, _, Nat.zero_le _, rfl, rfl, by omega, by omega, fun j hj => absurd hj (Nat.not_lt_zero _)⟩
    case round =>
      obtain ⟨k, q, hk, rfl, rfl, hq0, hq1, hall⟩ := hrel
      by_cases hkn : k < n
      · obtain ⟨b, o, rfl, hc⟩ := h k hkn
        have hLk := hL k hkn
        have HA : Hid (∀ j, j < k → L j ≤ 1048576) := hall
        clear hall hL h
        go_wp2_with fail
        refine (szBoolS_any (A k) (L k) (C k) q w hLk hq0 (by omega)).mono ?_
        rintro e w' ⟨⟨r, rfl, hr⟩, rfl⟩
        rcases hr with rfl | ⟨hr0, hr1, hr2⟩
        · go_wp2
          go_ret
          exact ⟨⟨-1, rfl, Or.inl rfl⟩, rfl⟩
        · go_wp2
          go_round
          case rel => exact ⟨k + 1, r, by omega, by go_num, rfl, hr0, by omega, fun j hj => by
            by_cases e : j = k
            · subst e; exact hr2
            · exact HA.out j (by omega)⟩
          case measure => simp [intOf]; omega
      · have e : k = n := by omega
        subst e
        have HA : Hid (∀ j, j < k → L j ≤ 1048576) := hall
        clear hall hL h
        go_wp2
        go_ret
        exact ⟨⟨q, rfl, Or.inr ⟨hq0, hq1, by omega, HA.out⟩⟩, rfl⟩

/-- every length of the row is one that a machine bears -/
structure Bears (d : RD) : Prop where
  nN : d.nN ≤ 9223372036854775807
  nF : d.nF ≤ 9223372036854775807
  nO : d.nO ≤ 9223372036854775807
  nW : d.nW ≤ 9223372036854775807
  L : ∀ i, i < d.nW → d.L i ≤ 9223372036854775807

set_option maxHeartbeats 1000000 in
theorem szRow_any (a1 a2 a3 a4 : Option Addr) (c1 c2 c3 c4 : Nat) (A : Nat → Option Addr) (C : Nat → Nat) (d : RD) (left : Int) (w : World) (h0 : 0 ≤ left) (h1 : left ≤ 1048576) (hre : Bears d) (h : RowAt w a1 a2 a3 a4 A C d) :
    Calls Try.prog 35 #[.agg #[.slice a1 d.nN c1, .slice a2 d.nF c2, .slice a3 d.nO c3, .slice a4 d.nW c4], .int .i64 left] w fun e w' =>
      (∃ r, e = .returned (.int .i64 r) ∧ SzOk left (Small d) r) ∧ Below w.heap.size w w' := by
  obtain ⟨n1, n2, n3, n4, n5⟩ := hre
  have bel : Below w.heap.size w (w.alloc (.cells #[.slice a1 d.nN c1, .slice a2 d.nF c2, .slice a3 d.nO c3, .slice a4 d.nW c4] 47)) := (Below.refl _ _).alloc (Nat.le_refl _) _
  have hk := (h.keep bel).wk
  clear h
  go_enter Try.func35, Try.ntmps35
  go_wp2_with fail
  refine (szIntS_any a1 d.nN c1 left _ n1 h0 h1).mono ?_
  rintro e w' ⟨⟨r, rfl, hr⟩, rfl⟩
  rcases hr with rfl | ⟨q0, q1, q2⟩
  · go_wp2
    go_ret
    exact ⟨⟨-1, rfl, Or.inl rfl⟩, bel⟩
  go_wp2_with fail
  refine (szIntS_any a2 d.nF c2 r _ n2 q0 (by omega)).mono ?_
  rintro e w' ⟨⟨r2, rfl, hr⟩, rfl⟩
  rcases hr with rfl | ⟨q3, q4, q5⟩
  · go_wp2
    go_ret
    exact ⟨⟨-1, rfl, Or.inl rfl⟩, bel⟩
  go_wp2_with fail
  refine (szBoolS_any a3 d.nO c3 r2 _ n3 q3 (by omega)).mono ?_
  rintro e w' ⟨⟨r3, rfl, hr⟩, rfl⟩
  rcases hr with rfl | ⟨q6, q7, q8⟩
  · go_wp2
    go_ret
    exact ⟨⟨-1, rfl, Or.inl rfl⟩, bel⟩
  go_wp2_with fail
  refine (szBoolSS_any a4 d.nW c4 A d.L C r3 _ n4 n5 q6 (by omega) hk).mono ?_
  rintro e w' ⟨⟨r4, rfl, hr⟩, rfl⟩
  rcases hr with rfl | ⟨q9, q10, q11, q12⟩
  · go_wp2
    go_ret
    exact ⟨⟨-1, rfl, Or.inl rfl⟩, bel⟩
  clear n5 hk
  have HL : Hid (∀ i, i < d.nW → d.L i ≤ 1048576) := q12
  clear q12
  go_wp2
  go_ret
  exact ⟨⟨r4, rfl, Or.inr ⟨q9, by omega, q2, q5, q8, q11, HL.out⟩⟩, bel⟩

end Go.Proofs.Ytachkoledebanaa
