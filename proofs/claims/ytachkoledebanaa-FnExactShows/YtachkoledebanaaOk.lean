/-
  RowOk: the document's and the program's.
-/
import Derived.Test.YtachkoledebanaaRow
namespace Go.Proofs.Ytachkoledebanaa
open Go.RowKit

structure OkSizes (d : RD) : Prop where
  nN : d.nN ≤ 60
  nF : d.nF = d.nN
  nO : d.nO = d.nN
  nW : d.nW = d.nN
def OkWay (d : RD) (i : Nat) : Prop := (-1 ≤ d.nx i ∧ d.nx i < d.nN) ∧ 0 ≤ d.fr i ∧ d.fr i ≤ 1000000
def OkWays (d : RD) : Prop := ∀ i, i < d.nN → OkWay d i
def OkLamps (d : RD) : Prop := ∀ i, i < d.nW → d.L i = 4

/-- what RowOk answers -/
def IsOk (d : RD) (r : Int) : Prop := (¬ OkSizes d ∧ r = 1) ∨ (OkSizes d ∧ ¬ OkWays d ∧ r = 2) ∨ (OkSizes d ∧ OkWays d ∧ ¬ OkLamps d ∧ r = 3) ∨ (OkSizes d ∧ OkWays d ∧ OkLamps d ∧ r = 0)
theorem IsOk.sizes {d : RD} (h : ¬ OkSizes d) : IsOk d 1 := Or.inl ⟨h, rfl⟩
theorem IsOk.ways {d : RD} (h : OkSizes d) (h2 : ¬ OkWays d) : IsOk d 2 := Or.inr (Or.inl ⟨h, h2, rfl⟩)
theorem IsOk.lamps {d : RD} (h : OkSizes d) (h2 : OkWays d) (h3 : ¬ OkLamps d) : IsOk d 3 := Or.inr (Or.inr (Or.inl ⟨h, h2, h3, rfl⟩))
theorem IsOk.right {d : RD} (h : OkSizes d) (h2 : OkWays d) (h3 : OkLamps d) : IsOk d 0 := Or.inr (Or.inr (Or.inr ⟨h, h2, h3, rfl⟩))

theorem IsOk.one {d : RD} {r s : Int} (h : IsOk d r) (k : IsOk d s) : r = s := by
  rcases h with ⟨a, rfl⟩ | ⟨a, b, rfl⟩ | ⟨a, b, c, rfl⟩ | ⟨a, b, c, rfl⟩ <;> rcases k with ⟨a', rfl⟩ | ⟨a', b', rfl⟩ | ⟨a', b', c', rfl⟩ | ⟨a', b', c', rfl⟩ <;> first | rfl | contradiction

set_option maxHeartbeats 1000000 in
theorem specRowOk_any (a1 a2 a3 a4 : Option Addr) (c1 c2 c3 c4 : Nat) (A : Nat → Option Addr) (C : Nat → Nat) (d : RD) (w : World) (hs : Small d) (h : RowAt w a1 a2 a3 a4 A C d) :
    Calls Try.prog 36 #[.agg #[.slice a1 d.nN c1, .slice a2 d.nF c2, .slice a3 d.nO c3, .slice a4 d.nW c4]] w fun e w' =>
      (∃ r, e = .returned (.int .i64 r) ∧ IsOk d r) ∧ Below w.heap.size w w' := by
  obtain ⟨s1, s2, s3, s4, _⟩ := hs
  have bel : Below w.heap.size w (w.alloc (.cells #[.slice a1 d.nN c1, .slice a2 d.nF c2, .slice a3 d.nO c3, .slice a4 d.nW c4] 27)) := (Below.refl _ _).alloc (Nat.le_refl _) _
  have hk := h.keep bel
  clear h
  by_cases h1 : d.nN ≤ 60
  case neg =>
    go_enter Try.func36, Try.ntmps36
    go_wp2
    go_ret
    exact ⟨⟨1, rfl, .sizes fun k => h1 k.nN⟩, bel⟩
  by_cases h2 : d.nF = d.nN
  case neg =>
    have g2 : ((d.nF : Int) != (d.nN : Int)) = true := by rw [bne_iff_ne]; omega
    go_enter Try.func36, Try.ntmps36
    go_wp2
    go_ret
    exact ⟨⟨1, rfl, .sizes fun k => h2 k.nF⟩, bel⟩
  have g2 : ((d.nF : Int) != (d.nN : Int)) = false := by rw [bne_eq_false_iff_eq]; omega
  by_cases h3 : d.nO = d.nN
  case neg =>
    have g3 : ((d.nO : Int) != (d.nN : Int)) = true := by rw [bne_iff_ne]; omega
    clear h2
    go_enter Try.func36, Try.ntmps36
    go_wp2
    go_ret
    exact ⟨⟨1, rfl, .sizes fun k => h3 k.nO⟩, bel⟩
  have g3 : ((d.nO : Int) != (d.nN : Int)) = false := by rw [bne_eq_false_iff_eq]; omega
  by_cases h4 : d.nW = d.nN
  case neg =>
    have g4 : ((d.nW : Int) != (d.nN : Int)) = true := by rw [bne_iff_ne]; omega
    clear h2 h3
    go_enter Try.func36, Try.ntmps36
    go_wp2
    go_ret
    exact ⟨⟨1, rfl, .sizes fun k => h4 k.nW⟩, bel⟩
  have g4 : ((d.nW : Int) != (d.nN : Int)) = false := by rw [bne_eq_false_iff_eq]; omega
  have hok : Hid (OkSizes d) := ⟨h1, h2, h3, h4⟩
  have H2 : Hid (d.nF = d.nN) := h2
  have H4 : Hid (d.nW = d.nN) := h4
  clear h2 h3 h4
  have g1 : decide ((60 : Int) < (d.nN : Int)) = false := by simp; omega
  go_enter Try.func36, Try.ntmps36
  go_wp2
  go_loop [37] (fun i => ∃ k : Nat, k ≤ d.nN ∧ i = .int .i64 k ∧ ∀ j, j < k → OkWay d j) (fun i => d.nN - (intOf i).toNat)
  case atStart => exact ⟨0, Nat.zero_le _, rfl, fun j hj => absurd hj (Nat.not_lt_zero _)⟩
  case round =>
    obtain ⟨k, hkn, rfl, hall⟩ := hrel
    have HA : Hid (∀ j, j < k → OkWay d j) := hall
    clear hall
    by_cases hlt : k < d.nN
    · obtain ⟨b, o, rfl, hc⟩ := hk.nx k hlt
      obtain ⟨b', o', rfl, hc'⟩ := hk.fr k (by rw [H2.out]; exact hlt)
      have hlF : k < d.nF := by rw [H2.out]; exact hlt
      clear hk
      by_cases q1 : -1 ≤ d.nx k ∧ d.nx k < d.nN
      · obtain ⟨q2, q3⟩ := q1
        by_cases q4 : 0 ≤ d.fr k ∧ d.fr k ≤ 1000000
        · obtain ⟨q5, q6⟩ := q4
          go_wp2
          go_round
          case rel => exact ⟨k + 1, by omega, by go_num, fun j hj => by
            by_cases e : j = k
            · subst e; exact ⟨⟨q2, q3⟩, q5, q6⟩
            · exact HA.out j (by omega)⟩
          case measure => simp [intOf]; omega
        · have hbad : Hid (IsOk d 2) := .ways hok.out fun u => q4 (u k hlt).2
          have q5 : d.fr k < 0 ∨ 1000000 < d.fr k := by omega
          clear q4
          rcases q5 with q5 | q5
          · go_wp2
            go_ret
            exact ⟨⟨2, rfl, hbad.out⟩, bel⟩
          · have z : decide (d.fr k ≤ 1000000) = false := by simp; omega
            go_wp2
            go_ret
            exact ⟨⟨2, rfl, hbad.out⟩, bel⟩
      · have hbad : Hid (IsOk d 2) := .ways hok.out fun u => q1 (u k hlt).1
        have q5 : d.nx k < -1 ∨ (d.nN : Int) ≤ d.nx k := by omega
        clear q1
        rcases q5 with q5 | q5
        · go_wp2
          go_ret
          exact ⟨⟨2, rfl, hbad.out⟩, bel⟩
        · go_wp2
          go_ret
          exact ⟨⟨2, rfl, hbad.out⟩, bel⟩
    · have hways : Hid (OkWays d) := fun j hj => HA.out j (by omega)
      clear HA
      go_wp2
      go_loop [60] (fun i => ∃ k : Nat, k ≤ d.nW ∧ i = .int .i64 k ∧ ∀ j, j < k → d.L j = 4) (fun i => d.nW - (intOf i).toNat)
      case atStart => exact ⟨0, Nat.zero_le _, rfl, fun j hj => absurd hj (Nat.not_lt_zero _)⟩
      case round =>
        obtain ⟨k, hkn, rfl, hall⟩ := hrel
        have HA : Hid (∀ j, j < k → d.L j = 4) := hall
        clear hall
        by_cases hlt : k < d.nW
        · obtain ⟨b, o, rfl, hc⟩ := hk.wk k hlt
          clear hk
          by_cases q : d.L k = 4
          · have q1 : ((d.L k : Int) != 4) = false := by rw [bne_eq_false_iff_eq]; omega
            have HQ : Hid (d.L k = 4) := q
            clear q
            go_wp2
            go_round
            case rel => exact ⟨k + 1, by omega, by go_num, fun j hj => by
              by_cases e : j = k
              · subst e; exact HQ.out
              · exact HA.out j (by omega)⟩
            case measure => simp [intOf]; omega
          · have q1 : ((d.L k : Int) != 4) = true := by rw [bne_iff_ne]; omega
            have hbad : Hid (IsOk d 3) := .lamps hok.out hways.out fun u => q (u k hlt)
            go_wp2
            go_ret
            exact ⟨⟨3, rfl, hbad.out⟩, bel⟩
        · have hbad : Hid (IsOk d 0) := .right hok.out hways.out fun j hj => HA.out j (by omega)
          go_wp2
          go_ret
          exact ⟨⟨0, rfl, hbad.out⟩, bel⟩

end Go.Proofs.Ytachkoledebanaa
