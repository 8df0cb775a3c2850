/-
  eqIntS, eqBoolS, eqBoolSS, eqRow at two that read the same: true.
-/
import Derived.Test.YtachkoledebanabGreatDoorBaseEtc
namespace Go.Proofs.YtachkoledebanabGreatDoor
open Go.RowKit

set_option maxHeartbeats 400000 in
theorem eqIntS_same (ao bo : Option Addr) (n ca cb : Nat) (f : Nat → Int) (w : World) (hn : n ≤ 1048576) (ha : SlAt w ao n (fun k => .int .i64 (f k))) (hb : SlAt w bo n (fun k => .int .i64 (f k))) :
    Calls Tryz.prog 40 #[.slice ao n ca, .slice bo n cb] w fun e w' => e = .returned (.bool true) ∧ ∃ m, w' = w.drewN m := by
  have h0 : ((n : Int) != (n : Int)) = false := by simp
  go_enter Tryz.func40, Tryz.ntmps40
  go_wp2
  go_loopw [5] (fun i wr => ∃ k m : Nat, k ≤ n ∧ i = .int .i64 k ∧ wr = w.drewN m) (fun i _ => n - (intOf i).toNat)
  case atStart => exact ⟨0, 0, Nat.zero_le _, rfl, rfl⟩
  case round =>
    obtain ⟨k, m, hk, rfl, rfl⟩ := hrel
    by_cases hlt : k < n
    · obtain ⟨b, o, rfl, hc⟩ := ha k hlt
      obtain ⟨b', o', rfl, hc'⟩ := hb k hlt
      have hlt' : (k : Int) < (n : Int) := by omega
      clear ha hb
      go_wp2_with fail
      go_quiet (fail)
      go_wp2
      go_roundw
      case rel => exact ⟨k + 1, _, by omega, by go_num, rfl⟩
      case measure => simp [intOf]; omega
    · go_wp2
      go_ret
      exact ⟨rfl, m, rfl⟩

set_option maxHeartbeats 400000 in
theorem eqBoolS_same (ao bo : Option Addr) (n ca cb : Nat) (f : Nat → Bool) (w : World) (hn : n ≤ 1048576) (ha : SlAt w ao n (fun k => .bool (f k))) (hb : SlAt w bo n (fun k => .bool (f k))) :
    Calls Tryz.prog 41 #[.slice ao n ca, .slice bo n cb] w fun e w' => e = .returned (.bool true) ∧ ∃ m, w' = w.drewN m := by
  have h0 : ((n : Int) != (n : Int)) = false := by simp
  go_enter Tryz.func41, Tryz.ntmps41
  go_wp2
  go_loopw [5] (fun i wr => ∃ k m : Nat, k ≤ n ∧ i = .int .i64 k ∧ wr = w.drewN m) (fun i _ => n - (intOf i).toNat)
  case atStart => exact ⟨0, 0, Nat.zero_le _, rfl, rfl⟩
  case round =>
    obtain ⟨k, m, hk, rfl, rfl⟩ := hrel
    by_cases hlt : k < n
    · obtain ⟨b, o, rfl, hc⟩ := ha k hlt
      obtain ⟨b', o', rfl, hc'⟩ := hb k hlt
      have hlt' : (k : Int) < (n : Int) := by omega
      clear ha hb
      go_wp2_with fail
      go_quiet (fail)
      go_wp2
      go_roundw
      case rel => exact ⟨k + 1, _, by omega, by go_num, rfl⟩
      case measure => simp [intOf]; omega
    · go_wp2
      go_ret
      exact ⟨rfl, m, rfl⟩

theorem SlAt.drewN {w : World} {ao : Option Addr} {n : Nat} {f : Nat → Value} (h : SlAt w ao n f) (m : Nat) : SlAt (w.drewN m) ao n f := h.keep (below_drewN (Below.refl _ _) m)
theorem RowAt.drewN {w : World} {a1 a2 a3 a4 : Option Addr} {A : Nat → Option Addr} {C : Nat → Nat} {d : RD} (h : RowAt w a1 a2 a3 a4 A C d) (m : Nat) : RowAt (w.drewN m) a1 a2 a3 a4 A C d := h.keep (below_drewN (Below.refl _ _) m)

set_option maxHeartbeats 400000 in
theorem eqBoolSS_same (ao bo : Option Addr) (n ca cb : Nat) (A B : Nat → Option Addr) (L C D : Nat → Nat) (g : Nat → Nat → Bool) (w : World) (hn : n ≤ 1048576) (hL : ∀ i, i < n → L i ≤ 1048576)
    (ha : SlAt w ao n (fun k => .slice (A k) (L k) (C k))) (hb : SlAt w bo n (fun k => .slice (B k) (L k) (D k)))
    (hA : ∀ i, i < n → SlAt w (A i) (L i) (fun j => .bool (g i j))) (hB : ∀ i, i < n → SlAt w (B i) (L i) (fun j => .bool (g i j))) :
    Calls Tryz.prog 42 #[.slice ao n ca, .slice bo n cb] w fun e w' => e = .returned (.bool true) ∧ ∃ m, w' = w.drewN m := by
  have h0 : ((n : Int) != (n : Int)) = false := by simp
  go_enter Tryz.func42, Tryz.ntmps42
  go_wp2
  go_loopw [5] (fun i wr => ∃ k m : Nat, k ≤ n ∧ i = .int .i64 k ∧ wr = w.drewN m) (fun i _ => n - (intOf i).toNat)
  case atStart => exact ⟨0, 0, Nat.zero_le _, rfl, rfl⟩
  case round =>
    obtain ⟨k, m, hk, rfl, hw⟩ := hrel
    by_cases hlt : k < n
    · obtain ⟨b, o, rfl, hc⟩ := (ha.drewN m) k hlt
      obtain ⟨b', o', rfl, hc'⟩ := (hb.drewN m) k hlt
      have hlt' : (k : Int) < (n : Int) := by omega
      have hLk := hL k hlt
      have h1 := (hA k hlt).drewN m
      have h2 := (hB k hlt).drewN m
      rw [← hw] at hc hc' h1 h2
      have HW : Hid (wr = w.drewN m) := hw
      clear ha hb hA hB hL hw
      go_wp2_with fail
      go_quiet ((go_at_call 41; exact Calls.quiet_of (eqBoolS_same (A k) (B k) (L k) (C k) (D k) (g k) _ hLk (h1.drewN _) (h2.drewN _))))
      go_wp2
      go_roundw
      case rel => exact ⟨k + 1, _, by omega, by go_num, by rw [HW.out]; exact World.drewN_drewN ..⟩
      case measure => simp [intOf]; omega
    · subst hw
      go_wp2
      go_ret
      exact ⟨rfl, m, rfl⟩

set_option maxHeartbeats 1000000 in
theorem eqRow_same (a1 a2 a3 a4 b1 b2 b3 b4 : Option Addr) (c1 c2 c3 c4 e1 e2 e3 e4 : Nat) (A B : Nat → Option Addr) (C D : Nat → Nat) (d : RD) (w : World) (hs : Small d) (ha : RowAt w a1 a2 a3 a4 A C d) (hb : RowAt w b1 b2 b3 b4 B D d) :
    Calls Tryz.prog 17 #[.agg #[.slice a1 d.nN c1, .slice a2 d.nF c2, .slice a3 d.nO c3, .slice a4 d.nW c4], .agg #[.slice b1 d.nN e1, .slice b2 d.nF e2, .slice b3 d.nO e3, .slice b4 d.nW e4]] w fun e w' =>
      e = .returned (.bool true) ∧ Below w.heap.size w w' := by
  have bel : Below w.heap.size w ((w.alloc (.cells #[.slice a1 d.nN c1, .slice a2 d.nF c2, .slice a3 d.nO c3, .slice a4 d.nW c4] 26)).alloc (.cells #[.slice b1 d.nN e1, .slice b2 d.nF e2, .slice b3 d.nO e3, .slice b4 d.nW e4] 26)) := ((Below.refl _ _).alloc (Nat.le_refl _) _).alloc (by simp) _
  have ha' := ha.keep bel
  have hb' := hb.keep bel
  clear ha hb
  go_enter Tryz.func17, Tryz.ntmps17
  go_wp2_with fail
  refine (eqIntS_same a1 b1 d.nN c1 e1 d.nx _ hs.nN ha'.nx hb'.nx).mono ?_
  rintro e w' ⟨rfl, m1, rfl⟩
  go_wp2_with fail
  refine (eqIntS_same a2 b2 d.nF c2 e2 d.fr _ hs.nF (ha'.drewN _).fr (hb'.drewN _).fr).mono ?_
  rintro e w' ⟨rfl, m2, rfl⟩
  go_wp2_with fail
  refine (eqBoolS_same a3 b3 d.nO c3 e3 d.op _ hs.nO (by exact (ha'.drewN _).op) (by exact (hb'.drewN _).op)).mono ?_
  rintro e w' ⟨rfl, m3, rfl⟩
  go_wp2_with fail
  refine (eqBoolSS_same a4 b4 d.nW c4 e4 A B d.L C D d.wk _ hs.nW hs.L (by exact (ha'.drewN _).wk) (by exact (hb'.drewN _).wk) (by exact (ha'.drewN _).lm) (by exact (hb'.drewN _).lm)).mono ?_
  rintro e w' ⟨rfl, m4, rfl⟩
  go_wp2
  go_ret
  exact ⟨rfl, below_drewN bel _⟩

end Go.Proofs.YtachkoledebanabGreatDoor
