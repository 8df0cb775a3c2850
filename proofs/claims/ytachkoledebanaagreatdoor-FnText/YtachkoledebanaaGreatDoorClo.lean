/-
  slices.Clone at []bool.
-/
import Derived.Test.YtachkoledebanaaGreatDoorBldEtc
import Derived.Test.YtachkoledebanaaGreatDoorSet
namespace Go.Proofs.YtachkoledebanaaGreatDoor
open Go.RowKit Go.WideMaps Go.Maps

/-- a slice of the call's own, of n cells of type t -/
def RetT (e : Ending) (lo n t : Nat) (w' : World) (f : Nat → Value) : Prop := ∃ ao cap, e = .returned (.slice ao n cap) ∧ OwnT w' lo w'.heap.size ao n t f

theorem eqNil (n cap : Nat) (w : World) : (binOp .eql 24 (.slice none n cap) (.slice none 0 0)).run Tryz.prog w = .ok (.bool true) w := by kernel_rfl
theorem neNil (x : Addr) (n cap : Nat) (w : World) : (binOp .eql 24 (.slice (some x) n cap) (.slice none 0 0)).run Tryz.prog w = .ok (.bool false) w := by kernel_rfl

set_option maxHeartbeats 1000000 in
theorem clone_any (ao : Option Addr) (n cap : Nat) (f : Nat → Bool) (w : World) (hn : n ≤ 60) (h : SlAt w ao n (fun k => .bool (f k))) :
    Calls Tryz.prog 60 #[.slice ao n cap] w fun e w' => RetT e w.heap.size n 4 w' (fun k => .bool (f k)) ∧ Below w.heap.size w w' := by
  obtain ⟨ib, hib, hzb0, hzb1, hzb2⟩ := info_parts Tryz.iBool
  go_enter Tryz.func60, Tryz.ntmps60
  cases ao with
  | none =>
    have hz := eqNil n cap
    obtain rfl : n = 0 := by
      cases n with
      | zero => rfl
      | succ n =>
        obtain ⟨b, o, e, _⟩ := h 0 (Nat.succ_pos _)
        cases e
    go_wp2
    go_ret
    exact ⟨⟨none, 0, rfl, fun k hk => absurd hk (Nat.not_lt_zero _)⟩, Below.refl _ _⟩
  | some x =>
    have hz := neNil x n cap
    have hal : Below w.heap.size w (w.alloc (.cells #[] 4)) := (Below.refl _ _).alloc (Nat.le_refl _) _
    have hk := h.keep hal
    have hown : (w.alloc (.cells #[] 4)).ownsRow w.heap.size 4 1 (.slice (some ⟨w.heap.size, 0, none⟩) 0 0) 0 [] := ⟨rfl, Or.inr ⟨w.heap.size, 0, #[], rfl, Nat.le_refl _, Blk.new w #[] 4, Nat.le_refl _, Nat.zero_le _, rfl, rfl⟩⟩
    go_wp2_with (at_builtin; refine wpList_append_own _ rfl _ _ 24 rfl w.heap.size 4 ib (.bool false) 1 1 Tryz.uBools hib hzb0 hzb1 hzb2 rfl (by decide) _ 0 [] rfl hown x n cap ((List.range n).map (fun k => .bool (f k))) rfl (range_map_len _ _) (news_of_sl hk) (one_bools _ _) (by unfold maxLen; omega) (by omega) (by simp) ?_; intro v1 w1 hv1 hg1 hn1)
    have hB : Below w.heap.size w w1 := hal.grown hg1 (by simp) (fun k e => by
      have e' : (some w.heap.size : Option Nat) = some k := e
      injection e' with e'
      omega)
    obtain ⟨ao, cp, rfl, ht⟩ := OwnT.ofOwns (f := fun k => .bool (f k)) (n := n) (by simpa using hv1)
    clear hg1 hn1 hv1 hown
    go_ret
    exact ⟨⟨ao, cp, rfl, ht⟩, hB⟩

end Go.Proofs.YtachkoledebanaaGreatDoor
