/-
  The cursor that draws a row out of bytes: next, pick.
-/
import Derived.Test.YtachkoledebanaaRet
import Derived.Laws.BitsAllLaws
namespace Go.Proofs.Ytachkoledebanaa
open Go.RowKit

/-- where the cursor stands -/
structure Cu where
  pos : Nat
  seed : Int

/-- the seed behind a byte; behind the bytes' end -/
def mixA (s b : Int) : Int := IntKind.u64.wrap (IntKind.u64.wrap (IntKind.u64.wrap (s * 6364136223846793005) + b) + 1442695040888963407)
def mixB (s : Int) : Int := IntKind.u64.wrap (IntKind.u64.wrap (s * 6364136223846793005) + 1442695040888963407)
/-- what is drawn of a seed -/
def top (s : Int) : Int := wrap64 (bits .and .u64 (s / 1099511627776) 255)

theorem wrapU (n : Int) : 0 ≤ IntKind.u64.wrap n ∧ IntKind.u64.wrap n < 18446744073709551616 := by rw [IntKind.wrap_u64]; omega
theorem mixA_bd (s b : Int) : 0 ≤ mixA s b ∧ mixA s b < 18446744073709551616 := wrapU _
theorem mixB_bd (s : Int) : 0 ≤ mixB s ∧ mixB s < 18446744073709551616 := wrapU _
theorem top_bd {s : Int} (h0 : 0 ≤ s) (h1 : s < 18446744073709551616) : 0 ≤ top s ∧ top s ≤ 255 := by
  unfold top
  rw [u64_and _ 255 (by omega) (by omega) (by omega) (by omega)]
  have := Nat.and_le_right (n := (s / 1099511627776).toNat) (m := (255 : Int).toNat)
  have e : (255 : Int).toNat = 255 := rfl
  rw [e] at this ⊢
  unfold wrap64
  omega

/-- the bytes -/
structure Code where
  n : Nat
  b : Nat → Int

def Cu.step (k : Code) (c : Cu) : Cu := ⟨c.pos + 1, if c.pos < k.n then mixA c.seed (k.b c.pos) else mixB c.seed⟩
def Cu.val (k : Code) (c : Cu) : Int := if c.pos < k.n then k.b c.pos else top (mixB c.seed)

/-- the cursor lies in block X, its bytes elsewhere -/
structure CurAt (w : World) (X : Nat) (ca : Option Addr) (cc : Nat) (k : Code) (c : Cu) : Prop where
  bk : Blk w X #[.slice ca k.n cc, .int .i64 c.pos, .int .u64 c.seed] 58
  code : ∀ i, i < k.n → ∃ b o, ca = some ⟨b, o, none⟩ ∧ b ≠ X ∧ w.cell? ⟨b, o + i, none⟩ = some (.int .u8 (k.b i))
  lo : 0 ≤ c.seed
  hi : c.seed < 18446744073709551616
  bd : ∀ i, i < k.n → 0 ≤ k.b i ∧ k.b i ≤ 255

theorem CurAt.val_bd {w : World} {X cc : Nat} {ca : Option Addr} {k : Code} {c : Cu} (h : CurAt w X ca cc k c) : 0 ≤ c.val k ∧ c.val k ≤ 255 := by
  unfold Cu.val
  split
  · exact h.bd _ (by assumption)
  · exact top_bd (mixB_bd _).1 (mixB_bd _).2

theorem CurAt.only {w w' : World} {X Y cc : Nat} {ca : Option Addr} {k : Code} {c : Cu} (h : CurAt w X ca cc k c) (ho : Below Y w w') (hX : X < Y) (hc : ∀ b o, ca = some ⟨b, o, none⟩ → 0 < k.n → b < Y) : CurAt w' X ca cc k c :=
  ⟨h.bk.below ho hX, fun i hi => by
    obtain ⟨b, o, e, hne, hb⟩ := h.code i hi
    exact ⟨b, o, e, hne, (ho.cell (p := ⟨b, o + i, none⟩) (hc b o e (by omega))).trans hb⟩, h.lo, h.hi, h.bd⟩

/-- the cursor goes on: two stores into its own block -/
theorem CurAt.go {w w' : World} {X cc : Nat} {ca : Option Addr} {k : Code} {c c' : Cu} (h : CurAt w X ca cc k c) (ho : Only X (X + 1) w w') (hb : Blk w' X #[.slice ca k.n cc, .int .i64 c'.pos, .int .u64 c'.seed] 58) (h1 : 0 ≤ c'.seed) (h2 : c'.seed < 18446744073709551616) : CurAt w' X ca cc k c' :=
  ⟨hb, fun i hi => by
    obtain ⟨b, o, e, hne, hb⟩ := h.code i hi
    exact ⟨b, o, e, hne, ho.cell (p := ⟨b, o + i, none⟩) (by show b < X ∨ X + 1 ≤ b; omega) hb⟩, h1, h2, h.bd⟩

theorem Only.two {w : World} {X m : Nat} (a b : Nat) (u v : Value) : Only X (X + 1) w (((w.drewN m).setCell ⟨X, a, none⟩ u).setCell ⟨X, b, none⟩ v) :=
  ((Only.ofBelow (below_drewN (Below.refl _ _) m)).setCell (p := ⟨X, a, none⟩) (Nat.le_refl _) (Nat.lt_succ_self _) u).setCell (p := ⟨X, b, none⟩) (Nat.le_refl _) (Nat.lt_succ_self _) v

theorem Blk.two12 {w : World} {X t : Nat} {a b c : Value} (h : Blk w X #[a, b, c] t) (m : Nat) (u v : Value) : Blk (((w.drewN m).setCell ⟨X, 1, none⟩ u).setCell ⟨X, 2, none⟩ v) X #[a, u, v] t := by
  have := ((h.drewN m).set 1 u).set 2 v
  simpa using this
theorem Blk.two21 {w : World} {X t : Nat} {a b c : Value} (h : Blk w X #[a, b, c] t) (m : Nat) (u v : Value) : Blk (((w.drewN m).setCell ⟨X, 2, none⟩ v).setCell ⟨X, 1, none⟩ u) X #[a, u, v] t := by
  have := ((h.drewN m).set 2 v).set 1 u
  simpa using this

set_option maxHeartbeats 2000000 in
theorem next_any (X : Nat) (ca : Option Addr) (cc : Nat) (k : Code) (c : Cu) (w : World) (_hn : k.n ≤ 1048576) (hc : c.pos ≤ 1048576) (h : CurAt w X ca cc k c) :
    Calls Try.prog 78 #[.pointer (some ⟨X, 0, none⟩)] w fun e w' => e = .returned (.int .i64 (c.val k)) ∧ CurAt w' X ca cc k (c.step k) ∧ Only X (X + 1) w w' ∧ w'.heap.size = w.heap.size := by
  have x0 := h.bk.cell 0
  have x1 := h.bk.cell 1
  have x2 := h.bk.cell 2
  have f1 := h.bk.free 1
  have f2 := h.bk.free 2
  simp at x0 x1 x2
  have hlo := h.lo
  have hhi := h.hi
  go_enter Try.func78, Try.ntmps78
  by_cases hlt : c.pos < k.n
  · obtain ⟨b, o, rfl, hne, hb⟩ := h.code c.pos hlt
    have hbd := h.bd c.pos hlt
    have hlt' : (c.pos : Int) < (k.n : Int) := by omega
    have h0' : (0 : Int) ≤ (c.pos : Int) := by omega
    go_wp2_with fail
    go_quiet (fail)
    go_wp2_with fail
    go_quiet (fail)
    go_wp2
    have HV : Hid (c.val k = k.b c.pos ∧ c.step k = ⟨c.pos + 1, mixA c.seed (k.b c.pos)⟩) := ⟨by unfold Cu.val; rw [if_pos hlt], by unfold Cu.step; rw [if_pos hlt]⟩
    go_ret
    refine ⟨by rw [HV.out.1]; rfl, ?_, Only.two 1 2 _ _, by simp⟩
    rw [HV.out.2]
    refine h.go (Only.two 1 2 _ _) ?_ (mixA_bd _ _).1 (mixA_bd _ _).2
    exact h.bk.two12 _ _ _
  · have hlt' : ¬ (c.pos : Int) < (k.n : Int) := by omega
    have z : decide ((c.pos : Int) < (k.n : Int)) = false := by simp; omega
    go_wp2_with fail
    go_quiet (fail)
    go_wp2
    have HV : Hid (c.val k = top (mixB c.seed) ∧ c.step k = ⟨c.pos + 1, mixB c.seed⟩) := ⟨by unfold Cu.val; rw [if_neg hlt], by unfold Cu.step; rw [if_neg hlt]⟩
    go_ret
    refine ⟨by rw [HV.out.1]; rfl, ?_, Only.two 2 1 _ _, by simp⟩
    rw [HV.out.2]
    refine h.go (Only.two 2 1 _ _) ?_ (mixB_bd _).1 (mixB_bd _).2
    exact h.bk.two21 _ _ _

set_option maxHeartbeats 2000000 in
theorem pick_any (p : Int) (h2 : 2 ≤ p) (h200 : p ≤ 200) (X : Nat) (ca : Option Addr) (cc : Nat) (k : Code) (c : Cu) (w : World) (hn : k.n ≤ 1048576) (hc : c.pos ≤ 1048576) (h : CurAt w X ca cc k c) :
    Calls Try.prog 77 #[.pointer (some ⟨X, 0, none⟩), .int .i64 p] w fun e w' => e = .returned (.int .i64 (c.val k % p)) ∧ CurAt w' X ca cc k (c.step k) ∧ Only X (X + 1) w w' ∧ w'.heap.size = w.heap.size := by
  have hv := h.val_bd
  have hnx := next_any X ca cc k c w hn hc h
  clear h
  go_enter Try.func77, Try.ntmps77
  go_wp2_with fail
  refine hnx.mono ?_
  rintro e w1 ⟨rfl, h1⟩
  clear hnx
  obtain ⟨v, hcv⟩ : ∃ v, v = c.val k := ⟨_, rfl⟩
  rw [← hcv] at hv ⊢
  have HV : Hid (v = c.val k) := hcv
  clear hcv
  go_wp2
  go_ret
  exact ⟨by rw [← HV.out]; rfl, h1⟩

end Go.Proofs.Ytachkoledebanaa
