/-
  An answer's lists marked and held.
-/
import Derived.Test.YtachkoledebanabGreatDoorRd2
import Derived.Test.YtachkoledebanabGreatDoorHeld
import Derived.Test.YtachkoledebanabGreatDoorEq
namespace Go.Proofs.YtachkoledebanabGreatDoor
open Go.RowKit

/-- all blocks but those of S stay -/
structure Bt (S : Nat → Prop) (w w' : World) : Prop where
  os : w'.os = w.os
  tape : w'.tape = w.tape
  output : w'.output = w.output
  size : w'.heap.size = w.heap.size
  block : ∀ k, k < w.heap.size → ¬ S k → w'.heap[k]? = w.heap[k]?
theorem Bt.refl (S : Nat → Prop) (w : World) : Bt S w w := ⟨rfl, rfl, rfl, rfl, fun _ _ _ => rfl⟩
theorem Bt.trans {S : Nat → Prop} {w a b : World} (h : Bt S w a) (k : Bt S a b) : Bt S w b :=
  ⟨k.os.trans h.os, k.tape.trans h.tape, k.output.trans h.output, k.size.trans h.size, fun i h1 h2 => (k.block i (by rw [h.size]; exact h1) h2).trans (h.block i h1 h2)⟩
theorem Bt.wide {S T : Nat → Prop} {w w' : World} (h : Bt S w w') (hs : ∀ k, S k → T k) : Bt T w w' := ⟨h.os, h.tape, h.output, h.size, fun k h1 h2 => h.block k h1 fun u => h2 (hs k u)⟩
theorem Bt.ofOnly {lo hi : Nat} {w w' : World} (h : Only lo hi w w') (hs : w'.heap.size = w.heap.size) : Bt (fun k => lo ≤ k ∧ k < hi) w w' := ⟨h.os, h.tape, h.output, hs, fun k h1 h2 => h.block k h1 (by omega)⟩
theorem Bt.below {S : Nat → Prop} {B : Nat} {w w' : World} (h : Bt S w w') (hS : ∀ k, S k → B ≤ k) (hB : B ≤ w.heap.size) : Below B w w' :=
  ⟨h.os, h.tape, h.output, by rw [h.size]; exact Nat.le_refl _, fun k hk => h.block k (by omega) fun u => by have := hS k u; omega⟩
/-- a list in block g, if it is not empty -/
def InB (w : World) (g t : Nat) (s : Option Addr) (n : Nat) (f : Nat → Value) : Prop :=
  0 < n → s = some ⟨g, 0, none⟩ ∧ ∃ cur, w.heap[g]? = some (.cells cur t (0, 0)) ∧ ∀ j, j < n → cur[j]? = some (f j)
theorem InB.own {w : World} {g t n : Nat} {s : Option Addr} {f : Nat → Value} (h : InB w g t s n f) : OwnS w g (g + 1) s n f := fun k hk => by
  obtain ⟨e, cur, hc, hf⟩ := h (by omega)
  exact ⟨g, e, Nat.le_refl _, Nat.lt_succ_self _, by rw [Lib.cell_of_heap hc, hf k hk], Lib.frozen_of_heap hc k⟩
theorem InB.sl {w : World} {g t n : Nat} {s : Option Addr} {f : Nat → Value} (h : InB w g t s n f) : SlAt w s n f := h.own.sl
theorem InB.bt {S : Nat → Prop} {w w' : World} {g t n : Nat} {s : Option Addr} {f : Nat → Value} (h : InB w g t s n f) (hb : Bt S w w') (hS : 0 < n → ¬ S g) : InB w' g t s n f := fun hn => by
  obtain ⟨e, cur, hc, hf⟩ := h hn
  exact ⟨e, cur, (hb.block g (Array.getElem?_eq_some_iff.1 hc).1 (hS hn)).trans hc, hf⟩
theorem InB.ne {w : World} {g g' t t' n n' : Nat} {s s' : Option Addr} {f f' : Nat → Value} (h : InB w g t s n f) (h' : InB w g' t' s' n' f') (hn : 0 < n) (hn' : 0 < n') (ht : t ≠ t') : g ≠ g' := fun e => by
  obtain ⟨_, cur, hc, _⟩ := h hn
  obtain ⟨_, cur', hc', _⟩ := h' hn'
  rw [e, hc'] at hc
  injection hc with hc
  injection hc with _ hc
  exact ht hc.symm
theorem InB.keep {w w' : World} {g t n : Nat} {s : Option Addr} {f : Nat → Value} (h : InB w g t s n f) (hb : Below w.heap.size w w') : InB w' g t s n f := fun hn => by
  obtain ⟨e, cur, hc, hf⟩ := h hn
  exact ⟨e, cur, (hb.block g (Array.getElem?_eq_some_iff.1 hc).1).trans hc, hf⟩
theorem InB.of {w : World} {B t n k : Nat} {s : Option Addr} {xs : List Value} {f : Nat → Value} (h : w.ownsRow B t 1 (.slice s n k) n xs) (hB : B ≤ w.heap.size) (hf : ∀ j, j < n → xs[j]? = some (f j)) : ∃ g, B ≤ g ∧ InB w g t s n f ∧ (0 < n → (Value.slice s n k).ownBlock = some g) := by
  obtain ⟨q1, ⟨q2, rfl⟩ | ⟨g, cap, cur, e1, e2, e3, e4, e5, e6, e7⟩⟩ := h
  · exact ⟨w.heap.size, hB, fun hn => absurd hn (Nat.lt_irrefl _), fun hn => absurd hn (Nat.lt_irrefl _)⟩
  · have e1' : s = some ⟨g, 0, none⟩ := by injection e1
    refine ⟨g, e2, fun _ => ⟨e1', cur, e3, fun j hj => ?_⟩, fun _ => by rw [e1']; rfl⟩
    have h1 : (cur.toList.take (n * 1))[j]? = xs[j]? := by rw [e7]
    rw [List.getElem?_take, if_pos (by omega), Array.getElem?_toList] at h1
    rw [h1, hf j hj]

/-- a row as marks lie, from k on -/
def marked (k : Int) (n : Nat) : RD := ⟨n, fun j => k + j, n, fun j => k + n + j, n, fun j => (k + n + n + j) % 3 == 0, n, fun _ => 4, fun i a => (k + n + n + n + 4 * i + a) % 3 == 0⟩

set_option maxHeartbeats 1000000 in
theorem heldBoolS_any (ao : Option Addr) (n cap : Nat) (k0 : Int) (w : World) (hn : n ≤ 1048576) (hk0 : 0 ≤ k0) (hk1 : k0 ≤ 4611686018427387904) (h : SlAt w ao n (fun j => .bool ((k0 + j) % 3 == 0))) :
    Calls Tryz.prog 47 #[.slice ao n cap, .int .i64 k0] w fun e w' => e = .returned (.int .i64 (k0 + n)) ∧ w' = w := by
  go_enter Tryz.func47, Tryz.ntmps47
  go_wp2
  go_loop [1, 5] (fun q i => ∃ k : Nat, k ≤ n ∧ i = .int .i64 k ∧ q = .int .i64 (k0 + k)) (fun _ i => n - (intOf i).toNat)
  case atStart => exact ⟨0, Nat.zero_le _, rfl, by simp⟩
  case round =>
    obtain ⟨k, hk, rfl, rfl⟩ := hrel
    by_cases hlt : k < n
    · obtain ⟨b, o, rfl, hc⟩ := h k hlt
      have z : (((k0 + (k : Int)) % 3 == 0) != ((k0 + (k : Int)) % 3 == 0)) = false := by simp
      clear h
      go_wp2
      go_round
      case rel => exact ⟨k + 1, by omega, by go_num, by go_num⟩
      case measure => simp [intOf]; omega
    · obtain rfl : k = n := by omega
      clear h
      go_wp2
      go_ret
      exact ⟨rfl, rfl⟩

set_option maxHeartbeats 1000000 in
theorem heldBoolSS_any (ao : Option Addr) (n cap : Nat) (A : Nat → Option Addr) (C : Nat → Nat) (k0 : Int) (w : World) (hn : n ≤ 1048576) (hk0 : 0 ≤ k0) (hk1 : k0 ≤ 4194304) (h : SlAt w ao n (fun j => .slice (A j) 4 (C j))) (hr : ∀ i, i < n → SlAt w (A i) 4 (fun a => .bool ((k0 + 4 * i + a) % 3 == 0))) :
    Calls Tryz.prog 48 #[.slice ao n cap, .int .i64 k0] w fun e w' => e = .returned (.int .i64 (k0 + 4 * n)) ∧ w' = w := by
  go_enter Tryz.func48, Tryz.ntmps48
  go_wp2
  go_loop [1, 5] (fun q i => ∃ k : Nat, k ≤ n ∧ i = .int .i64 k ∧ q = .int .i64 (k0 + 4 * k)) (fun _ i => n - (intOf i).toNat)
  case atStart => exact ⟨0, Nat.zero_le _, rfl, by simp⟩
  case round =>
    obtain ⟨k, hk, rfl, rfl⟩ := hrel
    by_cases hlt : k < n
    · obtain ⟨b, o, rfl, hc⟩ := h k hlt
      replace hc : w.cell? ⟨b, o + k, none⟩ = some (.slice (A k) 4 (C k)) := hc
      have hh := heldBoolS_any (A k) 4 (C k) (k0 + 4 * k) w (by omega) (by omega) (by omega) (hr k hlt)
      clear h hr
      go_wp2_with fail
      refine hh.mono ?_
      rintro e w' ⟨rfl, hw'⟩
      have hw' := hw'.symm
      subst hw'
      clear hh
      have z : decide (k0 + 4 * (k : Int) + ((4 : Nat) : Int) < 0) = false := by simp; omega
      go_wp2
      go_round
      case rel => exact ⟨k + 1, by omega, by go_num, by go_num⟩
      case measure => simp [intOf]; omega
    · obtain rfl : k = n := by omega
      clear h hr
      go_wp2
      go_ret
      exact ⟨rfl, rfl⟩

theorem SlAt.bt {S : Nat → Prop} {w w' : World} {ao : Option Addr} {n : Nat} {f : Nat → Value} (h : SlAt w ao n f) (hb : Bt S w w') (hS : ∀ b o, ao = some ⟨b, o, none⟩ → 0 < n → ¬ S b) : SlAt w' ao n f := fun k hk => by
  obtain ⟨b, o, e, hc⟩ := h k hk
  have hlt : b < w.heap.size := by
    rcases Nat.lt_or_ge b w.heap.size with u | u
    · exact u
    · simp [World.cell?, Array.getElem?_eq_none u] at hc
  exact ⟨b, o, e, by rw [World.cell?_of_block (hb.block b hlt (hS b o e (by omega)))]; exact hc⟩

set_option maxHeartbeats 1000000 in
theorem markBoolSS_gen (n cap g4 : Nat) (s4 : Option Addr) (bI cI : Nat → Nat) (g : Nat → Nat → Bool) (k0 : Int) (w : World) (hn : n ≤ 1048576) (hk0 : 0 ≤ k0) (hk1 : k0 ≤ 4194304)
    (h : InB w g4 23 s4 n (fun j => .slice (some ⟨bI j, 0, none⟩) 4 (cI j))) (hr : ∀ i, i < n → InB w (bI i) 4 (some ⟨bI i, 0, none⟩) 4 (fun a => .bool (g i a))) (hd : Dj n bI) :
    Calls Tryz.prog 45 #[.slice s4 n cap, .int .i64 k0] w fun e w' => e = .returned (.int .i64 (k0 + 4 * n)) ∧ Bt (fun k => ∃ i, i < n ∧ k = bI i) w w' ∧ ∀ i, i < n → SlAt w' (some ⟨bI i, 0, none⟩) 4 (fun a => .bool ((k0 + 4 * i + a) % 3 == 0)) := by
  have HH : Hid (InB w g4 23 s4 n (fun j => .slice (some ⟨bI j, 0, none⟩) 4 (cI j))) := h
  have HR : Hid (∀ i, i < n → InB w (bI i) 4 (some ⟨bI i, 0, none⟩) 4 (fun a => .bool (g i a))) := hr
  have HD : Hid (Dj n bI) := hd
  clear h hr hd
  go_enter Tryz.func45, Tryz.ntmps45
  go_wp2
  go_loopw [1, 5] (fun q i wr => ∃ k : Nat, k ≤ n ∧ i = .int .i64 k ∧ q = .int .i64 (k0 + 4 * k) ∧ Bt (fun x => ∃ i, i < k ∧ x = bI i) w wr ∧ ∀ i, i < k → SlAt wr (some ⟨bI i, 0, none⟩) 4 (fun a => .bool ((k0 + 4 * i + a) % 3 == 0))) (fun _ i _ => n - (intOf i).toNat)
  case atStart => exact ⟨0, Nat.zero_le _, rfl, by simp, Bt.refl _ _, fun i hi => absurd hi (Nat.not_lt_zero _)⟩
  case round =>
    obtain ⟨k, hk, rfl, rfl, hbt, hmk⟩ := hrel
    by_cases hlt : k < n
    · have h4 := (HH.out.bt hbt (fun _ ⟨i, hi, e⟩ => by
        have := HH.out.ne (HR.out i (by omega)) (by omega) (by omega) (by decide)
        exact this e)).sl
      have hin := (HR.out k hlt).bt hbt (fun _ ⟨i, hi, e⟩ => HD.out k i hlt hi e)
      obtain ⟨b, o, rfl, hc⟩ := h4 k hlt
      replace hc : wr.cell? ⟨b, o + k, none⟩ = some (.slice (some ⟨bI k, 0, none⟩) 4 (cI k)) := hc
      have hmb := markBoolS_any (some ⟨bI k, 0, none⟩) 4 (cI k) (bI k) (bI k + 1) (g k) (k0 + 4 * k) wr (by omega) (by omega) (by omega) hin.own
      have HBT : Hid (Bt (fun x => ∃ i, i < k ∧ x = bI i) w wr) := hbt
      have HMK : Hid (∀ i, i < k → SlAt wr (some ⟨bI i, 0, none⟩) 4 (fun a => .bool ((k0 + 4 * i + a) % 3 == 0))) := hmk
      clear h4 hin hbt hmk
      go_wp2_with fail
      refine hmb.mono ?_
      rintro e w1 ⟨rfl, how, ho1, hs1⟩
      have hb1 := Bt.ofOnly ho1 hs1
      have HF : Hid (Bt (fun x => ∃ i, i < k + 1 ∧ x = bI i) w w1) := (HBT.out.wide (fun x ⟨i, hi, e⟩ => ⟨i, by omega, e⟩)).trans (hb1.wide (fun x hx => ⟨k, by omega, by omega⟩))
      have HM2 : Hid (∀ i, i < k + 1 → SlAt w1 (some ⟨bI i, 0, none⟩) 4 (fun a => .bool ((k0 + 4 * i + a) % 3 == 0))) := fun i hi => by
        by_cases e : i = k
        · subst e; exact how.sl
        · refine (HMK.out i (by omega)).bt hb1 (fun b' o' e' _ hS => ?_)
          have : b' = bI i := by injection e' with e'; injection e' with e' _; exact e'.symm
          exact HD.out k i hlt (by omega) (by omega)
      clear hmb how ho1 hs1 hb1 hc
      go_wp2
      go_roundw
      case rel => exact ⟨k + 1, by omega, by go_num, by go_num, HF.out, HM2.out⟩
      case measure => simp [intOf]; omega
    · obtain rfl : k = n := by omega
      have HF : Hid (Bt (fun x => ∃ i, i < k ∧ x = bI i) w wr ∧ ∀ i, i < k → SlAt wr (some ⟨bI i, 0, none⟩) 4 (fun a => .bool ((k0 + 4 * i + a) % 3 == 0))) := ⟨hbt, hmk⟩
      clear hbt hmk
      go_wp2
      go_ret
      exact ⟨rfl, HF.out⟩

/-- the four lists, each in its block -/
structure In4 (w : World) (lo n g1 g2 g3 g4 : Nat) (s1 s2 s3 s4 : Option Addr) (bI cI : Nat → Nat) (f1 f2 : Nat → Int) (f3 : Nat → Bool) (f4 : Nat → Nat → Bool) : Prop where
  i1 : InB w g1 3 s1 n (fun k => .int .i64 (f1 k))
  i2 : InB w g2 3 s2 n (fun k => .int .i64 (f2 k))
  i3 : InB w g3 4 s3 n (fun k => .bool (f3 k))
  i4 : InB w g4 23 s4 n (fun j => .slice (some ⟨bI j, 0, none⟩) 4 (cI j))
  i5 : ∀ i, i < n → InB w (bI i) 4 (some ⟨bI i, 0, none⟩) 4 (fun a => .bool (f4 i a))
  d12 : 0 < n → g1 ≠ g2
  d35 : ∀ i, i < n → g3 ≠ bI i
  dj : Dj n bI
  l1 : lo ≤ g1
  l2 : lo ≤ g2
  l3 : lo ≤ g3
  l5 : ∀ i, i < n → lo ≤ bI i
theorem In4.keep {w w' : World} {lo n g1 g2 g3 g4 : Nat} {s1 s2 s3 s4 : Option Addr} {bI cI : Nat → Nat} {f1 f2 : Nat → Int} {f3 : Nat → Bool} {f4 : Nat → Nat → Bool} (h : In4 w lo n g1 g2 g3 g4 s1 s2 s3 s4 bI cI f1 f2 f3 f4) (hb : Below w.heap.size w w') : In4 w' lo n g1 g2 g3 g4 s1 s2 s3 s4 bI cI f1 f2 f3 f4 :=
  ⟨h.i1.keep hb, h.i2.keep hb, h.i3.keep hb, h.i4.keep hb, fun i hi => (h.i5 i hi).keep hb, h.d12, h.d35, h.dj, h.l1, h.l2, h.l3, h.l5⟩
theorem Ow.in4 {lo : Nat} {gs : List Sg} {bI cI : Nat → Nat} {s1 s2 s3 s4 : Option Addr} {k1 k2 k3 k4 : Nat} {w : World} (h : Ow lo gs bI cI (.slice s1 gs.length k1) (.slice s2 gs.length k2) (.slice s3 gs.length k3) (.slice s4 gs.length k4) w) (hl : lo ≤ w.heap.size) :
    ∃ g1 g2 g3 g4, In4 w lo gs.length g1 g2 g3 g4 s1 s2 s3 s4 bI cI (rowsOf gs).nx (rowsOf gs).fr (rowsOf gs).op (rowsOf gs).wk := by
  obtain ⟨g1, a1, b1, c1⟩ := InB.of h.o1 hl (f := fun k => .int .i64 ((rowsOf gs).nx k)) (fun j hj => by simp [rowsOf, nxV, hj])
  obtain ⟨g2, a2, b2, c2⟩ := InB.of h.o2 hl (f := fun k => .int .i64 ((rowsOf gs).fr k)) (fun j hj => by simp [rowsOf, frV, hj])
  obtain ⟨g3, a3, b3, c3⟩ := InB.of h.o3 hl (f := fun k => .bool ((rowsOf gs).op k)) (fun j hj => by simp [rowsOf, opV, hj])
  obtain ⟨g4, a4, b4, c4⟩ := InB.of h.o4 hl (f := fun j => .slice (some ⟨bI j, 0, none⟩) 4 (cI j)) (fun j hj => by simp [wkV, hj])
  have h5 : ∀ i, i < gs.length → lo ≤ bI i ∧ InB w (bI i) 4 (some ⟨bI i, 0, none⟩) 4 (fun a => .bool ((rowsOf gs).wk i a)) := fun i hi => by
    obtain ⟨g5, a5, b5, c5⟩ := InB.of (h.inn i hi).1 hl (f := fun a => .bool ((rowsOf gs).wk i a)) (fun j hj => by simp [rowsOf, lampV, hj])
    have e5 : bI i = g5 := by have := c5 (by omega); injection this
    rw [← e5] at a5 b5
    exact ⟨a5, b5⟩
  refine ⟨g1, g2, g3, g4, b1, b2, b3, b4, fun i hi => (h5 i hi).2, fun hn e => ?_, fun i hi e => ?_, h.dj, a1, a2, a3, fun i hi => (h5 i hi).1⟩
  · exact h.ap g1 (c1 hn) (by rw [e]; exact c2 hn)
  · exact (h.inn i hi).2 (by rw [← e]; exact c3 (by omega))

theorem markIntS_in (s : Option Addr) (n cap g : Nat) (f : Nat → Int) (k0 : Int) (w : World) (hn : n ≤ 1048576) (hk0 : 0 ≤ k0) (hk1 : k0 ≤ 4611686018427387904) (h : InB w g 3 s n (fun k => .int .i64 (f k))) :
    Calls Tryz.prog 43 #[.slice s n cap, .int .i64 k0] w fun e w' => e = .returned (.int .i64 (k0 + n)) ∧ SlAt w' s n (fun j => .int .i64 (k0 + j)) ∧ Bt (fun x => 0 < n ∧ x = g) w w' := by
  by_cases hn0 : 0 < n
  · refine (markIntS_any s n cap g (g + 1) f k0 w hn hk0 hk1 h.own).mono ?_
    rintro e w' ⟨rfl, how, ho, hs⟩
    exact ⟨rfl, how.sl, (Bt.ofOnly ho hs).wide (fun x hx => ⟨hn0, by omega⟩)⟩
  · refine (markIntS_any s n cap 0 0 f k0 w hn hk0 hk1 (fun k hk => absurd hk (by omega))).mono ?_
    rintro e w' ⟨rfl, how, ho, hs⟩
    exact ⟨rfl, how.sl, (Bt.ofOnly ho hs).wide (fun x hx => by omega)⟩
theorem markBoolS_in (s : Option Addr) (n cap g : Nat) (f : Nat → Bool) (k0 : Int) (w : World) (hn : n ≤ 1048576) (hk0 : 0 ≤ k0) (hk1 : k0 ≤ 4611686018427387904) (h : InB w g 4 s n (fun k => .bool (f k))) :
    Calls Tryz.prog 44 #[.slice s n cap, .int .i64 k0] w fun e w' => e = .returned (.int .i64 (k0 + n)) ∧ SlAt w' s n (fun j => .bool ((k0 + j) % 3 == 0)) ∧ Bt (fun x => 0 < n ∧ x = g) w w' := by
  by_cases hn0 : 0 < n
  · refine (markBoolS_any s n cap g (g + 1) f k0 w hn hk0 hk1 h.own).mono ?_
    rintro e w' ⟨rfl, how, ho, hs⟩
    exact ⟨rfl, how.sl, (Bt.ofOnly ho hs).wide (fun x hx => ⟨hn0, by omega⟩)⟩
  · refine (markBoolS_any s n cap 0 0 f k0 w hn hk0 hk1 (fun k hk => absurd hk (by omega))).mono ?_
    rintro e w' ⟨rfl, how, ho, hs⟩
    exact ⟨rfl, how.sl, (Bt.ofOnly ho hs).wide (fun x hx => by omega)⟩
theorem InB.lt {w : World} {g t n : Nat} {s : Option Addr} {f : Nat → Value} (h : InB w g t s n f) (hn : 0 < n) : g < w.heap.size := by
  obtain ⟨_, cur, hc, _⟩ := h hn
  exact (Array.getElem?_eq_some_iff.1 hc).1
theorem Bt.blk {S : Nat → Prop} {w w' : World} {b t : Nat} {c : Array Value} (h : Bt S w w') (hb : Blk w b c t) (hS : ¬ S b) : Blk w' b c t := (h.block b hb.lt hS).trans hb
theorem InB.blk_ne {w : World} {g t n b t' : Nat} {s : Option Addr} {f : Nat → Value} {c : Array Value} (h : InB w g t s n f) (hn : 0 < n) (hb : Blk w b c t') (ht : t ≠ t') : b ≠ g := fun e => by
  obtain ⟨_, cur, hc, _⟩ := h hn
  have hb' : w.heap[b]? = some (.cells c t' (0, 0)) := hb
  rw [e, hc] at hb'
  injection hb' with hb'
  injection hb' with _ hb'
  exact ht hb'
theorem InB.at {w : World} {g t n : Nat} {s : Option Addr} {f : Nat → Value} (h : InB w g t s n f) {b o : Nat} (e : s = some ⟨b, o, none⟩) (hn : 0 < n) : b = g := by
  obtain ⟨e', _⟩ := h hn
  rw [e'] at e
  injection e with e
  injection e with e _
  exact e.symm

set_option maxHeartbeats 4000000 in
theorem markRow_gen (lo n g1 g2 g3 g4 : Nat) (s1 s2 s3 s4 : Option Addr) (k1 k2 k3 k4 : Nat) (bI cI : Nat → Nat) (f1 f2 : Nat → Int) (f3 : Nat → Bool) (f4 : Nat → Nat → Bool) (w : World) (hn : n ≤ 10000) (hl : lo ≤ w.heap.size)
    (h : In4 w lo n g1 g2 g3 g4 s1 s2 s3 s4 bI cI f1 f2 f3 f4) :
    Calls Tryz.prog 18 #[.agg #[.slice s1 n k1, .slice s2 n k2, .slice s3 n k3, .slice s4 n k4], .int .i64 1] w fun e w' =>
      e = .returned (.int .i64 (1 + n + n + n + 4 * n)) ∧ RowAt w' s1 s2 s3 s4 (fun j => some ⟨bI j, 0, none⟩) cI (marked 1 n) ∧ Below lo w w' ∧ ∀ b c t, Blk w b c t → t ≠ 3 → t ≠ 4 → Blk w' b c t := by
  have hal : Below w.heap.size w (w.alloc (.cells #[.slice s1 n k1, .slice s2 n k2, .slice s3 n k3, .slice s4 n k4] 26)) := (Below.refl _ _).alloc (Nat.le_refl _) _
  have hbk := Blk.new w #[.slice s1 n k1, .slice s2 n k2, .slice s3 n k3, .slice s4 n k4] 26
  have h0 := h.keep hal
  have HQ0 : Hid (∀ b c t, Blk w b c t → Blk (w.alloc (.cells #[.slice s1 n k1, .slice s2 n k2, .slice s3 n k3, .slice s4 n k4] 26)) b c t) := fun b c t hb => hb.keep hal
  have HB0 : Hid (Below lo w (w.alloc (.cells #[.slice s1 n k1, .slice s2 n k2, .slice s3 n k3, .slice s4 n k4] 26))) := hal.mono hl
  have hl0 : lo ≤ (w.alloc (.cells #[.slice s1 n k1, .slice s2 n k2, .slice s3 n k3, .slice s4 n k4] 26)).heap.size := by simp; omega
  clear h hal
  go_enter Tryz.func18, Tryz.ntmps18
  go_wp2_with fail
  generalize (w.alloc (.cells #[.slice s1 n k1, .slice s2 n k2, .slice s3 n k3, .slice s4 n k4] 26)) = W at *
  have HK : Hid (Blk W w.heap.size #[.slice s1 n k1, .slice s2 n k2, .slice s3 n k3, .slice s4 n k4] 26) := hbk
  have H0 : Hid (In4 W lo n g1 g2 g3 g4 s1 s2 s3 s4 bI cI f1 f2 f3 f4) := h0
  have HT : Hid (∀ x, 0 < n → (x = g1 ∨ x = g2 ∨ x = g3 ∨ ∃ i, i < n ∧ x = bI i) → x ≠ w.heap.size ∧ lo ≤ x) := fun x hn0 hx => by
    rcases hx with rfl | rfl | rfl | ⟨i, hi, rfl⟩
    · exact ⟨fun e => H0.out.i1.blk_ne hn0 HK.out (by decide) e.symm, H0.out.l1⟩
    · exact ⟨fun e => H0.out.i2.blk_ne hn0 HK.out (by decide) e.symm, H0.out.l2⟩
    · exact ⟨fun e => H0.out.i3.blk_ne hn0 HK.out (by decide) e.symm, H0.out.l3⟩
    · exact ⟨fun e => (H0.out.i5 i hi).blk_ne (by omega) HK.out (by decide) e.symm, H0.out.l5 i hi⟩
  have n13 : 0 < n → g1 ≠ g3 := fun hn0 => H0.out.i1.ne H0.out.i3 hn0 hn0 (by decide)
  have n23 : 0 < n → g2 ≠ g3 := fun hn0 => H0.out.i2.ne H0.out.i3 hn0 hn0 (by decide)
  have n14 : 0 < n → g1 ≠ g4 := fun hn0 => H0.out.i1.ne H0.out.i4 hn0 hn0 (by decide)
  have n24 : 0 < n → g2 ≠ g4 := fun hn0 => H0.out.i2.ne H0.out.i4 hn0 hn0 (by decide)
  have n34 : 0 < n → g3 ≠ g4 := fun hn0 => H0.out.i3.ne H0.out.i4 hn0 hn0 (by decide)
  have n15 : ∀ i, i < n → g1 ≠ bI i := fun i hi => H0.out.i1.ne (H0.out.i5 i hi) (by omega) (by omega) (by decide)
  have n25 : ∀ i, i < n → g2 ≠ bI i := fun i hi => H0.out.i2.ne (H0.out.i5 i hi) (by omega) (by omega) (by decide)
  have n45 : ∀ i, i < n → g4 ≠ bI i := fun i hi => H0.out.i4.ne (H0.out.i5 i hi) (by omega) (by omega) (by decide)
  have HNE : Hid ((0 < n → g1 ≠ g3 ∧ g2 ≠ g3 ∧ g1 ≠ g4 ∧ g2 ≠ g4 ∧ g3 ≠ g4 ∧ g1 ≠ g2) ∧ ∀ i, i < n → g1 ≠ bI i ∧ g2 ≠ bI i ∧ g4 ≠ bI i ∧ g3 ≠ bI i) :=
    ⟨fun a => ⟨n13 a, n23 a, n14 a, n24 a, n34 a, H0.out.d12 a⟩, fun i hi => ⟨n15 i hi, n25 i hi, n45 i hi, H0.out.d35 i hi⟩⟩
  have HKT : Hid (∀ b c t, Blk W b c t → t ≠ 3 → t ≠ 4 → (0 < n → b ≠ g1 ∧ b ≠ g2 ∧ b ≠ g3) ∧ ∀ i, i < n → b ≠ bI i) := fun b c t hb t1 t2 =>
    ⟨fun hn0 => ⟨H0.out.i1.blk_ne hn0 hb (fun e => t1 e.symm), H0.out.i2.blk_ne hn0 hb (fun e => t1 e.symm), H0.out.i3.blk_ne hn0 hb (fun e => t2 e.symm)⟩, fun i hi => (H0.out.i5 i hi).blk_ne (by omega) hb (fun e => t2 e.symm)⟩
  clear n13 n23 n14 n24 n34 n15 n25 n45 h0 hbk
  refine (markIntS_in s1 n k1 g1 f1 1 W (by omega) (by omega) (by omega) H0.out.i1).mono ?_
  rintro e w1 ⟨rfl, m1, b1⟩
  have kb1 := b1.blk HK.out (fun hx => (HT.out _ hx.1 (Or.inl hx.2)).1 rfl)
  have x1 := kb1.cell 1
  simp at x1
  have i2 := H0.out.i2.bt b1 (fun hn0 hx => (HNE.out.1 hn0).2.2.2.2.2 hx.2.symm)
  have i3 := H0.out.i3.bt b1 (fun hn0 hx => (HNE.out.1 hn0).1 hx.2.symm)
  have i4 := H0.out.i4.bt b1 (fun hn0 hx => (HNE.out.1 hn0).2.2.1 hx.2.symm)
  have i5 : ∀ i, i < n → InB w1 (bI i) 4 (some ⟨bI i, 0, none⟩) 4 (fun a => .bool (f4 i a)) := fun i hi => (H0.out.i5 i hi).bt b1 (fun _ hx => (HNE.out.2 i hi).1 hx.2.symm)
  have HI : Hid _ := And.intro i3 (And.intro i4 i5)
  have HK1 : Hid (Blk w1 w.heap.size #[.slice s1 n k1, .slice s2 n k2, .slice s3 n k3, .slice s4 n k4] 26) := kb1
  have HM1 : Hid (SlAt w1 s1 n (fun j => .int .i64 (1 + j))) := m1
  have HQ1 : Hid (∀ b c t, Blk W b c t → t ≠ 3 → t ≠ 4 → Blk w1 b c t) := fun b c t hb t1 t2 => b1.blk hb (fun hx => ((HKT.out b c t hb t1 t2).1 hx.1).1 hx.2)
  have HB1 : Hid (Below lo w w1) := HB0.out.trans (b1.below (fun x hx => (HT.out x hx.1 (Or.inl hx.2)).2) hl0)
  have hl1 : lo ≤ w1.heap.size := by rw [b1.size]; exact hl0
  have h2c := markIntS_in s2 n k2 g2 f2 (1 + n) w1 (by omega) (by omega) (by omega) i2
  clear m1 b1 kb1 i2 i3 i4 i5 hl0 HK
  go_wp2_with fail
  refine h2c.mono ?_
  rintro e w2 ⟨rfl, m2, b2⟩
  have kb2 := b2.blk HK1.out (fun hx => (HT.out _ hx.1 (Or.inr (Or.inl hx.2))).1 rfl)
  have x2 := kb2.cell 2
  simp at x2
  have i3 := HI.out.1.bt b2 (fun hn0 hx => (HNE.out.1 hn0).2.1 hx.2.symm)
  have i4 := HI.out.2.1.bt b2 (fun hn0 hx => (HNE.out.1 hn0).2.2.2.1 hx.2.symm)
  have i5 : ∀ i, i < n → InB w2 (bI i) 4 (some ⟨bI i, 0, none⟩) 4 (fun a => .bool (f4 i a)) := fun i hi => (HI.out.2.2 i hi).bt b2 (fun _ hx => (HNE.out.2 i hi).2.1 hx.2.symm)
  have HI2 : Hid _ := And.intro i4 i5
  have HK2 : Hid (Blk w2 w.heap.size #[.slice s1 n k1, .slice s2 n k2, .slice s3 n k3, .slice s4 n k4] 26) := kb2
  have HM2 : Hid (SlAt w2 s1 n (fun j => .int .i64 (1 + j)) ∧ SlAt w2 s2 n (fun j => .int .i64 (1 + n + j))) := ⟨HM1.out.bt b2 (fun b o e hn0 hx => (HNE.out.1 hn0).2.2.2.2.2 ((H0.out.i1.at e hn0).symm.trans hx.2)), m2⟩
  have HQ2 : Hid (∀ b c t, Blk W b c t → t ≠ 3 → t ≠ 4 → Blk w2 b c t) := fun b c t hb t1 t2 => b2.blk (HQ1.out b c t hb t1 t2) (fun hx => ((HKT.out b c t hb t1 t2).1 hx.1).2.1 hx.2)
  have HB2 : Hid (Below lo w w2) := HB1.out.trans (b2.below (fun x hx => (HT.out x hx.1 (Or.inr (Or.inl hx.2))).2) hl1)
  have hl2 : lo ≤ w2.heap.size := by rw [b2.size]; exact hl1
  have h3c := markBoolS_in s3 n k3 g3 f3 (1 + n + n) w2 (by omega) (by omega) (by omega) i3
  clear m2 b2 kb2 i3 i4 i5 hl1 HI HK1 HM1 HB1 h2c x1
  go_wp2_with fail
  refine h3c.mono ?_
  rintro e w3 ⟨rfl, m3, b3⟩
  have kb3 := b3.blk HK2.out (fun hx => (HT.out _ hx.1 (Or.inr (Or.inr (Or.inl hx.2)))).1 rfl)
  have x3 := kb3.cell 3
  simp at x3
  have i4 := HI2.out.1.bt b3 (fun hn0 hx => (HNE.out.1 hn0).2.2.2.2.1 hx.2.symm)
  have i5 : ∀ i, i < n → InB w3 (bI i) 4 (some ⟨bI i, 0, none⟩) 4 (fun a => .bool (f4 i a)) := fun i hi => (HI2.out.2 i hi).bt b3 (fun _ hx => (HNE.out.2 i hi).2.2.2 hx.2.symm)
  have HM3 : Hid (SlAt w3 s1 n (fun j => .int .i64 (1 + j)) ∧ SlAt w3 s2 n (fun j => .int .i64 (1 + n + j)) ∧ SlAt w3 s3 n (fun j => .bool (((1 : Int) + n + n + j) % 3 == 0))) :=
    ⟨HM2.out.1.bt b3 (fun b o e hn0 hx => (HNE.out.1 hn0).1 ((H0.out.i1.at e hn0).symm.trans hx.2)), HM2.out.2.bt b3 (fun b o e hn0 hx => (HNE.out.1 hn0).2.1 ((H0.out.i2.at e hn0).symm.trans hx.2)), m3⟩
  have HQ3 : Hid (∀ b c t, Blk W b c t → t ≠ 3 → t ≠ 4 → Blk w3 b c t) := fun b c t hb t1 t2 => b3.blk (HQ2.out b c t hb t1 t2) (fun hx => ((HKT.out b c t hb t1 t2).1 hx.1).2.2 hx.2)
  have HB3 : Hid (Below lo w w3) := HB2.out.trans (b3.below (fun x hx => (HT.out x hx.1 (Or.inr (Or.inr (Or.inl hx.2)))).2) hl2)
  have hl3 : lo ≤ w3.heap.size := by rw [b3.size]; exact hl2
  have HI4 : Hid (SlAt w3 s4 n (fun j => .slice (some ⟨bI j, 0, none⟩) 4 (cI j))) := i4.sl
  have h4c := markBoolSS_gen n k4 g4 s4 bI cI f4 (1 + n + n + n) w3 (by omega) (by omega) (by omega) i4 i5 H0.out.dj
  clear m3 b3 kb3 i4 i5 hl2 HI2 HK2 HM2 HB2 h3c x2
  go_wp2_with fail
  refine h4c.mono ?_
  rintro e w4 ⟨rfl, b4, m4⟩
  have HR : Hid (RowAt w4 s1 s2 s3 s4 (fun j => some ⟨bI j, 0, none⟩) cI (marked 1 n)) := by
    refine ⟨?_, ?_, ?_, ?_, fun i hi => m4 i hi⟩
    · exact HM3.out.1.bt b4 (fun b o e hn0 ⟨i, hi, hx⟩ => (HNE.out.2 i hi).1 ((H0.out.i1.at e hn0).symm.trans hx))
    · exact HM3.out.2.1.bt b4 (fun b o e hn0 ⟨i, hi, hx⟩ => (HNE.out.2 i hi).2.1 ((H0.out.i2.at e hn0).symm.trans hx))
    · exact HM3.out.2.2.bt b4 (fun b o e hn0 ⟨i, hi, hx⟩ => (HNE.out.2 i hi).2.2.2 ((H0.out.i3.at e hn0).symm.trans hx))
    · exact HI4.out.bt b4 (fun b o e hn0 ⟨i, hi, hx⟩ => (HNE.out.2 i hi).2.2.1 ((H0.out.i4.at e hn0).symm.trans hx))
  have HQ4 : Hid (∀ b c t, Blk w b c t → t ≠ 3 → t ≠ 4 → Blk w4 b c t) := fun b c t hb t1 t2 => b4.blk (HQ3.out b c t (HQ0.out b c t hb) t1 t2) (fun ⟨i, hi, hx⟩ => (HKT.out b c t (HQ0.out b c t hb) t1 t2).2 i hi hx)
  have HB4 : Hid (Below lo w w4) := HB3.out.trans (b4.below (fun x ⟨i, hi, hx⟩ => (HT.out x (by omega) (Or.inr (Or.inr (Or.inr ⟨i, hi, hx⟩)))).2) hl3)
  clear h4c b4 m4 x3
  go_wp2
  go_ret
  exact ⟨rfl, HR.out, HB4.out, HQ4.out⟩

set_option maxHeartbeats 2000000 in
theorem heldRow_any (s1 s2 s3 s4 : Option Addr) (k1 k2 k3 k4 n : Nat) (A : Nat → Option Addr) (C : Nat → Nat) (w : World) (hn : n ≤ 10000) (h : RowAt w s1 s2 s3 s4 A C (marked 1 n)) :
    Calls Tryz.prog 19 #[.agg #[.slice s1 n k1, .slice s2 n k2, .slice s3 n k3, .slice s4 n k4], .int .i64 1] w fun e w' =>
      e = .returned (.int .i64 (1 + n + n + n + 4 * n)) ∧ Below w.heap.size w w' := by
  have hal : Below w.heap.size w (w.alloc (.cells #[.slice s1 n k1, .slice s2 n k2, .slice s3 n k3, .slice s4 n k4] 26)) := (Below.refl _ _).alloc (Nat.le_refl _) _
  have hbk := Blk.new w #[.slice s1 n k1, .slice s2 n k2, .slice s3 n k3, .slice s4 n k4] 26
  have HR : Hid (RowAt (w.alloc (.cells #[.slice s1 n k1, .slice s2 n k2, .slice s3 n k3, .slice s4 n k4] 26)) s1 s2 s3 s4 A C (marked 1 n)) := h.keep hal
  have HB : Hid (Below w.heap.size w (w.alloc (.cells #[.slice s1 n k1, .slice s2 n k2, .slice s3 n k3, .slice s4 n k4] 26))) := hal
  clear h hal
  go_enter Tryz.func19, Tryz.ntmps19
  go_wp2_with fail
  generalize (w.alloc (.cells #[.slice s1 n k1, .slice s2 n k2, .slice s3 n k3, .slice s4 n k4] 26)) = W at *
  have x1 := hbk.cell 1
  have x2 := hbk.cell 2
  have x3 := hbk.cell 3
  simp at x1 x2 x3
  refine (heldIntS_any s1 n k1 1 W (by omega) (by omega) (by omega) HR.out.nx).mono ?_
  rintro e w' ⟨rfl, hw'⟩
  have hw' := hw'.symm
  subst hw'
  have z1 : decide ((1 : Int) + n < 0) = false := by simp; omega
  go_wp2_with fail
  refine (heldIntS_any s2 n k2 (1 + n) W (by omega) (by omega) (by omega) HR.out.fr).mono ?_
  rintro e w'' ⟨rfl, hw'⟩
  have hw' := hw'.symm
  subst hw'
  have z2 : decide ((1 : Int) + n + n < 0) = false := by simp; omega
  go_wp2_with fail
  refine (heldBoolS_any s3 n k3 (1 + n + n) W (by omega) (by omega) (by omega) HR.out.op).mono ?_
  rintro e w3 ⟨rfl, hw'⟩
  have hw' := hw'.symm
  subst hw'
  have z3 : decide ((1 : Int) + n + n + n < 0) = false := by simp; omega
  go_wp2_with fail
  refine (heldBoolSS_any s4 n k4 A C (1 + n + n + n) W (by omega) (by omega) (by omega) HR.out.wk HR.out.lm).mono ?_
  rintro e w4 ⟨rfl, hw'⟩
  have hw' := hw'.symm
  subst hw'
  have z4 : decide ((1 : Int) + n + n + n + 4 * n < 0) = false := by simp; omega
  clear x1 x2 x3 hbk
  go_wp2
  go_ret
  exact ⟨rfl, HB.out⟩

end Go.Proofs.YtachkoledebanabGreatDoor
