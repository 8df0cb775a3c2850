/-
  A builder beside lists that lie behind it: its bytes lie from lo on, what lies below lo stays.
-/
import Derived.Test.YtachkoledebanaaGreatDoorBldEtc
namespace Go.Proofs.YtachkoledebanaaGreatDoor
open Go.RowKit

structure Bl2 (w : World) (b lo : Nat) (l : List UInt8) : Prop where
  ex : ∃ p v, (p = .pointer none ∨ p = .pointer (some ⟨b, 0, none⟩)) ∧ w.heap[b]? = some (.cells #[p, v] 44 (0, 0)) ∧ w.ownsRowF lo 5 1 v (Lib.byteCells l).length (Lib.byteCells l)
  bl : b < lo
  le : lo ≤ w.heap.size
/-- below lo all but the builder stays -/
structure Kp (b lo : Nat) (w w' : World) : Prop where
  os : w'.os = w.os
  tape : w'.tape = w.tape
  output : w'.output = w.output
  size : w.heap.size ≤ w'.heap.size
  block : ∀ k, k < lo → k ≠ b → w'.heap[k]? = w.heap[k]?
theorem Kp.refl (b lo : Nat) (w : World) : Kp b lo w w := ⟨rfl, rfl, rfl, Nat.le_refl _, fun _ _ _ => rfl⟩
theorem Kp.trans {b lo : Nat} {w a c : World} (h : Kp b lo w a) (k : Kp b lo a c) : Kp b lo w c := ⟨k.os.trans h.os, k.tape.trans h.tape, k.output.trans h.output, Nat.le_trans h.size k.size, fun i h1 h2 => (k.block i h1 h2).trans (h.block i h1 h2)⟩
theorem Kp.ofBelow {b lo : Nat} {w w' : World} (h : Below w.heap.size w w') (hl : lo ≤ w.heap.size) : Kp b lo w w' := ⟨h.os, h.tape, h.output, h.size, fun k h1 _ => h.block k (by omega)⟩
theorem Kp.below {b lo B : Nat} {w w' : World} (h : Kp b lo w w') (hb : B ≤ b) (hl : b < lo) : Below B w w' := ⟨h.os, h.tape, h.output, h.size, fun k hk => h.block k (by omega) (by omega)⟩
theorem Kp.cell {b lo : Nat} {w w' : World} (h : Kp b lo w w') {p : Addr} {v : Value} (hp : p.block < lo) (hb : p.block ≠ b) (hc : w.cell? p = some v) : w'.cell? p = some v := by
  rw [World.cell?_of_block (h.block p.block hp hb)]
  exact hc
theorem ownsF_keep {w w' : World} {lo e s n : Nat} {v : Value} {xs : List Value} (h : w.ownsRowF lo e s v n xs) (hb : Below w.heap.size w w') : w'.ownsRowF lo e s v n xs := by
  obtain ⟨hl, hown⟩ := h
  refine ⟨hl, ?_⟩
  rcases hown with x | ⟨g, cap, cur, fz, hv, hg, hw, r⟩
  · exact Or.inl x
  · have : g < w.heap.size := (Array.getElem?_eq_some_iff.1 hw).1
    exact Or.inr ⟨g, cap, cur, fz, hv, hg, by rw [hb.block g this]; exact hw, r⟩
theorem ownsF_set {w : World} {lo e s n b q : Nat} {v x : Value} {xs : List Value} (h : w.ownsRowF lo e s v n xs) (hb : b < lo) : (w.setCell ⟨b, q, none⟩ x).ownsRowF lo e s v n xs := by
  obtain ⟨hl, hown⟩ := h
  refine ⟨hl, ?_⟩
  rcases hown with y | ⟨g, cap, cur, fz, hv, hg, hw, r⟩
  · exact Or.inl y
  · exact Or.inr ⟨g, cap, cur, fz, hv, hg, (Below.heap_setCell w ⟨b, q, none⟩ x g (by show g ≠ b; omega)).trans hw, r⟩
theorem Bl2.keep {w w' : World} {b lo : Nat} {l : List UInt8} (h : Bl2 w b lo l) (hb : Below w.heap.size w w') : Bl2 w' b lo l := by
  obtain ⟨⟨p, v, hp, hk, ho⟩, h1, h2⟩ := h
  exact ⟨⟨p, v, hp, (hb.block b (Array.getElem?_eq_some_iff.1 hk).1).trans hk, ownsF_keep ho hb⟩, h1, Nat.le_trans h2 hb.size⟩

set_option maxHeartbeats 2000000 in
set_option maxRecDepth 100000 in
theorem bl2_write (b lo : Nat) (l s : List UInt8) (w : World) (h : Bl2 w b lo l) (hl : l.length + s.length ≤ 1000000000) :
    Calls Tryz.prog 13 #[.pointer (some ⟨b, 0, none⟩), .string (bs s)] w fun e w' =>
      e = .returned (.tuple #[.int .i64 (bs s).size, .nilIface]) ∧ Bl2 w' b lo (l ++ s) ∧ Kp b lo w w' := by
  obtain ⟨i0, hi, hz0, hz1, hz2⟩ := info_parts (show (Tryz.prog.info? 5).map (fun i => (i.zero, i.size, i.bytes)) = some (some (.int .u8 0), 1, 1) by kernel_rfl)
  obtain ⟨⟨p, v, hp, hk, ho⟩, hbl, hle⟩ := h
  have hlt : b < w.heap.size := (Array.getElem?_eq_some_iff.1 hk).1
  have hcc : Calls Tryz.prog 35 #[.pointer (some ⟨b, 0, none⟩)] w fun e w' => e = .returned (.tuple #[]) ∧ w'.heap[b]? = some (.cells #[.pointer (some ⟨b, 0, none⟩), v] 44 (0, 0)) ∧ w'.ownsRowF lo 5 1 v (Lib.byteCells l).length (Lib.byteCells l) ∧ Kp b lo w w' := by
    rcases hp with rfl | rfl
    · have c0 : w.cell? ⟨b, 0, none⟩ = some (.pointer none) := by rw [Lib.cell_of_heap hk]; rfl
      refine (copyCheck_fresh b w c0 (by simp [World.shape?, hk]) (Lib.frozen_of_heap hk 0)).mono ?_
      rintro e w' ⟨rfl, rfl⟩
      refine ⟨rfl, ?_, ownsF_set ho hbl, rfl, rfl, rfl, by simp, fun k h1 h2 => Below.heap_setCell w ⟨b, 0, none⟩ _ k h2⟩
      have := Blk.set (show Blk w b #[.pointer none, v] 44 from hk) 0 (.pointer (some ⟨b, 0, none⟩))
      simp at this
      exact this
    · have c0 : w.cell? ⟨b, 0, none⟩ = some (.pointer (some ⟨b, 0, none⟩)) := by rw [Lib.cell_of_heap hk]; rfl
      refine (copyCheck_used b w c0).mono ?_
      rintro e w' ⟨rfl, rfl⟩
      exact ⟨rfl, hk, ho, Kp.refl _ _ _⟩
  clear hk ho hp
  go_enter Tryz.func13, Tryz.ntmps13
  go_wp2_with (go_at_call 35; refine hcc.mono ?_)
  rintro e w1 ⟨rfl, hbk, hown, hk1⟩
  clear hcc
  have c0 : w1.cell? ⟨b, 0, none⟩ = some (.pointer (some ⟨b, 0, none⟩)) := by rw [Lib.cell_of_heap hbk]; rfl
  have c1 : w1.cell? ⟨b, 1, none⟩ = some v := by rw [Lib.cell_of_heap hbk]; rfl
  have hbl2 := Lib.byteCells_length l
  have hsz := bs_size s
  go_wp2_with (at_builtin; refine Lib.wpList_append_own_stringF _ rfl _ _ 22 9 rfl lo 5 i0 Tryz.underlying22 Tryz.underlying9 hi hz0 hz1 hz2 _ _ _ rfl hown (bs s) rfl ?c3 ?c4 ?c5 ?_)
  case c3 => unfold maxLen; omega
  case c4 => omega
  case c5 => have := hk1.size; omega
  intro v' w2 hown' hgrow _
  have hlt1 : b < w1.heap.size := (Array.getElem?_eq_some_iff.1 hbk).1
  have hvne : ∀ k, v.ownBlock = some k → lo ≤ k := fun k hk => (hown.lt k hk).1
  have hb2 : w2.heap[b]? = some (.cells #[.pointer (some ⟨b, 0, none⟩), v] 44 (0, 0)) := by
    rw [hgrow.block b hlt1 (fun e => by have := hvne b e.symm; omega)]
    exact hbk
  have d0 : w2.cell? ⟨b, 0, none⟩ = some (.pointer (some ⟨b, 0, none⟩)) := by rw [Lib.cell_of_heap hb2]; rfl
  have d1 : w2.cell? ⟨b, 1, none⟩ = some v := by rw [Lib.cell_of_heap hb2]; rfl
  have f1 : w2.frozen? ⟨b, 1, none⟩ = false := Lib.frozen_of_heap hb2 1
  obtain ⟨ao, n', cap, rfl⟩ : ∃ ao n' cap, v' = .slice ao n' cap := by
    rcases hown'.2 with ⟨hv, _⟩ | ⟨g, cap, cur, fz, hv, _⟩
    · exact ⟨_, _, _, hv⟩
    · exact ⟨_, _, _, hv⟩
  have HBL : Hid (Bl2 (w2.setCell ⟨b, 1, none⟩ (.slice ao n' cap)) b lo (l ++ s)) := by
    refine ⟨⟨.pointer (some ⟨b, 0, none⟩), .slice ao n' cap, Or.inr rfl, ?_, ?_⟩, hbl, ?_⟩
    · have := Blk.set (show Blk w2 b #[.pointer (some ⟨b, 0, none⟩), v] 44 from hb2) 1 (.slice ao n' cap)
      simp at this
      exact this
    · have e1 : Lib.byteCells (l ++ s) = Lib.byteCells l ++ Lib.strCells (bs s) := by simp [Lib.byteCells, Lib.strCells, bs]
      rw [e1]
      refine ownsF_set ?_ hbl
      have e2 : (Lib.byteCells l ++ Lib.strCells (bs s)).length = (Lib.byteCells l).length + (bs s).size := by rw [List.length_append, Lib.strCells_length]
      rw [e2, hbl2, hsz]
      exact hown'
    · have := hk1.size; have := hgrow.size; simp; omega
  have HKP : Hid (Kp b lo w (w2.setCell ⟨b, 1, none⟩ (.slice ao n' cap))) := by
    refine hk1.trans ⟨hgrow.os, hgrow.tape, hgrow.output, by simpa using hgrow.size, fun k h1 h2 => ?_⟩
    refine (Below.heap_setCell w2 ⟨b, 1, none⟩ _ k h2).trans (hgrow.block k (by have := hk1.size; omega) (fun e => by have := hvne k e.symm; omega))
  clear hown' hgrow hbk hb2 hk1 hvne
  go_wp2
  go_ret2
  exact ⟨rfl, HBL.out, HKP.out⟩
theorem bl2_string (b lo : Nat) (l : List UInt8) (w : World) (h : Bl2 w b lo l) :
    Calls Tryz.prog 17 #[.pointer (some ⟨b, 0, none⟩)] w fun e w' => e = .returned (.string (bs l)) ∧ Below b w w' := by
  obtain ⟨⟨p, v, hp, hk, ho⟩, hbl, hle⟩ := h
  have ho' : w.ownsRowF b 5 1 v (Lib.byteCells l).length (Lib.byteCells l) := by
    obtain ⟨q1, q2⟩ := ho
    refine ⟨q1, ?_⟩
    rcases q2 with q2 | ⟨g, cap, cur, fz, e1, e2, e3⟩
    · exact Or.inl q2
    · exact Or.inr ⟨g, cap, cur, fz, e1, by omega, e3⟩
  have hne : v.ownBlock ≠ some b := fun e => by have := (ho.lt b e).1; omega
  have hB : Lib.IsBuilderF 44 5 b b (Lib.byteCells l) w := by
    rcases hp with rfl | rfl
    · exact Or.inl ⟨Nat.le_refl _, v, hk, ho', hne⟩
    · exact Or.inr ⟨Nat.le_refl _, v, hk, ho', hne⟩
  refine (Tryz.Builder_String_any_k b b l w hB (by omega)).mono ?_
  rintro e w' ⟨rfl, _, hb, _⟩
  exact ⟨rfl, hb⟩

end Go.Proofs.YtachkoledebanaaGreatDoor
