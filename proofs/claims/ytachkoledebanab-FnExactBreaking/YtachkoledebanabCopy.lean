/-
  A copy of a row, made by appends: where it lies; one flag of it turned.
-/
import Derived.Test.YtachkoledebanabChg
import Derived.Test.YtachkoledebanabOwnT
namespace Go.Proofs.Ytachkoledebanab
open Go.RowKit

/-- a copy of a row: its lists lie apart -/
def Cp (w : World) (B : Nat) (a1 a2 a3 a4 : Option Addr) (A : Nat → Option Addr) (C : Nat → Nat) (d : RD) : Prop :=
  ∃ (B2 B3 : Nat) (L : Nat → Nat), B ≤ B2 ∧ B2 ≤ B3 ∧ OwnT w B B2 a1 d.nN 3 (fun k => .int .i64 (d.nx k)) ∧ OwnT w B B2 a2 d.nF 3 (fun k => .int .i64 (d.fr k)) ∧
    OwnT w B2 B3 a3 d.nO 4 (fun k => .bool (d.op k)) ∧ OwnT w B3 w.heap.size a4 d.nW 23 (fun k => .slice (A k) (d.L k) (C k)) ∧
    (∀ i, i < d.nW → OwnT w (L i) (L (i + 1)) (A i) (d.L i) 4 (fun j => .bool (d.wk i j))) ∧ (∀ i j, i ≤ j → j ≤ d.nW → L i ≤ L j) ∧ B3 ≤ L 0

theorem Cp.close {w : World} {B : Nat} {a1 a2 a3 a4 : Option Addr} {A : Nat → Option Addr} {C : Nat → Nat} {d : RD} (h : Cp w B a1 a2 a3 a4 A C d) {s : Nat} (hs : s < d.nO) :
    ∃ b, a3 = some ⟨b, 0, none⟩ ∧ B ≤ b ∧ w.cell? ⟨b, s, none⟩ = some (.bool (d.op s)) ∧ w.frozen? ⟨b, s, none⟩ = false ∧ RowAt (w.setCell ⟨b, s, none⟩ (.bool false)) a1 a2 a3 a4 A C (closed d s) := by
  obtain ⟨B2, B3, L, h1, h2, o1, o2, o3, o4, o5, hm, h0⟩ := h
  obtain ⟨b, c, rfl, q1, q2, q3, q4⟩ := o3 s hs
  refine ⟨b, rfl, by omega, by simp [World.cell?, q3, q4], by simp [World.frozen?, q3], (o1.apart (fun b' c' _ _ h4 _ => by show b' ≠ b; omega) _).sl, (o2.apart (fun b' c' _ _ h4 _ => by show b' ≠ b; omega) _).sl, ?_, (o4.apart (fun b' c' _ h3 _ _ => by show b' ≠ b; omega) _).sl, fun i hi => ?_⟩
  · refine ((o3.store (j := s) (.bool false)).congr fun k _ => ?_).sl
    show _ = Value.bool (if k = s then false else d.op k)
    by_cases e : k = s <;> simp [e]
  · have hi' : i < d.nW := hi
    exact ((o5 i hi).apart (fun b' c' _ h3 _ _ => by show b' ≠ b; have := hm 0 i (Nat.zero_le _) (by omega); omega) _).sl

theorem Cp.brk {w : World} {B : Nat} {a1 a2 a3 a4 : Option Addr} {A : Nat → Option Addr} {C : Nat → Nat} {d : RD} (h : Cp w B a1 a2 a3 a4 A C d) {s l : Nat} (hs : s < d.nW) (hl : l < d.L s) :
    ∃ b4 b, a4 = some ⟨b4, 0, none⟩ ∧ w.cell? ⟨b4, s, none⟩ = some (.slice (A s) (d.L s) (C s)) ∧ A s = some ⟨b, 0, none⟩ ∧ B ≤ b ∧ w.cell? ⟨b, l, none⟩ = some (.bool (d.wk s l)) ∧ w.frozen? ⟨b, l, none⟩ = false ∧ RowAt (w.setCell ⟨b, l, none⟩ (.bool false)) a1 a2 a3 a4 A C (broken d s l) := by
  obtain ⟨B2, B3, L, h1, h2, o1, o2, o3, o4, o5, hm, h0⟩ := h
  obtain ⟨b4, c4, e4, _, _, r3, r4⟩ := o4 s hs
  have o5s := o5 s hs
  obtain ⟨b, c, eA, q1, q2, q3, q4⟩ := o5s l hl
  have hL0 := hm 0 s (Nat.zero_le _) (by omega)
  refine ⟨b4, b, e4, by simp [World.cell?, r3, r4], eA, by omega, by simp [World.cell?, q3, q4], by simp [World.frozen?, q3], (o1.apart (fun b' c' _ _ h4 _ => by show b' ≠ b; omega) _).sl, (o2.apart (fun b' c' _ _ h4 _ => by show b' ≠ b; omega) _).sl, (o3.apart (fun b' c' _ _ h4 _ => by show b' ≠ b; omega) _).sl, ?_, fun i hi => ?_⟩
  · refine (o4.apart (fun b' c' _ _ _ h5 => ?_) _).sl
    show b' ≠ b
    intro e
    subst e
    rw [h5] at q3
    cases q3
  · have hi' : i < d.nW := hi
    by_cases e : i = s
    · subst e
      rw [eA] at o5s
      show SlAt _ (A i) _ _
      rw [eA]
      refine ((o5s.store (j := l) (.bool false)).congr fun k _ => ?_).sl
      show _ = Value.bool (if i = i ∧ k = l then false else d.wk i k)
      by_cases e : k = l <;> simp [e]
    · have hd : L (i + 1) ≤ L s ∨ L (s + 1) ≤ L i := by
        by_cases g : i < s
        · exact Or.inl (hm _ _ (by omega) (by omega))
        · exact Or.inr (hm _ _ (by omega) (by omega))
      refine (((o5 i hi).apart (fun b' c' _ h3 h4 _ => by show b' ≠ b; omega) _).congr fun k _ => ?_).sl
      show Value.bool _ = Value.bool (if i = s ∧ k = l then false else d.wk i k)
      rw [if_neg (fun u => e u.1)]

end Go.Proofs.Ytachkoledebanab
