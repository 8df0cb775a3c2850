/-
  A slice in a block of a known type; what append reads.
-/
import Derived.Test.YtachkoledebanaaRet
namespace Go.Proofs.Ytachkoledebanaa
open Go.RowKit

/-- the slice lies at the head of a block from lo to hi whose cells are of type t, none frozen -/
def OwnT (w : World) (lo hi : Nat) (ao : Option Addr) (n : Nat) (t : TypeId) (f : Nat → Value) : Prop :=
  ∀ k, k < n → ∃ b c, ao = some ⟨b, 0, none⟩ ∧ lo ≤ b ∧ b < hi ∧ w.heap[b]? = some (.cells c t (0, 0)) ∧ c[k]? = some (f k)

theorem OwnT.sl {w : World} {lo hi n t : Nat} {ao : Option Addr} {f : Nat → Value} (h : OwnT w lo hi ao n t f) : SlAt w ao n f := fun k hk => by
  obtain ⟨b, c, e, _, _, hb, hc⟩ := h k hk
  exact ⟨b, 0, e, by simp [World.cell?, hb, hc]⟩
theorem OwnT.keep {w w' : World} {lo hi n t B : Nat} {ao : Option Addr} {f : Nat → Value} (h : OwnT w lo hi ao n t f) (hb : Below B w w') (hB : hi ≤ B) : OwnT w' lo hi ao n t f := fun k hk => by
  obtain ⟨b, c, e, h1, h2, h3, h4⟩ := h k hk
  exact ⟨b, c, e, h1, h2, (hb.block b (by omega)).trans h3, h4⟩
theorem OwnT.wide {w : World} {lo hi lo' hi' n t : Nat} {ao : Option Addr} {f : Nat → Value} (h : OwnT w lo hi ao n t f) (h1 : lo' ≤ lo) (h2 : hi ≤ hi') : OwnT w lo' hi' ao n t f := fun k hk => by
  obtain ⟨b, c, e, q1, q2, h3, h4⟩ := h k hk
  exact ⟨b, c, e, by omega, by omega, h3, h4⟩
theorem OwnT.congr {w : World} {lo hi n t : Nat} {ao : Option Addr} {f g : Nat → Value} (h : OwnT w lo hi ao n t f) (e : ∀ k, k < n → f k = g k) : OwnT w lo hi ao n t g := fun k hk => by
  obtain ⟨b, c, ea, q1, q2, h3, h4⟩ := h k hk
  exact ⟨b, c, ea, q1, q2, h3, by rw [h4, e k hk]⟩
/-- a store elsewhere -/
theorem OwnT.apart {w : World} {lo hi n t : Nat} {ao : Option Addr} {f : Nat → Value} (h : OwnT w lo hi ao n t f) {p : Addr} (hp : ∀ b c, ao = some ⟨b, 0, none⟩ → lo ≤ b → b < hi → w.heap[b]? = some (.cells c t (0, 0)) → b ≠ p.block) (v : Value) : OwnT (w.setCell p v) lo hi ao n t f := fun k hk => by
  obtain ⟨b, c, e, h1, h2, h3, h4⟩ := h k hk
  exact ⟨b, c, e, h1, h2, (Below.heap_setCell w p v b (hp b c e h1 h2 h3)).trans h3, h4⟩
/-- a store into it -/
theorem OwnT.store {w : World} {lo hi n t b j : Nat} {f : Nat → Value} (h : OwnT w lo hi (some ⟨b, 0, none⟩) n t f) (v : Value) : OwnT (w.setCell ⟨b, j, none⟩ v) lo hi (some ⟨b, 0, none⟩) n t (fun k => if k = j then v else f k) := fun k hk => by
  obtain ⟨b', c, e, h1, h2, h3, h4⟩ := h k hk
  obtain rfl : b = b' := by simpa using e
  refine ⟨b, c.setIfInBounds j v, rfl, h1, h2, ?_, ?_⟩
  · simp [World.setCell, Array.getElem?_modify, h3]
  · show _ = some (if k = j then v else f k)
    rw [Array.getElem?_setIfInBounds]
    have hkc : k < c.size := (Array.getElem?_eq_some_iff.1 h4).1
    by_cases ej : j = k
    · subst ej; simp [hkc]
    · rw [if_neg ej, if_neg (fun e => ej e.symm)]; exact h4

theorem OwnT.ofOwns {w : World} {lo n t : Nat} {v : Value} {f : Nat → Value} (h : w.ownsRow lo t 1 v n ((List.range n).map f)) : ∃ ao cap, v = .slice ao n cap ∧ OwnT w lo w.heap.size ao n t f := by
  obtain ⟨h1, ⟨hv, hn⟩ | ⟨g, cap, cur, hv, hg, hh, hcap, _, hcs, htk⟩⟩ := h
  · exact ⟨none, 0, by rw [hv, hn], fun k hk => absurd hk (by omega)⟩
  · refine ⟨some ⟨g, 0, none⟩, cap, hv, fun k hk => ⟨g, cur, rfl, hg, (Array.getElem?_eq_some_iff.1 hh).1, hh, ?_⟩⟩
    have e1 : cur.toList[k]? = ((List.range n).map f)[k]? := by rw [← htk, List.getElem?_take, if_pos (by omega)]
    simp only [Array.getElem?_toList] at e1
    rw [e1]
    simp [hk]

/-- the cells of a slice, as append reads them -/
theorem news_of_sl {w : World} {x : Addr} {n : Nat} {f : Nat → Value} (h : SlAt w (some x) n f) : ∀ j u, ((List.range n).map f)[j]? = some u → w.cell? (x.add j) = some u := fun j u hu => by
  have hj : j < n := by
    have := (List.getElem?_eq_some_iff.1 hu).1
    simpa using this
  obtain ⟨b, o, e, hc⟩ := h j hj
  have e2 : u = f j := by simpa [hj] using hu.symm
  obtain rfl : x = ⟨b, o, none⟩ := by simpa using e
  rw [e2, ← hc]
  unfold Addr.add
  by_cases h0 : j = 0
  · subst h0; rfl
  · rw [if_neg h0]

theorem grown_none {B : Nat} {w w' : World} (h : w.grownBy w' none) (hB : B ≤ w.heap.size) : Below B w w' := ⟨h.os, h.tape, h.output, h.size, fun k hk => h.block k (by omega) (by simp)⟩

/-- behind the growth of another row -/
theorem OwnT.grown {w w' : World} {lo hi n t : Nat} {ao : Option Addr} {f : Nat → Value} {row : Option Nat} (h : OwnT w lo hi ao n t f) (hg : w.grownBy w' row) (hne : ∀ b c, lo ≤ b → b < hi → w.heap[b]? = some (.cells c t (0, 0)) → some b ≠ row) : OwnT w' lo hi ao n t f := fun k hk => by
  obtain ⟨b, c, e, h1, h2, h3, h4⟩ := h k hk
  exact ⟨b, c, e, h1, h2, (hg.block b (Array.getElem?_eq_some_iff.1 h3).1 (hne b c h1 h2 h3)).trans h3, h4⟩
theorem OwnT.drew {w : World} {lo hi n t : Nat} {ao : Option Addr} {f : Nat → Value} (h : OwnT w lo hi ao n t f) : OwnT w.drew lo hi ao n t f := h
theorem OwnT.alloc {w : World} {lo hi n t : Nat} {ao : Option Addr} {f : Nat → Value} (h : OwnT w lo hi ao n t f) (o : Obj) : OwnT (w.alloc o) lo hi ao n t f := h.grown (World.grownBy_alloc w o none) (fun _ _ _ _ _ => by simp)
/-- two rows of different make are two -/
theorem own_ne {w : World} {base e size n t b : Nat} {v : Value} {xs : List Value} {c : Array Value} (h : w.ownsRow base e size v n xs) (hb : w.heap[b]? = some (.cells c t (0, 0))) (hte : t ≠ e) : some b ≠ v.ownBlock := fun e' => by
  rcases h.2 with ⟨rfl, _⟩ | ⟨g, cap, cur, rfl, _, hgb, _⟩
  · simp [Value.ownBlock] at e'
  · obtain rfl : b = g := by simpa [Value.ownBlock] using e'
    rw [hgb] at hb
    cases hb
    exact hte rfl

theorem range_map_len (n : Nat) (f : Nat → Value) : ((List.range n).map f).length = n * 1 := by simp
theorem one_ints (n : Nat) (f : Nat → Int) : ∀ u ∈ (List.range n).map (fun k => Value.int .i64 (f k)), u.oneCell' = true := by
  intro u hu
  obtain ⟨k, _, rfl⟩ := List.mem_map.1 hu
  rfl
theorem one_bools (n : Nat) (f : Nat → Bool) : ∀ u ∈ (List.range n).map (fun k => Value.bool (f k)), u.oneCell' = true := by
  intro u hu
  obtain ⟨k, _, rfl⟩ := List.mem_map.1 hu
  rfl

end Go.Proofs.Ytachkoledebanaa
