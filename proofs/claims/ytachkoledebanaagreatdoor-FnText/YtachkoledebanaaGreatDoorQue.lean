/-
  A queue's memory: a slice of ints that begins anywhere in a block of one's own, cut at its head, appended to at its end. A map of lists beside stores into blocks of another type.
-/
import Derived.Test.YtachkoledebanaaGreatDoorGrp
import Derived.Deep.AppendSrc
import Derived.Maps.GroupsBeside
namespace Go.Proofs.YtachkoledebanaaGreatDoor
open Go.RowKit Go.WideMaps Go.Maps

/-- the slice v holds xs, in a block from lo on; all of its capacity may be written -/
def QAt (w : World) (lo : Nat) (v : Value) (xs : List Int) : Prop :=
  (v = .slice none 0 0 ∧ xs = []) ∨ ∃ b o cap, v = .slice (some ⟨b, o, none⟩) xs.length cap ∧ lo ≤ b ∧ b < w.heap.size ∧ xs.length ≤ cap ∧
    (∀ j, j < xs.length → w.cell? ⟨b, o + j, none⟩ = some (.int .i64 (xs.getD j 0))) ∧ ∀ j, j < cap → (w.cell? ⟨b, o + j, none⟩).isSome = true ∧ w.frozen? ⟨b, o + j, none⟩ = false

theorem QAt.only {w w' : World} {lo lo' hi' : Nat} {v : Value} {xs : List Int} (h : QAt w lo v xs) (ho : Only lo' hi' w w') (hl : hi' ≤ lo) : QAt w' lo v xs := by
  rcases h with h | ⟨b, o, cap, rfl, h1, h2, h3, h4, h5⟩
  · exact Or.inl h
  · refine Or.inr ⟨b, o, cap, rfl, h1, Nat.lt_of_lt_of_le h2 ho.size, h3, fun j hj => ho.cell (p := ⟨b, o + j, none⟩) (Or.inr (by show hi' ≤ b; omega)) (h4 j hj), fun j hj => ⟨?_, ?_⟩⟩
    · obtain ⟨u, hu⟩ := Option.isSome_iff_exists.1 (h5 j hj).1
      rw [ho.cell (p := ⟨b, o + j, none⟩) (Or.inr (by show hi' ≤ b; omega)) hu]; rfl
    · exact (ho.frozen (p := ⟨b, o + j, none⟩) (Or.inr (by show hi' ≤ b; omega)) h2).trans (h5 j hj).2
theorem QAt.keep {w w' : World} {lo : Nat} {v : Value} {xs : List Int} (h : QAt w lo v xs) (hb : Below w.heap.size w w') : QAt w' lo v xs := h.only (lo' := 0) (hi' := 0) (.ofBelow hb) (Nat.zero_le _)
theorem QAt.len {w : World} {lo : Nat} {v : Value} {xs : List Int} (h : QAt w lo v xs) : ∃ ao cap, v = .slice ao xs.length cap := by
  rcases h with ⟨rfl, rfl⟩ | ⟨b, o, cap, rfl, _⟩
  · exact ⟨_, _, rfl⟩
  · exact ⟨_, _, rfl⟩

theorem getD_snoc (xs : List Int) (y : Int) {j : Nat} (h : j < xs.length) : (xs ++ [y]).getD j 0 = xs.getD j 0 := by
  simp [List.getD, List.getElem?_append_left h]
theorem getD_last (xs : List Int) (y : Int) : (xs ++ [y]).getD xs.length 0 = y := by simp [List.getD]

/-- one more at the end -/
theorem run_append_q {P : Program} (w : World) (lo : Nat) (t ty e : TypeId) (i : TypeInfo) (ht : P.underlying t = some (.slice e)) (hi : P.info? e = some i) (hz : i.zero = some (.int .i64 0)) (hsize : i.size = 1) (hby : i.bytes = 8)
    (v : Value) (xs : List Int) (h : QAt w lo v xs) (ad : Addr) (c : Nat) (y : Int) (hy : w.cell? ad = some (.int .i64 y)) (hlen : xs.length + 1 ≤ 1048576) (hlo : lo ≤ w.heap.size) :
    ∃ v' w', (Builtin.append_ #[t, t] ty #[v, .slice (some ad) 1 c]).run P w = .ok v' w' ∧ QAt w' lo v' (xs ++ [y]) ∧ Below lo w w' := by
  have hs : Src P i.size t (.slice (some ad) 1 c) 1 [.int .i64 y] w := by
    rw [hsize]
    refine Src.ofSlice w ht ad 1 c [.int .i64 y] (by simp) (fun j u hu => ?_) (fun u hu => ?_)
    · match j, hu with
      | 0, hu =>
        simp at hu
        subst hu
        simpa [Addr.add] using hy
    · simp at hu; subst hu; rfl
  -- whatever way lays a new row
  have grow : ∀ (bs : Option Addr) (sc : Nat), v = .slice bs xs.length sc → sc < xs.length + 1 → (Builtin.firstCells i.size xs.length (.slice bs xs.length sc)).run P w.drew = .ok (xs.map (Value.int .i64)).toArray w.drew →
      ∃ v' w', (Builtin.append_ #[t, t] ty #[v, .slice (some ad) 1 c]).run P w = .ok v' w' ∧ QAt w' lo v' (xs ++ [y]) ∧ Below lo w w' := by
    rintro bs sc rfl hg hold
    have hrun := run_append_grow_src (P := P) w t t ty e i (.int .i64 0) ht hi hz bs xs.length sc (xs.map (Value.int .i64)) hold _ 1 [.int .i64 y] hs hg (by omega) (growslice_fits hg (by rw [hby]; omega))
    have hge := grownCap_ge w (xs.length + 1) sc e
    refine ⟨_, _, hrun, Or.inr ⟨w.heap.size, 0, _, by simp; rfl, hlo, by simp, by simpa using hge, fun j hj => ?_, fun j hj => ⟨?_, ?_⟩⟩, (Below.refl _ _).drew.alloc hlo _⟩
    · rw [Nat.zero_add]
      refine (World.cell?_alloc_new w.drew _ _ j).trans ?_
      rw [Array.getElem?_append_left (by simpa using hj), List.getElem?_toArray]
      simp only [List.length_append, List.length_cons, List.length_nil] at hj
      by_cases e1 : j < xs.length
      · rw [getD_snoc xs y e1, List.getElem?_append_left (by simpa using e1)]
        simp [e1]
      · obtain rfl : j = xs.length := by omega
        rw [getD_last, List.getElem?_append_right (by simp)]
        simp
    · rw [Nat.zero_add]
      have e1 : (w.drew.alloc (.cells ((xs.map (Value.int .i64) ++ [Value.int .i64 y]).toArray ++ Builtin.zeroCells (Value.int .i64 0).cells (grownCap w (xs.length + 1) sc e - (xs.length + 1))) e)).cell? ⟨w.heap.size, j, none⟩ = _ := World.cell?_alloc_new w.drew _ _ j
      rw [e1, Array.getElem?_eq_getElem (by simp [Builtin.zeroCells, Value.cells] at hj ⊢; omega)]
      rfl
    · exact World.frozen?_alloc_new w.drew _ _ _
  rcases h with ⟨rfl, rfl⟩ | ⟨b, o, cap, rfl, h1, h2, h3, h4, h5⟩
  · exact grow none 0 rfl (by simp) (run_firstCells_none w.drew i.size 0 0 0)
  · by_cases hfit : xs.length + 1 ≤ cap
    · have hrun := run_append_room_src (P := P) w t t ty e i ht hi b o xs.length cap _ 1 [.int .i64 y] hs hfit (fun j hj => by
          simp at hj; subst hj
          rw [hsize, Nat.mul_one]
          exact (h5 xs.length (by omega)).1) (fun j hj => by
          simp at hj; subst hj
          rw [hsize, Nat.mul_one]
          exact (h5 xs.length (by omega)).2)
      rw [hsize, Nat.mul_one] at hrun
      have e0 : w.setCells b (o + xs.length) [.int .i64 y] = w.setCell ⟨b, o + xs.length, none⟩ (.int .i64 y) := rfl
      rw [e0] at hrun
      obtain ⟨u, hu⟩ := Option.isSome_iff_exists.1 (h5 xs.length (by omega)).1
      have hin : (w.setCell ⟨b, o + xs.length, none⟩ (.int .i64 y)).cell? ⟨b, o + xs.length, none⟩ = some (.int .i64 y) := World.cell?_setCell_same w _ _ hu
      have hout : ∀ j, j ≠ xs.length → (w.setCell ⟨b, o + xs.length, none⟩ (.int .i64 y)).cell? ⟨b, o + j, none⟩ = w.cell? ⟨b, o + j, none⟩ := fun j hj =>
        World.cell?_setCell_other w ⟨b, o + xs.length, none⟩ ⟨b, o + j, none⟩ _ (fun e1 => hj (by injection e1 with _ e1; omega))
      refine ⟨_, _, hrun, Or.inr ⟨b, o, cap, by simp, h1, by simpa using h2, by simpa using hfit, fun j hj => ?_, fun j hj => ⟨?_, ?_⟩⟩, (Below.refl _ _).setCell h1 _⟩
      · simp only [List.length_append, List.length_cons, List.length_nil] at hj
        by_cases e1 : j < xs.length
        · rw [hout j (by omega), getD_snoc xs y e1]; exact h4 j e1
        · obtain rfl : j = xs.length := by omega
          rw [getD_last]; exact hin
      · by_cases e1 : j = xs.length
        · subst e1; rw [hin]; rfl
        · rw [hout j e1]; exact (h5 j hj).1
      · rw [World.frozen?_setCell]; exact (h5 j hj).2
    · refine grow (some ⟨b, o, none⟩) cap rfl (by omega) ?_
      refine run_firstCells_some w.drew i.size xs.length ⟨b, o, none⟩ xs.length cap _ (by rw [hsize]; simp) (fun j u hu => ?_)
      have hj : j < xs.length := by simpa using (List.getElem?_eq_some_iff.1 hu).1
      rw [Addr.add_lit]
      refine (h4 j hj).trans ?_
      rw [← hu]
      simp [hj]

theorem wpList_append_q {P : Program} (w : World) {ops : Array Oper} {rest : List Oper} {o : Oper} {a : Act} {Q : Exit → Act → World → Prop} (hgd : o.guard = none) (s x : Operand) (t : TypeId)
    (ho : o.op = .call { callee := .builtin .append, args := #[s, x], argTypes := #[t, t] })
    (lo : Nat) (e : TypeId) (i : TypeInfo) (ht : P.underlying t = some (.slice e)) (hi : P.info? e = some i) (hz : i.zero = some (.int .i64 0)) (hsize : i.size = 1) (hby : i.bytes = 8)
    (v : Value) (xs : List Int) (hs : a.eval s = v) (h : QAt w lo v xs) (ad : Addr) (c : Nat) (y : Int) (hx : a.eval x = .slice (some ad) 1 c) (hy : w.cell? ad = some (.int .i64 y)) (hlen : xs.length + 1 ≤ 1048576) (hlo : lo ≤ w.heap.size)
    (hK : ∀ v' w', QAt w' lo v' (xs ++ [y]) → Below lo w w' → wpList P ops Q rest (a.put o.dst v') w') : wpList P ops Q (o :: rest) a w := by
  refine wpList_plain hgd fun K hK' => ?_
  obtain ⟨v', w', hr, h2, h3⟩ := run_append_q (P := P) w lo t o.type e i ht hi hz hsize hby v xs h ad c y hy hlen hlo
  unfold Oper.wp execOp
  simp only [ho, resolve, invoke, builtin, Sem.run_bind, Sem.run_pure, Result.andThen_ok, List.map_toArray, List.map_cons, List.map_nil, hs, hx, hr]
  exact hK' _ _ (hK v' w' h2 h3)

/-- one less at the head -/
theorem QAt.tail {w : World} {lo b o cap : Nat} {x : Int} {xs : List Int} (h : QAt w lo (.slice (some ⟨b, o, none⟩) (x :: xs).length cap) (x :: xs)) : QAt w lo (.slice (some ⟨b, o + 1, none⟩) xs.length (cap - 1)) xs := by
  rcases h with ⟨h, _⟩ | ⟨b', o', cap', e, h1, h2, h3, h4, h5⟩
  · cases h
  · injection e with e1 _ e3
    injection e1 with e1
    injection e1 with e1 e2
    subst e1; subst e2; subst e3
    simp only [List.length_cons] at h3
    refine Or.inr ⟨b, o + 1, cap - 1, rfl, h1, h2, by omega, fun j hj => ?_, fun j hj => ?_⟩
    · have := h4 (j + 1) (by simp; omega)
      rw [show o + 1 + j = o + (j + 1) by omega, this]
      simp
    · rw [show o + 1 + j = o + (j + 1) by omega]
      exact h5 (j + 1) (by omega)
theorem QAt.head {w : World} {lo : Nat} {v : Value} {x : Int} {xs : List Int} (h : QAt w lo v (x :: xs)) : ∃ b o cap, v = .slice (some ⟨b, o, none⟩) (xs.length + 1) (cap + 1) ∧ xs.length ≤ cap ∧ w.cell? ⟨b, o, none⟩ = some (.int .i64 x) ∧ QAt w lo (.slice (some ⟨b, o + 1, none⟩) xs.length cap) xs := by
  rcases h with ⟨_, h⟩ | ⟨b, o, cap, rfl, h1, h2, h3, h4, h5⟩
  · cases h
  · have ht := QAt.tail (w := w) (lo := lo) (b := b) (o := o) (cap := cap) (x := x) (xs := xs) (Or.inr ⟨b, o, cap, rfl, h1, h2, h3, h4, h5⟩)
    obtain ⟨c, rfl⟩ : ∃ c, cap = c + 1 := ⟨cap - 1, by simp at h3; omega⟩
    refine ⟨b, o, c, rfl, by simp at h3; omega, by have := h4 0 (by simp); simpa using this, by simpa using ht⟩

/-- the lists of a map lie in blocks of their own type: a store elsewhere leaves them -/
theorem groups_only {H : Type} {P : Program} {k base e b n X : Nat} {q : IntKind} {D : DataW H} {w w' : World} {c : Array Value} {t : TypeId} {f : Nat × Nat} (h : w.ownsGroups P k base e q b n D) (hX : w.heap[X]? = some (.cells c t f)) (ht : t ≠ e) (ho : Only X (X + 1) w w') : w'.ownsGroups P k base e q b n D := by
  refine h.kept (row := some X) ⟨ho.os, ho.tape, ho.output, ho.size, fun j hj hne => ho.block j hj (by have : j ≠ X := fun e => hne (by rw [e]); omega)⟩ (fun e1 => ?_) (fun es clock hb x hx => ?_)
  · obtain ⟨es, clock, hb, _⟩ := h
    injection e1 with e1
    subst e1
    rw [hb] at hX; cases hX
  · obtain ⟨es', clock', hb', F, _⟩ := h
    obtain ⟨rfl, rfl⟩ : es' = es ∧ clock' = clock := by rw [hb'] at hb; simpa using hb
    cases hx' : x.val.ownBlock with
    | none => exact Or.inl rfl
    | some g =>
      refine Or.inr fun e1 => ?_
      injection e1 with e1
      subst e1
      obtain ⟨y, hy⟩ := F.reads x hx
      obtain ⟨z, hz, _⟩ := WideElems.rd_val hy
      obtain ⟨zs, hoi, _⟩ := rowElem_inv hz
      rcases hoi.1.2 with ⟨hv, _⟩ | ⟨g', cap, cur, hv, _, hg, _⟩
      · rw [hv] at hx'; simp [Value.ownBlock] at hx'
      · rw [hv] at hx'
        obtain rfl : g' = g := by simpa [Value.ownBlock] using hx'
        rw [hg] at hX
        injection hX with hX
        injection hX with _ hX _
        exact ht hX.symm
theorem groups_keep {H : Type} {P : Program} {k base e b n : Nat} {q : IntKind} {D : DataW H} {w w' : World} (h : w.ownsGroups P k base e q b n D) (hb : Below w.heap.size w w') : w'.ownsGroups P k base e q b n D :=
  h.kept (row := none) ⟨hb.os, hb.tape, hb.output, hb.size, fun j hj _ => hb.block j hj⟩ (by simp) (fun _ _ _ x _ => by cases x.val.ownBlock <;> simp)

end Go.Proofs.YtachkoledebanaaGreatDoor
