import Derived.Test.YtachkoledebanabGreatDoorStrEtc
import Derived.Test.YtachkoledebanabGreatDoorShelf
import Derived.Lib.AppendIntMem
import Derived.Test.YtachkoledebanabGreatDoorBaseEtc
namespace Go.Proofs.YtachkoledebanabGreatDoor
open Go.RowKit

def Tab (w : World) : Prop := Lib.TabIs Tryz.prog w "internal/strconv.uint64pow10" .u64 Lib.pow10Tab
theorem Tab.keep {w w' : World} (h : Tab w) (hb : Below w.heap.size w w') : Tab w' := by
  have h' : w.var? Tryz.prog "internal/strconv.uint64pow10" = some ((Lib.pow10Tab).map fun z => Value.int .u64 z).toArray := h
  show w'.var? Tryz.prog "internal/strconv.uint64pow10" = _
  rw [World.var?, Option.bind_eq_some_iff] at h'
  obtain ⟨g, hg, hv⟩ := h'
  rw [World.var?, hg]
  show (match w'.heap[g]? with | some (.cells cs _ _) => some cs | _ => none) = _
  have hlt : g < w.heap.size := by
    rcases Nat.lt_or_ge g w.heap.size with u | u
    · exact u
    · rw [Array.getElem?_eq_none u] at hv; cases hv
  rw [hb.block g hlt]
  exact hv
theorem Tab.drew {w : World} (h : Tab w) : Tab w.drew := h

theorem decDigits_dec (n : Nat) (h : 0 < n) : Lib.decDigits n = decP n := by
  induction n using Nat.strongRecOn with
  | _ n ih =>
    rw [decP_pos h]
    by_cases h10 : n < 10
    · rw [Lib.decDigits_one h10, show n / 10 = 0 by omega, decP_zero]
      unfold dig
      rw [show n % 10 = n by omega]
      rfl
    · rw [Lib.decDigits, dif_neg h10, ih (n / 10) (by omega) (by omega)]
      rfl
theorem itoa_dec (n : Nat) : Lib.itoa (n : Int) = dec n := by
  unfold Lib.itoa dec
  rw [if_neg (by omega)]
  by_cases h : n = 0
  · subst h; rw [if_pos rfl]; show Lib.decDigits 0 = _; exact Lib.decDigits_one (by omega)
  · rw [if_neg h, Int.toNat_natCast, decDigits_dec n (by omega)]
theorem itoa_any (n : Nat) (w : World) (hn : n < 1000000000) (ht : Tab w) :
    Calls Tryz.prog 22 #[.int .i64 n] w fun e w' => e = .returned (.string (bs (dec n))) ∧ Below w.heap.size w w' := by
  refine (Tryz.strconv_Itoa (n : Int) (by omega) (by omega) w ht).mono ?_
  rintro e w' ⟨rfl, k, os, rfl⟩
  exact ⟨by rw [itoa_dec]; rfl, Lib.below_grow _ w (Nat.le_refl _) k os⟩

set_option maxHeartbeats 1000000 in
set_option maxRecDepth 100000 in
theorem copyCheck_used (b : Nat) (w : World) (h0 : w.cell? ⟨b, 0, none⟩ = some (.pointer (some ⟨b, 0, none⟩))) :
    Calls Tryz.prog 55 #[.pointer (some ⟨b, 0, none⟩)] w fun e w' => e = .returned (.tuple #[]) ∧ w' = w := by
  obtain ⟨j, hj, _⟩ := Option.map_eq_some_iff.1 (show (Tryz.prog.info? 55).map (·.size) = some 2 by kernel_rfl)
  go_enter Tryz.func55, Tryz.ntmps55
  go_wp2
  rw [Lib.run_neq_ptr_same w _ Tryz.underlying52 hj]
  go_wp2
  go_end0
  exact ⟨rfl, rfl⟩

set_option maxHeartbeats 1000000 in
set_option maxRecDepth 100000 in
theorem copyCheck_fresh (b : Nat) (w : World) (h0 : w.cell? ⟨b, 0, none⟩ = some (.pointer none)) (hsh : w.shape? b = some (55, 2)) (hfz : w.frozen? ⟨b, 0, none⟩ = false) :
    Calls Tryz.prog 55 #[.pointer (some ⟨b, 0, none⟩)] w fun e w' => e = .returned (.tuple #[]) ∧ w' = w.setCell ⟨b, 0, none⟩ (.pointer (some ⟨b, 0, none⟩)) := by
  obtain ⟨j, hj, hjs⟩ := Option.map_eq_some_iff.1 (show (Tryz.prog.info? 55).map (·.size) = some 2 by kernel_rfl)
  go_enter Tryz.func55, Tryz.ntmps55
  go_wp2
  rw [Lib.run_to_unsafe w ⟨b, 0, none⟩ Tryz.underlying52 Tryz.underlying64 hj (by rw [hjs]; decide) hsh (Nat.zero_lt_succ 1)]
  simp only [Result.andThen]
  rw [Oper.upon_value]
  go_wp2
  rw [run_callFunc_extern Tryz.func71 (by kernel_rfl) (by kernel_rfl) (by kernel_rfl) (e := Extern.AbiNoEscape.same) (by kernel_rfl)]
  rw [Lib.run_noEscape]
  simp only [Result.andThen]
  rw [Oper.upon_value]
  go_wp2
  rw [Lib.run_from_unsafe w ⟨b, 0, none⟩ Tryz.underlying64 Tryz.underlying52 hj hsh (by kernel_rfl)]
  simp only [Result.andThen]
  rw [Oper.upon_value]
  go_wp2
  go_end0
  exact ⟨rfl, rfl⟩

theorem copyCheck_any (B b : Nat) (xs : List Value) (w : World) (h : Lib.IsBuilderF 55 5 B b xs w) :
    Calls Tryz.prog 55 #[.pointer (some ⟨b, 0, none⟩)] w fun e w' => e = .returned (.tuple #[]) ∧ (Lib.BuilderAtF 55 5 B b (.pointer (some ⟨b, 0, none⟩)) xs w' ∧ Below B w w' ∧ Lib.OthersKept 5 (some b) w w') := by
  rcases h with h | h
  · refine (copyCheck_fresh b w h.cell0 h.shape h.frozen0).mono ?_
    rintro e w' ⟨rfl, rfl⟩
    exact ⟨rfl, h.used _, (Below.refl B w).setCell (p := ⟨b, 0, none⟩) h.1 _, (Lib.OthersKept.refl _ _ w).setCell ⟨b, 0, none⟩ rfl _⟩
  · refine (copyCheck_used b w h.cell0).mono ?_
    rintro e w' ⟨rfl, rfl⟩
    exact ⟨rfl, h, Below.refl B _, Lib.OthersKept.refl _ _ _⟩

set_option maxHeartbeats 2000000 in
set_option maxRecDepth 100000 in
theorem writeString_any (B b : Nat) (xs : List Value) (s : ByteArray) (w : World) (h : Lib.IsBuilderF 55 5 B b xs w) (hlen : xs.length + s.size ≤ 140737488355328) (hBw : B ≤ w.heap.size) :
    Calls Tryz.prog 25 #[.pointer (some ⟨b, 0, none⟩), .string s] w fun e w' => e = .returned (.tuple #[.int .i64 s.size, .nilIface]) ∧ (Lib.BuilderAtF 55 5 B b (.pointer (some ⟨b, 0, none⟩)) (xs ++ Lib.strCells s) w' ∧ Below B w w' ∧ Lib.OthersKept 5 (some b) w w') := by
  obtain ⟨i0, hi, hz0, hz1, hz2⟩ := info_parts (show (Tryz.prog.info? 5).map (fun i => (i.zero, i.size, i.bytes)) = some (some (.int .u8 0), 1, 1) by kernel_rfl)
  go_enter Tryz.func25, Tryz.ntmps25
  go_wp2_with (go_at_call 55; refine (copyCheck_any B b xs _ h).mono ?_)
  rintro e w1 ⟨rfl, h1, hb1, hk1⟩
  obtain ⟨hB, v, hbk, hown, hne⟩ := h1
  have c0 : w1.cell? ⟨b, 0, none⟩ = some (.pointer (some ⟨b, 0, none⟩)) := by rw [Lib.cell_of_heap hbk]; rfl
  have c1 : w1.cell? ⟨b, 1, none⟩ = some v := by rw [Lib.cell_of_heap hbk]; rfl
  go_wp2_with (at_builtin; refine Lib.wpList_append_own_stringF _ rfl _ _ 53 9 rfl B 5 i0 Tryz.underlying53 Tryz.underlying9 hi hz0 hz1 hz2 _ _ _ rfl hown s rfl ?c3 ?c4 ?c5 ?_)
  case c3 => unfold maxLen; omega
  case c4 => omega
  case c5 => have := hb1.size; omega
  intro v' w2 hown' hgrow _
  have hlt : b < w1.heap.size := by
    rcases Nat.lt_or_ge b w1.heap.size with h' | h'
    · exact h'
    · simp [Array.getElem?_eq_none h'] at hbk
  have hb2 : w2.heap[b]? = some (.cells #[.pointer (some ⟨b, 0, none⟩), v] 55 (0, 0)) := by
    rw [hgrow.block b hlt (fun e => hne e.symm)]
    exact hbk
  have d0 : w2.cell? ⟨b, 0, none⟩ = some (.pointer (some ⟨b, 0, none⟩)) := by rw [Lib.cell_of_heap hb2]; rfl
  have d1 : w2.cell? ⟨b, 1, none⟩ = some v := by rw [Lib.cell_of_heap hb2]; rfl
  have f1 : w2.frozen? ⟨b, 1, none⟩ = false := Lib.frozen_of_heap hb2 1
  obtain ⟨ao, n', cap, rfl⟩ : ∃ ao n' cap, v' = .slice ao n' cap := by
    rcases hown'.2 with ⟨hv, _⟩ | ⟨g, cap, cur, fz, hv, _⟩
    · exact ⟨_, _, _, hv⟩
    · exact ⟨_, _, _, hv⟩
  go_wp2
  go_ret2
  refine ⟨rfl, ?_, ?_, (hk1.grown hgrow (Lib.ownsRowF_kind hown)).setCell ⟨b, 1, none⟩ rfl _⟩
  · exact Lib.BuilderAtF.put (T := 55) (e := 5) hB hb2 (bs' := xs ++ Lib.strCells s) (by simpa [Lib.strCells_length] using hown') (by decide)
  · exact (hb1.grown hgrow (by have := hb1.size; omega) (fun k hk => (hown.lt k hk).1)).setCell (p := ⟨b, 1, none⟩) hB _

/-- the builder b, made from B on, holds the text l -/
structure Bldr (w : World) (B b : Nat) (l : List UInt8) : Prop where
  is : Lib.IsBuilderF 55 5 B b (Lib.byteCells l) w
  le : B ≤ w.heap.size
theorem Bldr.keep {w w' : World} {B b : Nat} {l : List UInt8} (h : Bldr w B b l) (hb : Below w.heap.size w w') : Bldr w' B b l := by
  refine ⟨?_, Nat.le_trans h.le hb.size⟩
  have key : ∀ p, Lib.BuilderAtF 55 5 B b p (Lib.byteCells l) w → Lib.BuilderAtF 55 5 B b p (Lib.byteCells l) w' := by
    intro p u
    have hlt := u.lt
    obtain ⟨hB, v, hbk, ⟨hl, hown⟩, hne⟩ := u
    refine ⟨hB, v, by rw [hb.block b hlt]; exact hbk, ⟨hl, ?_⟩, hne⟩
    rcases hown with x | ⟨g, cap, cur, fz, hv, hg, hw, r⟩
    · exact Or.inl x
    · have : g < w.heap.size := by
        rcases Nat.lt_or_ge g w.heap.size with u | u
        · exact u
        · rw [Array.getElem?_eq_none u] at hw; cases hw
      exact Or.inr ⟨g, cap, cur, fz, hv, hg, by rw [hb.block g this]; exact hw, r⟩
  exact h.is.elim (fun u => Or.inl (key _ u)) (fun u => Or.inr (key _ u))
theorem Bldr.drew {w : World} {B b : Nat} {l : List UInt8} (h : Bldr w B b l) : Bldr w.drew B b l := ⟨h.is, h.le⟩
theorem Bldr.new (w : World) : Bldr (w.alloc (.cells #[.pointer none, .slice none 0 0] 55)) w.heap.size w.heap.size [] :=
  ⟨Lib.IsBuilderF.of (Lib.fresh_isBuilder 55 5 w), by simp⟩
theorem bld_write (B b : Nat) (l s : List UInt8) (w : World) (h : Bldr w B b l) (hl : l.length + s.length ≤ 1000000000) :
    Calls Tryz.prog 25 #[.pointer (some ⟨b, 0, none⟩), .string (bs s)] w fun e w' =>
      e = .returned (.tuple #[.int .i64 (bs s).size, .nilIface]) ∧ Bldr w' B b (l ++ s) ∧ Below B w w' ∧ Lib.OthersKept 5 (some b) w w' := by
  refine (writeString_any B b _ (bs s) w h.is (by rw [Lib.byteCells_length, bs_size]; omega) h.le).mono ?_
  rintro e w' ⟨rfl, hb, hbel, hk⟩
  refine ⟨rfl, ⟨Or.inr ?_, Nat.le_trans h.le hbel.size⟩, hbel, hk⟩
  rw [show Lib.byteCells (l ++ s) = Lib.byteCells l ++ Lib.strCells (bs s) by simp [Lib.byteCells, Lib.strCells, bs]]
  exact hb
theorem bld_string (B b : Nat) (l : List UInt8) (w : World) (h : Bldr w B b l) :
    Calls Tryz.prog 27 #[.pointer (some ⟨b, 0, none⟩)] w fun e w' => e = .returned (.string (bs l)) ∧ Below B w w' := by
  refine (Tryz.Builder_String_any_k B b l w h.is h.le).mono ?_
  rintro e w' ⟨rfl, _, hb, _⟩
  exact ⟨rfl, hb⟩

end Go.Proofs.YtachkoledebanabGreatDoor

namespace Go.Proofs.YtachkoledebanabGreatDoor
open Go.RowKit

theorem cell_keep {w w' : World} {p : Addr} {v : Value} (h : w.cell? p = some v) (hb : Below w.heap.size w w') : w'.cell? p = some v := by
  have hlt : p.block < w.heap.size := by
    rcases Nat.lt_or_ge p.block w.heap.size with u | u
    · exact u
    · simp [World.cell?, Array.getElem?_eq_none u] at h
  rw [World.cell?_of_block (hb.block p.block hlt)]
  exact h
theorem var_keep {w w' : World} {n : String} {cs : Array Value} (h : w.var? Tryz.prog n = some cs) (hb : Below w.heap.size w w') : w'.var? Tryz.prog n = some cs := by
  rw [World.var?, Option.bind_eq_some_iff] at h
  obtain ⟨g, hg, hv⟩ := h
  rw [World.var?, hg]
  show (match w'.heap[g]? with | some (.cells cs _ _) => some cs | _ => none) = _
  have hlt : g < w.heap.size := by
    rcases Nat.lt_or_ge g w.heap.size with u | u
    · exact u
    · rw [Array.getElem?_eq_none u] at hv; cases hv
  rw [hb.block g hlt]
  exact hv

structure Laid (w : World) : Prop where
  tab : Tab w
  mx : ∃ m, w.cell? ⟨5, 0, none⟩ = some (.int .i64 m)
  syn : ∃ tp p, w.var? Tryz.prog "strconv.ErrSyntax" = some #[.iface tp p]
  rng : ∃ tp p, w.var? Tryz.prog "strconv.ErrRange" = some #[.iface tp p]
  et : w.cell? ⟨2, 0, none⟩ = some (.iface 103 (.agg #[.pointer (some ⟨10, 38, none⟩)]))
  er : ∃ a b, w.cell? ⟨0, 0, none⟩ = some (.iface 174 (.pointer (some a))) ∧ w.cell? ⟨1, 0, none⟩ = some (.iface 174 (.pointer (some b))) ∧ a ≠ b ∧ (∃ c t, w.heap[a.block]? = some (.cells c t (0, 0))) ∧ ∃ c t, w.heap[b.block]? = some (.cells c t (0, 0))
theorem Laid.keep {w w' : World} (h : Laid w) (hb : Below w.heap.size w w') : Laid w' := by
  obtain ⟨h1, ⟨m, h2⟩, ⟨t3, p3, h3⟩, ⟨t4, p4, h4⟩, h5, ⟨a, b, h6, h7, h8, ⟨ca, ta, h9⟩, ⟨cb, tb, h10⟩⟩⟩ := h
  exact ⟨h1.keep hb, ⟨m, cell_keep h2 hb⟩, ⟨t3, p3, var_keep h3 hb⟩, ⟨t4, p4, var_keep h4 hb⟩, cell_keep h5 hb, ⟨a, b, cell_keep h6 hb, cell_keep h7 hb, h8, ⟨ca, ta, (hb.block _ (Array.getElem?_eq_some_iff.1 h9).1).trans h9⟩, ⟨cb, tb, (hb.block _ (Array.getElem?_eq_some_iff.1 h10).1).trans h10⟩⟩⟩
theorem Laid.drew {w : World} (h : Laid w) : Laid w.drew := ⟨h.tab, h.mx, h.syn, h.rng, h.et, h.er⟩

end Go.Proofs.YtachkoledebanabGreatDoor

namespace Go.Proofs.YtachkoledebanabGreatDoor
open Go.RowKit

/-- the slice lies at the head of a block from lo to hi whose cells are of type t, none frozen -/
def OwnT (w : World) (lo hi : Nat) (ao : Option Addr) (n : Nat) (t : TypeId) (f : Nat → Value) : Prop :=
  ∀ k, k < n → ∃ b c, ao = some ⟨b, 0, none⟩ ∧ lo ≤ b ∧ b < hi ∧ w.heap[b]? = some (.cells c t (0, 0)) ∧ c[k]? = some (f k)

theorem OwnT.sl {w : World} {lo hi n t : Nat} {ao : Option Addr} {f : Nat → Value} (h : OwnT w lo hi ao n t f) : SlAt w ao n f := fun k hk => by
  obtain ⟨b, c, e, _, _, hb, hc⟩ := h k hk
  exact ⟨b, 0, e, by simp [World.cell?, hb, hc]⟩
theorem OwnT.keep {w w' : World} {lo hi n t B : Nat} {ao : Option Addr} {f : Nat → Value} (h : OwnT w lo hi ao n t f) (hb : Below B w w') (hB : hi ≤ B) : OwnT w' lo hi ao n t f := fun k hk => by
  obtain ⟨b, c, e, h1, h2, h3, h4⟩ := h k hk
  exact ⟨b, c, e, h1, h2, (hb.block b (by omega)).trans h3, h4⟩
theorem OwnT.wide {w : World} {lo hi lo' hi' n t : Nat} {ao : Option Addr} {f : Nat → Value} (h : OwnT w lo hi ao n t f) (h1 : lo' ≤ lo) (h2 : hi ≤ hi') : OwnT w lo' hi' ao n t f := fun k hk => by
  obtain ⟨b, c, e, q1, q2, h3, h4⟩ := h k hk
  exact ⟨b, c, e, by omega, by omega, h3, h4⟩
theorem OwnT.congr {w : World} {lo hi n t : Nat} {ao : Option Addr} {f g : Nat → Value} (h : OwnT w lo hi ao n t f) (e : ∀ k, k < n → f k = g k) : OwnT w lo hi ao n t g := fun k hk => by
  obtain ⟨b, c, ea, q1, q2, h3, h4⟩ := h k hk
  exact ⟨b, c, ea, q1, q2, h3, by rw [h4, e k hk]⟩
/-- a store elsewhere -/
theorem OwnT.apart {w : World} {lo hi n t : Nat} {ao : Option Addr} {f : Nat → Value} (h : OwnT w lo hi ao n t f) {p : Addr} (hp : ∀ b c, ao = some ⟨b, 0, none⟩ → lo ≤ b → b < hi → w.heap[b]? = some (.cells c t (0, 0)) → b ≠ p.block) (v : Value) : OwnT (w.setCell p v) lo hi ao n t f := fun k hk => by
  obtain ⟨b, c, e, h1, h2, h3, h4⟩ := h k hk
  exact ⟨b, c, e, h1, h2, (Below.heap_setCell w p v b (hp b c e h1 h2 h3)).trans h3, h4⟩
/-- a store into it -/
theorem OwnT.store {w : World} {lo hi n t b j : Nat} {f : Nat → Value} (h : OwnT w lo hi (some ⟨b, 0, none⟩) n t f) (v : Value) : OwnT (w.setCell ⟨b, j, none⟩ v) lo hi (some ⟨b, 0, none⟩) n t (fun k => if k = j then v else f k) := fun k hk => by
  obtain ⟨b', c, e, h1, h2, h3, h4⟩ := h k hk
  obtain rfl : b = b' := by simpa using e
  refine ⟨b, c.setIfInBounds j v, rfl, h1, h2, ?_, ?_⟩
  · simp [World.setCell, Array.getElem?_modify, h3]
  · show _ = some (if k = j then v else f k)
    rw [Array.getElem?_setIfInBounds]
    have hkc : k < c.size := (Array.getElem?_eq_some_iff.1 h4).1
    by_cases ej : j = k
    · subst ej; simp [hkc]
    · rw [if_neg ej, if_neg (fun e => ej e.symm)]; exact h4

theorem OwnT.ofOwns {w : World} {lo n t : Nat} {v : Value} {f : Nat → Value} (h : w.ownsRow lo t 1 v n ((List.range n).map f)) : ∃ ao cap, v = .slice ao n cap ∧ OwnT w lo w.heap.size ao n t f := by
  obtain ⟨h1, ⟨hv, hn⟩ | ⟨g, cap, cur, hv, hg, hh, hcap, _, hcs, htk⟩⟩ := h
  · exact ⟨none, 0, by rw [hv, hn], fun k hk => absurd hk (by omega)⟩
  · refine ⟨some ⟨g, 0, none⟩, cap, hv, fun k hk => ⟨g, cur, rfl, hg, (Array.getElem?_eq_some_iff.1 hh).1, hh, ?_⟩⟩
    have e1 : cur.toList[k]? = ((List.range n).map f)[k]? := by rw [← htk, List.getElem?_take, if_pos (by omega)]
    simp only [Array.getElem?_toList] at e1
    rw [e1]
    simp [hk]

/-- the cells of a slice, as append reads them -/
theorem news_of_sl {w : World} {x : Addr} {n : Nat} {f : Nat → Value} (h : SlAt w (some x) n f) : ∀ j u, ((List.range n).map f)[j]? = some u → w.cell? (x.add j) = some u := fun j u hu => by
  have hj : j < n := by
    have := (List.getElem?_eq_some_iff.1 hu).1
    simpa using this
  obtain ⟨b, o, e, hc⟩ := h j hj
  have e2 : u = f j := by simpa [hj] using hu.symm
  obtain rfl : x = ⟨b, o, none⟩ := by simpa using e
  rw [e2, ← hc]
  unfold Addr.add
  by_cases h0 : j = 0
  · subst h0; rfl
  · rw [if_neg h0]

theorem grown_none {B : Nat} {w w' : World} (h : w.grownBy w' none) (hB : B ≤ w.heap.size) : Below B w w' := ⟨h.os, h.tape, h.output, h.size, fun k hk => h.block k (by omega) (by simp)⟩

/-- behind the growth of another row -/
theorem OwnT.grown {w w' : World} {lo hi n t : Nat} {ao : Option Addr} {f : Nat → Value} {row : Option Nat} (h : OwnT w lo hi ao n t f) (hg : w.grownBy w' row) (hne : ∀ b c, lo ≤ b → b < hi → w.heap[b]? = some (.cells c t (0, 0)) → some b ≠ row) : OwnT w' lo hi ao n t f := fun k hk => by
  obtain ⟨b, c, e, h1, h2, h3, h4⟩ := h k hk
  exact ⟨b, c, e, h1, h2, (hg.block b (Array.getElem?_eq_some_iff.1 h3).1 (hne b c h1 h2 h3)).trans h3, h4⟩
theorem OwnT.drew {w : World} {lo hi n t : Nat} {ao : Option Addr} {f : Nat → Value} (h : OwnT w lo hi ao n t f) : OwnT w.drew lo hi ao n t f := h
theorem OwnT.alloc {w : World} {lo hi n t : Nat} {ao : Option Addr} {f : Nat → Value} (h : OwnT w lo hi ao n t f) (o : Obj) : OwnT (w.alloc o) lo hi ao n t f := h.grown (World.grownBy_alloc w o none) (fun _ _ _ _ _ => by simp)
/-- two rows of different make are two -/
theorem own_ne {w : World} {base e size n t b : Nat} {v : Value} {xs : List Value} {c : Array Value} (h : w.ownsRow base e size v n xs) (hb : w.heap[b]? = some (.cells c t (0, 0))) (hte : t ≠ e) : some b ≠ v.ownBlock := fun e' => by
  rcases h.2 with ⟨rfl, _⟩ | ⟨g, cap, cur, rfl, _, hgb, _⟩
  · simp [Value.ownBlock] at e'
  · obtain rfl : b = g := by simpa [Value.ownBlock] using e'
    rw [hgb] at hb
    cases hb
    exact hte rfl

theorem range_map_len (n : Nat) (f : Nat → Value) : ((List.range n).map f).length = n * 1 := by simp
theorem one_ints (n : Nat) (f : Nat → Int) : ∀ u ∈ (List.range n).map (fun k => Value.int .i64 (f k)), u.oneCell' = true := by
  intro u hu
  obtain ⟨k, _, rfl⟩ := List.mem_map.1 hu
  rfl
theorem one_bools (n : Nat) (f : Nat → Bool) : ∀ u ∈ (List.range n).map (fun k => Value.bool (f k)), u.oneCell' = true := by
  intro u hu
  obtain ⟨k, _, rfl⟩ := List.mem_map.1 hu
  rfl

end Go.Proofs.YtachkoledebanabGreatDoor

namespace Go.Proofs.YtachkoledebanabGreatDoor
open Go.RowKit

def openTxt (o : Bool) : List UInt8 := if o then [111, 112, 101, 110] else [115, 104, 117, 116]
theorem head_open (o : Bool) : headTxt o = openTxt o ++ [32, 108, 97, 109, 112, 115, 32] := rfl
theorem dec_one {n : Nat} (h : n < 10) : dec n = [UInt8.ofNat (48 + n)] := by
  unfold dec
  by_cases e : n = 0
  · subst e; rfl
  · rw [if_neg e, decP_pos (by omega), show n / 10 = 0 by omega, decP_zero]
    unfold dig
    rw [show n % 10 = n by omega]
    rfl
/-- a lamp's sign -/
def sgb (f : Nat → Bool) (j : Nat) : UInt8 := if f j then UInt8.ofNat (48 + j) else 45
theorem lampSg4 (f : Nat → Bool) : lampTxt f 4 = [sgb f 0, sgb f 1, sgb f 2, sgb f 3] := by
  have k : ∀ j, j < 10 → (if f j then dec j else [45]) = [sgb f j] := by
    intro j hj
    unfold sgb
    split
    · exact dec_one hj
    · rfl
  simp only [lampTxt]
  rw [k 0 (by omega), k 1 (by omega), k 2 (by omega), k 3 (by omega)]
  rfl
def sgi (b : Bool) (q : Nat) : Int := if b then 48 + q else 45
theorem sgb_nat (f : Nat → Bool) {j : Nat} (h : j < 10) : ((sgb f j).toNat : Int) = sgi (f j) j := by
  unfold sgb sgi
  split
  · rw [UInt8.toNat_ofNat_of_lt' (show 48 + j < 256 by omega)]; omega
  · rfl

theorem openWord_any (o : Bool) (w : World) :
    Calls Tryz.prog 87 #[.bool o] w fun e w' => e = .returned (.string (bs (openTxt o))) ∧ w' = w := by
  go_enter Tryz.func87, Tryz.ntmps87
  cases o
  all_goals
    go_wp2
    go_ret
    exact ⟨rfl, rfl⟩
theorem lampSign_any (q : Nat) (b : Bool) (w : World) (hq : q < 10) :
    Calls Tryz.prog 88 #[.int .i64 q, .bool b] w fun e w' => e = .returned (.int .u8 (sgi b q)) ∧ w' = w := by
  go_enter Tryz.func88, Tryz.ntmps88
  cases b
  · go_wp2
    go_ret
    exact ⟨rfl, rfl⟩
  · go_wp2
    go_ret
    refine ⟨?_, rfl⟩
    unfold sgi
    rw [if_pos rfl]
    first | rfl | go_num

theorem Tryz.iByte : (Tryz.prog.info? 5).map (fun i => (i.zero, i.size, i.bytes)) = some (some (.int .u8 0), 1, 1) := by kernel_rfl
theorem conv_four (w : World) (b : Nat) (f : Nat → Bool) (h : w.rowIs b 5 4 (fun j => .int .u8 (sgi (f j) j))) : (convert 53 9 (.slice (some ⟨b, 0, none⟩) 4 4)).run Tryz.prog w = .ok (.string (bs (lampTxt f 4))) w := by
  rw [lampSg4]
  refine run_convert_bytes_back (P := Tryz.prog) w 53 9 5 ⟨b, 0, none⟩ 4 [sgb f 0, sgb f 1, sgb f 2, sgb f 3] Tryz.underlying53 Tryz.underlying5 Tryz.underlying9 (fun j hj => ?_)
  have hj4 : j < 4 := by simpa using hj
  have h1 := h.cell hj4
  have h2 : w.cell? ((⟨b, 0, none⟩ : Addr).add j) = w.cell? ⟨b, j, none⟩ := by
    by_cases e : j = 0
    · subst e; rfl
    · simp [Addr.add, e]
  rw [h2, h1]
  have k : ∀ i, i < 4 → some (Value.int .u8 (sgi (f i) i)) = some (Value.int .u8 ((sgb f i).toNat : Int)) := fun i hi => by rw [sgb_nat f (by omega)]
  obtain rfl | rfl | rfl | rfl : j = 0 ∨ j = 1 ∨ j = 2 ∨ j = 3 := by omega
  · exact k 0 (by omega)
  · exact k 1 (by omega)
  · exact k 2 (by omega)
  · exact k 3 (by omega)

set_option maxHeartbeats 1000000 in
theorem lampsWord_any (ao : Option Addr) (cap : Nat) (f : Nat → Bool) (w : World) (h : SlAt w ao 4 (fun j => .bool (f j))) :
    Calls Tryz.prog 89 #[.slice ao 4 cap] w fun e w' => e = .returned (.string (bs (lampTxt f 4))) ∧ Below w.heap.size w w' := by
  have hmk := run_make_row' (P := Tryz.prog) 53 5 (.int .u8 0) 1 Tryz.underlying53 Tryz.iByte rfl .i64 .i64 4 (by omega) (by omega)
  replace hmk := fun W => hmk W
  rw [show ((4 : Nat) : Int) = 4 from rfl] at hmk
  go_enter Tryz.func89, Tryz.ntmps89
  go_wp2
  obtain ⟨W, hW⟩ : ∃ W, W = w.alloc (.cells (madeCells #[.int .u8 0] 4) 5) := ⟨_, rfl⟩
  have r2 : W.rowIs w.heap.size 5 4 (fun _ => .int .u8 0) := by
    subst hW
    exact World.rowIs_made w (.int .u8 0) 4 5
  have bW : Below w.heap.size w W := by subst hW; exact (Below.refl _ _).alloc (Nat.le_refl _) _
  have HH : Hid (SlAt w ao 4 (fun j => .bool (f j))) := h
  rw [← hW]
  clear h hmk hW
  go_loopw [11] (fun t wr => ∃ q : Nat, q ≤ 4 ∧ t = .int .i64 q ∧ wr.rowIs w.heap.size 5 4 (fun j => if j < q then .int .u8 (sgi (f j) j) else .int .u8 0) ∧ Below w.heap.size w wr) (fun t _ => 4 - (intOf t).toNat)
  case atStart => exact ⟨0, by omega, rfl, r2.congr (fun i _ => by simp), bW⟩
  case round =>
    clear r2 bW
    obtain ⟨q, hq, rfl, hrow, hB⟩ := hrel
    by_cases hlt : q < 4
    · obtain ⟨b, o, rfl, hc⟩ := (HH.out.keep hB) q hlt
      replace hc : wr.cell? ⟨b, o + q, none⟩ = some (.bool (f q)) := hc
      have hcell := hrow.cell hlt
      have hfz := hrow.frozen q
      have HRw : Hid _ := row_step (f := fun j => .int .u8 (sgi (f j) j)) hrow
      have HB : Hid _ := hB.setCell (p := ⟨w.heap.size, q, none⟩) (Nat.le_refl _) (.int .u8 (sgi (f q) q))
      clear hrow hB
      go_wp2_with fail
      refine (lampSign_any q (f q) wr (by omega)).mono ?_
      rintro e w' ⟨rfl, hw'⟩
      have hw' := hw'.symm
      subst hw'
      go_wp2
      go_roundw
      case rel => exact ⟨q + 1, by omega, by go_num, HRw.out, HB.out⟩
      case measure => simp [intOf]; omega
    · obtain rfl : q = 4 := by omega
      have hcv := conv_four wr w.heap.size f (hrow.congr (fun i hi => by rw [if_pos hi]))
      clear hrow
      go_wp2
      go_ret
      exact ⟨rfl, hB⟩

end Go.Proofs.YtachkoledebanabGreatDoor
