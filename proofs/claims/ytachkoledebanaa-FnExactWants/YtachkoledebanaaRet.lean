/-
  A right row; a list of ints that a call hands back in new memory; small facts on lists and appends.
-/
import Derived.Test.YtachkoledebanaaOk
import Derived.Test.YtachkoledebanaaMark
namespace Go.Proofs.Ytachkoledebanaa
open Go.RowKit

structure Right (d : RD) : Prop where
  s : OkSizes d
  w : OkWays d
  l : OkLamps d
theorem IsOk.zero {d : RD} {r : Int} (h : IsOk d r) (k : Right d) : r = 0 := h.one (.right k.s k.w k.l)
theorem IsOk.rt {d : RD} (h : IsOk d 0) : Right d := by
  rcases h with ⟨_, e⟩ | ⟨_, _, e⟩ | ⟨_, _, _, e⟩ | ⟨a, b, c, _⟩
  · omega
  · omega
  · omega
  · exact ⟨a, b, c⟩

/-- the call returns the list xs, in new memory -/
def RetInts (e : Ending) (lo : Nat) (w' : World) (xs : List Int) : Prop :=
  ∃ ao cap, e = .returned (.slice ao xs.length cap) ∧ OwnS w' lo w'.heap.size ao xs.length (fun k => .int .i64 (xs.getD k 0))

theorem RetInts.ofOwns {e : Ending} {w' : World} {lo : Nat} {v : Value} {xs : List Int} (he : e = .returned v) (h : w'.ownsRow lo 3 1 v xs.length (xs.map (Value.int .i64))) : RetInts e lo w' xs := by
  obtain ⟨h1, ⟨hv, hn⟩ | ⟨g, cap, cur, hv, hg, hh, hcap, _, hcs, htk⟩⟩ := h
  · refine ⟨none, 0, by rw [he, hv, hn], fun k hk => absurd hk (by omega)⟩
  · refine ⟨some ⟨g, 0, none⟩, cap, by rw [he, hv], fun k hk => ⟨g, rfl, hg, (Array.getElem?_eq_some_iff.1 hh).1, ?_, ?_⟩⟩
    · have e1 : cur.toList[k]? = (xs.map (Value.int .i64))[k]? := by
        rw [← htk, List.getElem?_take, if_pos (by omega)]
      simp only [World.cell?, hh]
      simp only [Array.getElem?_toList] at e1
      simp only [Option.isSome_none, Bool.false_eq_true, if_false]
      rw [e1]
      simp [hk]
    · simp [World.frozen?, hh]

theorem RetInts.wide {e : Ending} {w' : World} {lo lo' : Nat} {xs : List Int} (h : RetInts e lo w' xs) (hl : lo' ≤ lo) : RetInts e lo' w' xs := by
  obtain ⟨ao, cap, he, ho⟩ := h
  exact ⟨ao, cap, he, ho.wide hl (Nat.le_refl _)⟩

theorem RetInts.nil {e : Ending} {w' : World} {lo : Nat} (he : e = .returned (.slice none 0 0)) : RetInts e lo w' [] :=
  ⟨none, 0, he, fun _ hk => absurd hk (Nat.not_lt_zero _)⟩

/-- behind an append onto what the call itself has made -/
theorem app_below {B e size n : Nat} {w wr w2 : World} {v : Value} {xs : List Value} {o : Obj} (hb : Below B w wr) (hB : B ≤ wr.heap.size) (hown : wr.ownsRow B e size v n xs) (hg : (wr.alloc o).grownBy w2 v.ownBlock) : Below B w w2 :=
  (hb.alloc hB o).grown hg (by simp; omega) (fun j hj => (hown.lt j hj).1)

theorem own_form {w : World} {lo : Nat} {v : Value} {xs : List Int} (h : w.ownsRow lo 3 1 v xs.length (xs.map (Value.int .i64))) : ∃ ao cap, v = .slice ao xs.length cap ∧ SlAt w ao xs.length (fun k => .int .i64 (xs.getD k 0)) := by
  obtain ⟨ao, cap, he, ho⟩ := RetInts.ofOwns (e := .returned v) rfl h
  exact ⟨ao, cap, by injection he, ho.sl⟩

/-- a slice's length -/
def lenOf : Value → Nat | .slice _ n _ => n | _ => 0
theorem lenOf_owns {w : World} {base e size n : Nat} {v : Value} {xs : List Value} (h : w.ownsRow base e size v n xs) : lenOf v = n := by
  rcases h.2 with ⟨rfl, rfl⟩ | ⟨g, cap, cur, rfl, _⟩ <;> rfl

/-- the first j of f, as a list -/
def lst (f : Nat → Int) (j : Nat) : List Int := (List.range j).map f
theorem lst_len (f : Nat → Int) (j : Nat) : (lst f j).length = j := by simp [lst]
theorem lst_snoc (f : Nat → Int) (j : Nat) : lst f (j + 1) = lst f j ++ [f j] := by simp [lst, List.range_succ]
theorem lst_get (f : Nat → Int) (j k : Nat) (h : k < j) : (lst f j).getD k 0 = f k := by simp [lst, h]

theorem own_lst {w : World} {lo j : Nat} {v : Value} {f : Nat → Int} (h : w.ownsRow lo 3 1 v (lst f j).length ((lst f j).map (Value.int .i64))) : ∃ ao cap, v = .slice ao j cap ∧ OwnS w lo w.heap.size ao j (fun k => .int .i64 (f k)) := by
  obtain ⟨ao, cap, he, ho⟩ := RetInts.ofOwns (e := .returned v) rfl h
  rw [lst_len] at he ho
  exact ⟨ao, cap, by injection he, ho.congr fun k hk => by rw [lst_get f j k hk]⟩

theorem lst_congr {f g : Nat → Int} {n : Nat} (h : ∀ i, i < n → f i = g i) : lst f n = lst g n := List.map_congr_left fun i hi => h i (List.mem_range.1 hi)

theorem RetInts.lst {w' : World} {lo n cap : Nat} {ao : Option Addr} {f : Nat → Int} {e : Ending} (he : e = .returned (.slice ao n cap)) (h : OwnS w' lo w'.heap.size ao n (fun k => .int .i64 (f k))) : RetInts e lo w' (lst f n) :=
  ⟨ao, cap, by rw [lst_len]; exact he, by rw [lst_len]; exact h.congr fun k hk => by rw [lst_get f n k hk]⟩

end Go.Proofs.Ytachkoledebanaa
