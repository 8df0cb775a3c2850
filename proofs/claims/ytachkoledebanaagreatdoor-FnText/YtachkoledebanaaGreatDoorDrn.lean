/-
  drain: the program's: the worklist goes on until it is empty.
-/
import Derived.Test.YtachkoledebanaaGreatDoorAsk
import Derived.Deep.LoopGhost
namespace Go.Proofs.YtachkoledebanaaGreatDoor
open Go.RowKit Go.WideMaps Go.Maps

/-- another queue -/
theorem Bd.setq {w0 w : World} {X : Nat} {A : BA} {d : RD} {sh : Nat → Int} {q q' : List Int} {v' : Value} (hX : X < w0.heap.size) (h : Bd w0 X A d sh q w) (hq : QAt w (w0.heap.size + 1) v' q') : Bd w0 X A d sh q' (w.setCell ⟨X, 5, none⟩ v') := by
  obtain ⟨on, ⟨qv, h1, -⟩, h3⟩ := h
  refine ⟨on.setCell (p := ⟨X, 5, none⟩) (Nat.le_refl _) (Nat.lt_succ_self _) v', ⟨v', ?_, ?_⟩, ?_⟩
  · have := h1.set 5 v'
    simpa [bcells] using this
  · exact hq.only (lo' := X) (hi' := X + 1) ((Only.refl X (X + 1) w).setCell (p := ⟨X, 5, none⟩) (Nat.le_refl _) (Nat.lt_succ_self _) v') (by omega)
  · exact h3.setOther (by show w0.heap.size ≠ X; omega) v'

/-- what settling comes to -/
def Settled (w0 : World) (X : Nat) (A : BA) (d : RD) (w' : World) : Prop := ∃ sh, Least d d.nN (wish d sh) sh ∧ (∀ i, i < d.nN → -1 ≤ sh i ∧ sh i ≤ 3) ∧ Bd w0 X A d sh [] w'

theorem load_bd {n : Nat} {sh : Nat → Int} {q : List Int} {g : Nat} (hg : load n sh q ≤ g) : q.length ≤ g := by unfold load at hg; omega

/-- behind an ask less is left to do -/
theorem Asked.on {w0 w' : World} {X : Nat} {A : BA} {d : RD} {sh : Nat → Int} {t : List Int} {i : Nat} (hin : Inside d d.nN) (hn : d.nN ≤ 60) (hi : i < d.nN) (hw : Wl d d.nN sh ((i : Int) :: t)) (h : Asked w0 X A d sh t i w') :
    ∃ (sh' : Nat → Int) (q' : List Int), load d.nN sh' q' < load d.nN sh ((i : Int) :: t) ∧ Wl d d.nN sh' q' ∧ Bd w0 X A d sh' q' w' := by
  rcases h with ⟨he, hB⟩ | ⟨hne, hB⟩
  · exact ⟨sh, t, by simp [load], hw.pop he, hB⟩
  · refine ⟨_, _, ?_, hw.rise hin hi rfl, hB⟩
    have h1 := gap_raise hin hw hi rfl hne
    have h2 := bh_le d i d.nN
    simp only [load, List.length_append, List.length_cons]
    omega

/-- a queue without room is empty -/
theorem QAt.bare {w : World} {lo b o o' : Nat} {xs : List Int} (h : QAt w lo (.slice (some ⟨b, o', none⟩) xs.length 0) xs) (hl : xs.length ≤ 0) : QAt w lo (.slice (some ⟨b, o, none⟩) xs.length 0) xs := by
  obtain rfl : xs = [] := List.eq_nil_of_length_eq_zero (by omega)
  rcases h with ⟨e, _⟩ | ⟨b', o'', cap, e, h1, h2, h3, h4, h5⟩
  · cases e
  · injection e with e _ e3
    injection e with e
    injection e with e _
    subst e
    exact Or.inr ⟨b, o, 0, rfl, h1, h2, Nat.zero_le _, fun j hj => absurd hj (Nat.not_lt_zero _), fun j hj => absurd hj (Nat.not_lt_zero _)⟩

set_option maxHeartbeats 2000000 in
theorem drain_any (w0 : World) (X : Nat) (A : BA) (d : RD) (sh : Nat → Int) (q : List Int) (w : World) (hn : d.nN ≤ 60) (hin : ∀ i, i < d.nN → -1 ≤ d.nx i ∧ d.nx i < d.nN) (hq : q.length ≤ 60) (hwl : Wl d d.nN sh q) (c : Array Value) (hX : Blk w0 X c 94) (hs : Stat w0 X A d) (h : Bd w0 X A d sh q w) :
    Calls Tryz.prog 64 #[.pointer (some ⟨X, 5, none⟩), .func (.func 65) #[.pointer (some ⟨X, 0, none⟩)] #[]] w fun e w' => e = .returned (.tuple #[]) ∧ Settled w0 X A d w' := by
  have hXl := hX.lt
  have HS : Hid (Blk w0 X c 94 ∧ Stat w0 X A d) := ⟨hX, hs⟩
  have HN : Hid (∀ i, i < d.nN → -1 ≤ d.nx i ∧ d.nx i < d.nN) := hin
  have HW : Hid (Wl d d.nN sh q) := hwl
  have hld : load d.nN sh q ≤ 40000 := by have := (gap_le hwl).2; unfold load; omega
  clear hs hX hin hwl
  go_enter Tryz.func64, Tryz.ntmps64
  go_wp2
  go_loopg [4] 40000 (fun g v4 wr => ∃ (sh : Nat → Int) (q : List Int), g ≤ 40000 ∧ load d.nN sh q ≤ g ∧ Wl d d.nN sh q ∧ Bd w0 X A d sh q wr)
  case atStart => exact ⟨sh, q, Nat.le_refl _, hld, HW.out, h⟩
  case round =>
    clear h HW hld hq
    obtain ⟨sh, q, hg4, hg, hwl, hB⟩ := hrel
    have HB : Hid (Bd w0 X A d sh q wr) := hB
    have hql := load_bd hg
    obtain ⟨qv, hbk, hqa⟩ := hB.bk
    have x5 := hbk.cell 5
    have f5 := hbk.free 5
    unfold bcells at x5
    simp at x5
    clear hbk hB
    cases q with
    | nil =>
      obtain ⟨ao, cap, rfl⟩ := hqa.len
      have HE : Hid (Settled w0 X A d wr) := ⟨sh, hwl.done, hwl.bd, HB.out⟩
      clear hqa hwl hg
      go_wp2
      go_end0
      exact ⟨rfl, HE.out⟩
    | cons x t =>
      obtain ⟨b, o, cap, rfl, hcap, hc, hqt⟩ := hqa.head
      have HX : Hid (Wl d d.nN sh (x :: t)) := hwl
      have hx := hwl.qi x (List.mem_cons_self ..)
      obtain ⟨i, rfl⟩ : ∃ i : Nat, x = i := ⟨x.toNat, by omega⟩
      have hi : i < d.nN := by omega
      have hxb : b ≠ X := by
        rcases hqt with ⟨e, _⟩ | ⟨b', o', cap', e, h1, _⟩
        · cases e
        · injection e with e
          injection e with e
          injection e with e _
          omega
      have HQ : Hid (load d.nN sh ((i : Int) :: t) ≤ gk) := hg
      have HK : Hid (∀ W, Bd w0 X A d sh t W → Calls Tryz.prog 65 #[.pointer (some ⟨X, 0, none⟩), .int .i64 i] W fun e w' => e = .returned (.tuple #[]) ∧ ∃ (sh' : Nat → Int) (q' : List Int), load d.nN sh' q' < gk ∧ Wl d d.nN sh' q' ∧ Bd w0 X A d sh' q' w') := fun W hW =>
        (ask_any w0 X A d sh t W i hi hn HN.out hwl.bd (by simp at hql; omega) c HS.out.1 HS.out.2 hW).mono fun e w' hh => by
          obtain ⟨h1, h2⟩ := hh
          obtain ⟨sh', q', h3, h4, h5⟩ := h2.on (fun i hi => (HN.out i hi).2) hn hi HX.out
          exact ⟨h1, sh', q', Nat.lt_of_lt_of_le h3 HQ.out, h4, h5⟩
      simp at hql
      clear hqa hwl hg
      by_cases hcp : cap = 0
      · subst hcp
        obtain rfl : t = [] := List.eq_nil_of_length_eq_zero (by omega)
        have HP : Hid (Bd w0 X A d sh [] (wr.setCell ⟨X, 5, none⟩ (.slice (some ⟨b, o, none⟩) 0 0))) := HB.out.setq hXl (hqt.bare (o := o) hcap)
        clear hqt
        go_wp2_with fail
        refine (HK.out _ HP.out).mono ?_
        rintro e w3 ⟨rfl, sh', q', hlt, hw, hB⟩
        have HF : Hid (load d.nN sh' q' < gk ∧ Wl d d.nN sh' q' ∧ Bd w0 X A d sh' q' w3) := ⟨hlt, hw, hB⟩
        clear hw hB x5 f5 hc HP HK HX HB
        go_wp2
        go_roundg (load d.nN sh' q')
        case measure => exact hlt
        case rel => exact ⟨sh', q', by omega, Nat.le_refl _, HF.out.2.1, HF.out.2.2⟩
      · have HP : Hid (Bd w0 X A d sh t (wr.setCell ⟨X, 5, none⟩ (.slice (some ⟨b, o + 1, none⟩) t.length cap))) := HB.out.setq hXl hqt
        clear hqt
        go_wp2_with fail
        refine (HK.out _ HP.out).mono ?_
        rintro e w3 ⟨rfl, sh', q', hlt, hw, hB⟩
        have HF : Hid (load d.nN sh' q' < gk ∧ Wl d d.nN sh' q' ∧ Bd w0 X A d sh' q' w3) := ⟨hlt, hw, hB⟩
        clear hw hB x5 f5 hc HP HK HX HB
        go_wp2
        go_roundg (load d.nN sh' q')
        case measure => exact hlt
        case rel => exact ⟨sh', q', by omega, Nat.le_refl _, HF.out.2.1, HF.out.2.2⟩

end Go.Proofs.YtachkoledebanaaGreatDoor
