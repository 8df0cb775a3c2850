import Derived.Test.YtachkoledebanabGreatDoorWriEtc
namespace Go.Proofs.YtachkoledebanabGreatDoor
open Go.RowKit

theorem linesA_app : ∀ (x cur y : List UInt8), linesA cur (x ++ y) = ((linesA cur x).1 ++ (linesA (linesA cur x).2 y).1, (linesA (linesA cur x).2 y).2)
  | [], cur, y => by simp [linesA]
  | c :: x, cur, y => by
    show (if c = 10 then (cur :: (linesA [] (x ++ y)).1, (linesA [] (x ++ y)).2) else linesA (cur ++ [c]) (x ++ y)) = _
    have e : linesA cur (c :: x) = if c = 10 then (cur :: (linesA [] x).1, (linesA [] x).2) else linesA (cur ++ [c]) x := rfl
    rw [e]
    split
    · rw [linesA_app x [] y]; rfl
    · rw [linesA_app x (cur ++ [c]) y]

theorem dig_nonl {l : List UInt8} (h : ∀ c ∈ l, isDig c) : NoNl l := fun c hc e => by
  have := h c hc
  unfold isDig at this
  rw [e] at this
  have h1 : (10 : UInt8).toNat = 10 := rfl
  omega
theorem NoNl.app {x y : List UInt8} (h : NoNl x) (k : NoNl y) : NoNl (x ++ y) := fun c hc => by
  rcases List.mem_append.1 hc with hc | hc
  · exact h c hc
  · exact k c hc
theorem lamp_nonl (f : Nat → Bool) : ∀ k, NoNl (lampTxt f k)
  | 0 => fun c hc => by simp [lampTxt] at hc
  | k + 1 => (lamp_nonl f k).app fun c hc => by
    split at hc
    · exact dig_nonl (dec_digs k) c hc
    · obtain rfl : c = 45 := by simpa using hc
      decide
theorem head_nonl (o : Bool) : NoNl (headTxt o) := fun c hc e => by
  subst e
  cases o
  · revert hc; decide
  · revert hc; decide
theorem next_nonl (n : Int) : NoNl (nextTxt n) := by
  unfold nextTxt
  split
  · exact NoNl.app (fun c hc e => by subst e; revert hc; decide) (dig_nonl (dec_digs _))
  · exact fun c hc e => by subst e; revert hc; decide
theorem line_nonl (d : RD) (i : Nat) : NoNl (lineTxt d i) :=
  ((((head_nonl _).app (lamp_nonl _ _)).app (next_nonl _)).app (fun c hc e => by subst e; revert hc; decide)).app (dig_nonl (dec_digs _))

/-- a signal of a row, as a line tells it -/
def sgAt (d : RD) (i : Nat) : Sg := ⟨d.op i, fun a => decide (a < 4) && d.wk i a, d.nx i, d.fr i⟩
def sgs (d : RD) (n : Nat) : List Sg := (List.range n).map (sgAt d)
theorem sgs_len (d : RD) (n : Nat) : (sgs d n).length = n := by simp [sgs]
theorem sgs_get (d : RD) {n i : Nat} (h : i < n) : (sgs d n).getD i nilSg = sgAt d i := by simp [sgs, h]
theorem sgs_snoc (d : RD) (n : Nat) : sgs d (n + 1) = sgs d n ++ [sgAt d n] := by simp [sgs, List.range_succ]
theorem lampTxt_congr {f g : Nat → Bool} : ∀ k, (∀ a, a < k → f a = g a) → lampTxt f k = lampTxt g k
  | 0, _ => rfl
  | k + 1, h => by
    unfold lampTxt
    rw [lampTxt_congr k (fun a ha => h a (by omega)), h k (by omega)]
theorem sg_line (d : RD) (i : Nat) : ltxt (sgAt d i) = lineTxt d i := by
  show headTxt (d.op i) ++ lampTxt (fun a => decide (a < 4) && d.wk i a) 4 ++ nextTxt (d.nx i) ++ _ ++ dec (d.fr i).toNat = headTxt (d.op i) ++ lampTxt (d.wk i) 4 ++ nextTxt (d.nx i) ++ _ ++ dec (d.fr i).toNat
  rw [lampTxt_congr 4 (f := fun a => decide (a < 4) && d.wk i a) (g := d.wk i) (fun a ha => by simp [ha])]
theorem Right.sg {d : RD} (h : Right d) {i : Nat} (hi : i < d.nN) : IsLine (lineTxt d i) (sgAt d i) := by
  have h1 : OkWay d i := h.w i hi
  unfold OkWay at h1
  have h2 := h.s.nN
  refine ⟨⟨h1.1.1, by show d.nx i < _; omega, h1.2.1, by show d.fr i < _; omega, fun a ha => ?_⟩, sg_line d i⟩
  show (decide (a < 4) && d.wk i a) = false
  rw [decide_eq_false (by omega)]
  rfl
theorem row_lines {d : RD} (h : Right d) : ∀ k, k ≤ d.nN → (linesA [] (rowTxt d k)).2 = [] ∧ Reads (linesA [] (rowTxt d k)).1 (sgs d k)
  | 0, _ => ⟨rfl, rfl⟩
  | k + 1, hk => by
    obtain ⟨h1, h2⟩ := row_lines h k (by omega)
    have e : rowTxt d (k + 1) = rowTxt d k ++ (lineTxt d k ++ [10]) := rfl
    have e2 : linesA [] (lineTxt d k ++ [10]) = ([lineTxt d k], []) := by
      have := linesA_cons (x := lineTxt d k) (y := []) (line_nonl d k)
      simpa [linesA] using this
    rw [e, linesA_app, h1, e2]
    refine ⟨rfl, ?_⟩
    rw [sgs_snoc]
    exact h2.snoc (h.sg (by omega))
theorem rowsOf_right {d : RD} (h : Right d) : Right (rowsOf (sgs d d.nN)) := by
  have hl := sgs_len d d.nN
  refine ⟨⟨by show (sgs d d.nN).length ≤ 60; rw [hl]; exact h.s.nN, rfl, rfl, rfl⟩, fun i hi => ?_, fun i _ => rfl⟩
  have hi' : i < d.nN := by rw [← hl]; exact hi
  have h1 : OkWay d i := h.w i hi'
  unfold OkWay at h1 ⊢
  show (-1 ≤ ((sgs d d.nN).getD i nilSg).nx ∧ ((sgs d d.nN).getD i nilSg).nx < ((sgs d d.nN).length : Int)) ∧ 0 ≤ ((sgs d d.nN).getD i nilSg).fr ∧ ((sgs d d.nN).getD i nilSg).fr ≤ 1000000
  rw [sgs_get d hi', hl]
  exact h1
/-- the text of a right row tells it -/
theorem told_back {d : RD} (h : Right d) : IsTold (rowTxt d d.nN) 0 0 (sgs d d.nN) := by
  obtain ⟨h1, h2⟩ := row_lines h d.nN (Nat.le_refl _)
  have h3 := rowTxt_len h d.nN (Nat.le_refl _)
  have h4 := h.s.nN
  exact Or.inr (Or.inr (Or.inr ⟨by omega, _, h2, h1, Or.inr ⟨rowsOf_right h, rfl, rfl, rfl⟩⟩))
/-- .. and it lies as that row lies -/
theorem RowAt.back {w : World} {a1 a2 a3 a4 : Option Addr} {A : Nat → Option Addr} {C : Nat → Nat} {d : RD} (h : Right d) (k : RowAt w a1 a2 a3 a4 A C (rowsOf (sgs d d.nN))) : RowAt w a1 a2 a3 a4 A C d := by
  have hl := sgs_len d d.nN
  have n1 : (rowsOf (sgs d d.nN)).nN = d.nN := hl
  have n2 : (rowsOf (sgs d d.nN)).nF = d.nF := hl.trans h.s.nF.symm
  have n3 : (rowsOf (sgs d d.nN)).nO = d.nO := hl.trans h.s.nO.symm
  have n4 : (rowsOf (sgs d d.nN)).nW = d.nW := hl.trans h.s.nW.symm
  have hlt : ∀ {i n : Nat}, n = d.nN → i < n → i < d.nN := fun e hi => e ▸ hi
  obtain ⟨k1, k2, k3, k4, k5⟩ := k
  rw [n1] at k1
  rw [n2] at k2
  rw [n3] at k3
  rw [n4] at k4
  refine ⟨k1.congr fun i hi => ?_, k2.congr fun i hi => ?_, k3.congr fun i hi => ?_, k4.congr fun i hi => ?_, fun i hi => ?_⟩
  · show Value.int .i64 ((sgs d d.nN).getD i nilSg).nx = _
    rw [sgs_get d hi]; rfl
  · show Value.int .i64 ((sgs d d.nN).getD i nilSg).fr = _
    rw [sgs_get d (hlt h.s.nF hi)]; rfl
  · show Value.bool ((sgs d d.nN).getD i nilSg).op = _
    rw [sgs_get d (hlt h.s.nO hi)]; rfl
  · show Value.slice (A i) 4 (C i) = _
    rw [h.l i hi]
  · have k := k5 i (by rw [n4]; exact hi)
    have k' : SlAt w (A i) 4 (fun j => .bool (((sgs d d.nN).getD i nilSg).wk j)) := k
    rw [h.l i hi]
    refine k'.congr fun j hj => ?_
    rw [sgs_get d (hlt h.s.nW hi)]
    show Value.bool (decide (j < 4) && d.wk i j) = _
    simp [hj]

end Go.Proofs.YtachkoledebanabGreatDoor

namespace Go.Proofs.YtachkoledebanabGreatDoor
open Go.RowKit

/-- the bytes from a up to k -/
def cutT (xs : List UInt8) (a k : Nat) : List UInt8 := (xs.drop a).take (k - a)
theorem cutT_nil (xs : List UInt8) (a : Nat) : cutT xs a a = [] := by simp [cutT]
theorem cutT_succ {xs : List UInt8} {a k : Nat} (ha : a ≤ k) (hk : k < xs.length) : cutT xs a (k + 1) = cutT xs a k ++ [xs.getD k 0] := by
  unfold cutT
  rw [show k + 1 - a = (k - a) + 1 by omega, List.take_add_one]
  congr 1
  rw [List.getElem?_drop, show a + (k - a) = k by omega]
  simp [hk]
theorem cutT_len {xs : List UInt8} {a k : Nat} (hk : k ≤ xs.length) : (cutT xs a k).length = k - a := by
  unfold cutT
  rw [List.length_take, List.length_drop]
  omega
theorem cutT_end {xs : List UInt8} {a : Nat} (ha : a ≤ xs.length) : cutT xs a xs.length = [] ↔ a = xs.length := by
  constructor
  · intro h
    have := cutT_len (xs := xs) (a := a) (Nat.le_refl _)
    rw [h] at this
    simp at this
    omega
  · intro h
    rw [h]
    exact cutT_nil _ _

/-- behind k bytes: the lines ls are signals, the last began at a -/
structure Got (xs : List UInt8) (k a : Nat) (ls : List (List UInt8)) (gs : List Sg) : Prop where
  ak : a ≤ k
  kn : k ≤ xs.length
  li : linesA [] (xs.take k) = (ls, cutT xs a k)
  rd : Reads ls gs
  sm : gs.length ≤ k
theorem Got.start (xs : List UInt8) : Got xs 0 0 [] [] := ⟨Nat.le_refl _, Nat.zero_le _, by simp [linesA, cutT], rfl, Nat.le_refl _⟩
theorem take_succ' {xs : List UInt8} {k : Nat} (hk : k < xs.length) : xs.take (k + 1) = xs.take k ++ [xs.getD k 0] := by
  rw [List.take_add_one]
  simp [hk]
theorem Got.on {xs : List UInt8} {k a : Nat} {ls : List (List UInt8)} {gs : List Sg} (h : Got xs k a ls gs) (hk : k < xs.length) (hc : xs.getD k 0 ≠ 10) : Got xs (k + 1) a ls gs := by
  have h1 := h.ak
  have h2 := h.sm
  refine ⟨by omega, hk, ?_, h.rd, by omega⟩
  rw [take_succ' hk, linesA_app, h.li, cutT_succ h.ak hk]
  have e : linesA (cutT xs a k) [xs.getD k 0] = ([], cutT xs a k ++ [xs.getD k 0]) := by
    show (if xs.getD k 0 = 10 then _ else linesA (cutT xs a k ++ [xs.getD k 0]) []) = _
    rw [if_neg hc]
    rfl
  rw [e]
  simp
theorem Got.line {xs : List UInt8} {k a : Nat} {ls : List (List UInt8)} {gs : List Sg} (h : Got xs k a ls gs) (hk : k < xs.length) (hc : xs.getD k 0 = 10) : linesA [] (xs.take (k + 1)) = (ls ++ [cutT xs a k], []) := by
  rw [take_succ' hk, linesA_app, h.li]
  have e : linesA (cutT xs a k) [xs.getD k 0] = ([cutT xs a k], []) := by
    show (if xs.getD k 0 = 10 then (cutT xs a k :: (linesA [] []).1, (linesA [] []).2) else _) = _
    rw [if_pos hc]
    rfl
  rw [e]
theorem Got.next {xs : List UInt8} {k a : Nat} {ls : List (List UInt8)} {gs : List Sg} {g : Sg} (h : Got xs k a ls gs) (hk : k < xs.length) (hc : xs.getD k 0 = 10) (hg : IsLine (cutT xs a k) g) : Got xs (k + 1) (k + 1) (ls ++ [cutT xs a k]) (gs ++ [g]) :=
  ⟨Nat.le_refl _, hk, by rw [h.line hk hc, cutT_nil], h.rd.snoc hg, by have := h.sm; simp; omega⟩
/-- a line that is none: the first -/
theorem Got.bad {xs : List UInt8} {k a : Nat} {ls : List (List UInt8)} {gs : List Sg} (h : Got xs k a ls gs) (hx : xs.length ≤ 10000) (hk : k < xs.length) (hc : xs.getD k 0 = 10) (hg : ∀ g, ¬ IsLine (cutT xs a k) g) : IsTold xs 1 (gs.length + 1) [] := by
  have e : xs = xs.take (k + 1) ++ xs.drop (k + 1) := (List.take_append_drop _ _).symm
  have e1 : (linesA [] xs).1 = ls ++ cutT xs a k :: (linesA [] (xs.drop (k + 1))).1 := by
    conv => lhs; rw [e]
    rw [linesA_app, h.line hk hc]
    simp
  have hl := h.rd.len
  refine Or.inr (Or.inl ⟨hx, ls.length, ⟨?_, ⟨gs, ?_⟩, ?_⟩, rfl, by rw [hl], rfl⟩)
  · rw [e1]; simp
  · rw [e1]; simpa using h.rd
  · rw [e1]
    intro g q
    refine hg g ?_
    simpa using q
/-- at the end: what is left, or a row -/
theorem Got.all {xs : List UInt8} {a : Nat} {ls : List (List UInt8)} {gs : List Sg} (h : Got xs xs.length a ls gs) : linesA [] xs = (ls, cutT xs a xs.length) := by
  have := h.li
  rwa [List.take_length] at this
theorem Got.left {xs : List UInt8} {a : Nat} {ls : List (List UInt8)} {gs : List Sg} (h : Got xs xs.length a ls gs) (hx : xs.length ≤ 10000) (ha : a < xs.length) : IsTold xs 1 (gs.length + 1) [] := by
  refine Or.inr (Or.inr (Or.inl ⟨hx, gs, by rw [h.all]; exact h.rd, ?_, rfl, rfl, rfl⟩))
  rw [h.all]
  intro e
  have := (cutT_end (xs := xs) (Nat.le_of_lt ha)).1 e
  omega
theorem Got.wrong {xs : List UInt8} {ls : List (List UInt8)} {gs : List Sg} (h : Got xs xs.length xs.length ls gs) (hx : xs.length ≤ 10000) (hr : ¬ Right (rowsOf gs)) : IsTold xs 3 0 [] :=
  Or.inr (Or.inr (Or.inr ⟨hx, gs, by rw [h.all]; exact h.rd, by rw [h.all]; exact cutT_nil _ _, Or.inl ⟨hr, rfl, rfl, rfl⟩⟩))
theorem Got.row {xs : List UInt8} {ls : List (List UInt8)} {gs : List Sg} (h : Got xs xs.length xs.length ls gs) (hx : xs.length ≤ 10000) (hr : Right (rowsOf gs)) : IsTold xs 0 0 gs :=
  Or.inr (Or.inr (Or.inr ⟨hx, gs, by rw [h.all]; exact h.rd, by rw [h.all]; exact cutT_nil _ _, Or.inr ⟨hr, rfl, rfl, rfl⟩⟩))
theorem told_long {xs : List UInt8} (h : 10000 < xs.length) : IsTold xs 2 0 [] := Or.inl ⟨h, rfl, rfl, rfl⟩
/-- a piece of a text -/
theorem bs_extract (xs : List UInt8) (a k : Nat) : (bs xs).extract a k = bs (cutT xs a k) := ByteArray.extract_mk xs a k

end Go.Proofs.YtachkoledebanabGreatDoor
