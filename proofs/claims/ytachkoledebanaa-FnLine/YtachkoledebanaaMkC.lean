/-
  A row that was made, one way of it closed, one lamp of it broken; wByte; a line's aspects.
-/
import Derived.Test.YtachkoledebanaaLin
import Derived.Test.YtachkoledebanaaChgD
namespace Go.Proofs.Ytachkoledebanaa
open Go.RowKit

theorem Made.close {lo : Nat} {d : RD} {a1 a2 a3 a4 : Option Addr} {bI : Nat → Nat} {w : World} (hl : ∀ i, i < d.nW → d.L i = 4) (h : Made lo d a1 a2 a3 a4 bI w) {s : Nat} (hs : s < d.nO) :
    ∃ b, a3 = some ⟨b, 0, none⟩ ∧ lo ≤ b ∧ b < w.heap.size ∧ w.cell? ⟨b, s, none⟩ = some (.bool (d.op s)) ∧ w.frozen? ⟨b, s, none⟩ = false ∧ RowAt (w.setCell ⟨b, s, none⟩ (.bool false)) a1 a2 a3 a4 (fun j => some ⟨bI j, 0, none⟩) (fun _ => 4) (closed d s) := by
  obtain ⟨b, c, e, h1, h2, h3, h4⟩ := h.op s hs
  have typ : ∀ {n t : Nat} {ao : Option Addr} {f : Nat → Value}, OwnT w lo w.heap.size ao n t f → t ≠ 4 → SlAt (w.setCell ⟨b, s, none⟩ (.bool false)) ao n f := fun hv ht => (hv.apart (p := ⟨b, s, none⟩) (fun b' c' _ _ _ hb' => by
    show b' ≠ b
    intro e1
    subst e1
    rw [h3] at hb'
    injection hb' with hb'
    injection hb' with _ hb' _
    exact ht hb'.symm) _).sl
  refine ⟨b, e, h1, h2, by simp [World.cell?, h3, h4], by simp [World.frozen?, h3], typ h.nx (by decide), typ h.fr (by decide), ?_, (typ h.wk (by decide)).congr (fun j hj => by rw [show (closed d s).L j = d.L j from rfl, hl j hj]), fun j hj => ?_⟩
  · have ho := h.op
    rw [e] at ho ⊢
    exact ((ho.store (j := s) (.bool false)).congr (g := fun k => .bool ((closed d s).op k)) (fun k _ => by
      show _ = Value.bool (if k = s then false else d.op k)
      by_cases ek : k = s <;> simp [ek])).sl
  · have hj' : j < d.nW := hj
    rw [show (closed d s).L j = d.L j from rfl, hl j hj']
    obtain ⟨i1, i2, i3⟩ := h.lm j hj'
    exact .ofRow (i1.setOther (by show bI j ≠ b; exact (i3 b 0 e).symm) _)

theorem Made.brk {lo : Nat} {d : RD} {a1 a2 a3 a4 : Option Addr} {bI : Nat → Nat} {w : World} (hl : ∀ i, i < d.nW → d.L i = 4) (h : Made lo d a1 a2 a3 a4 bI w) {s l : Nat} (hs : s < d.nW) (hl4 : l < 4) :
    ∃ b4, a4 = some ⟨b4, 0, none⟩ ∧ w.cell? ⟨b4, s, none⟩ = some (.slice (some ⟨bI s, 0, none⟩) 4 4) ∧ lo ≤ bI s ∧ bI s < w.heap.size ∧ w.cell? ⟨bI s, l, none⟩ = some (.bool (d.wk s l)) ∧ w.frozen? ⟨bI s, l, none⟩ = false ∧
      RowAt (w.setCell ⟨bI s, l, none⟩ (.bool false)) a1 a2 a3 a4 (fun j => some ⟨bI j, 0, none⟩) (fun _ => 4) (broken d s l) := by
  obtain ⟨i1, i2, i3⟩ := h.lm s hs
  obtain ⟨b4, c4, e4, _, _, q3, q4⟩ := h.wk s hs
  obtain ⟨cc, hcc, hcs, hcv⟩ := i1
  have i1' : w.rowIs (bI s) 4 4 (fun q => .bool (d.wk s q)) := ⟨cc, hcc, hcs, hcv⟩
  have typ : ∀ {n t : Nat} {ao : Option Addr} {f : Nat → Value}, OwnT w lo w.heap.size ao n t f → t ≠ 4 → SlAt (w.setCell ⟨bI s, l, none⟩ (.bool false)) ao n f := fun hv ht => (hv.apart (p := ⟨bI s, l, none⟩) (fun b' c' _ _ _ hb' => by
    show b' ≠ bI s
    intro e1
    subst e1
    rw [hcc] at hb'
    injection hb' with hb'
    injection hb' with _ hb' _
    exact ht hb'.symm) _).sl
  refine ⟨b4, e4, by simp [World.cell?, q3, q4], i2, i1'.lt, i1'.cell hl4, i1'.frozen l, typ h.nx (by decide), typ h.fr (by decide), ?_, (typ h.wk (by decide)).congr (fun j hj => by rw [show (broken d s l).L j = d.L j from rfl, hl j hj]), fun j hj => ?_⟩
  · exact (h.op.apart (p := ⟨bI s, l, none⟩) (fun b' c' e' _ _ _ => by show b' ≠ bI s; exact i3 b' 0 e') _).sl
  · have hj' : j < d.nW := hj
    rw [show (broken d s l).L j = d.L j from rfl, hl j hj']
    obtain ⟨j1, j2, j3⟩ := h.lm j hj'
    refine SlAt.ofRow (t := 4) ?_
    by_cases ej : j = s
    · subst ej
      refine (j1.set l (.bool false)).congr fun q _ => ?_
      show _ = Value.bool (if j = j ∧ q = l then false else d.wk j q)
      by_cases eq : q = l <;> simp [eq]
    · refine (j1.setOther (by
        show bI j ≠ bI s
        rcases Nat.lt_or_ge j s with g | g
        · have := h.mono j s g hs; omega
        · have := h.mono s j (by omega) hj'; omega) _).congr fun q _ => ?_
      show _ = Value.bool (if j = s ∧ q = l then false else d.wk j q)
      simp [ej]

/-- byte i of the bytes, round and round -/
def wb (k : Code) (i : Nat) : Int := if k.n = 0 then 0 else k.b (i % k.n)
theorem wb_bd {k : Code} (h : Bytes k) (i : Nat) : 0 ≤ wb k i ∧ wb k i ≤ 255 := by
  unfold wb
  split
  · omega
  · exact h _ (Nat.mod_lt _ (by omega))

set_option maxHeartbeats 1000000 in
theorem wByte_any (ca : Option Addr) (cc : Nat) (k : Code) (i : Nat) (w : World) (hn : k.n ≤ 1048576) (hi : i ≤ 1048576) (hk : Bytes k) (h : CodeAt w ca k) :
    Calls Try.prog 22 #[.slice ca k.n cc, .int .i64 i] w fun e w' => e = .returned (.int .i64 (wb k i)) ∧ w' = w := by
  go_enter Try.func22, Try.ntmps22
  by_cases h0 : k.n = 0
  · have z : ((k.n : Int) == 0) = true := by rw [beq_iff_eq]; omega
    have HW : Hid (wb k i = 0) := by show _ = _; unfold wb; rw [if_pos h0]
    clear h0
    go_wp2
    go_ret
    exact ⟨by rw [HW.out]; rfl, rfl⟩
  · have z : ((k.n : Int) == 0) = false := by rw [beq_eq_false_iff_ne]; omega
    have hm := Nat.mod_lt i (show 0 < k.n by omega)
    obtain ⟨b, o, rfl, hc⟩ := h (i % k.n) hm
    have hb := hk (i % k.n) hm
    have HW : Hid (wb k i = k.b (i % k.n)) := by show _ = _; unfold wb; rw [if_neg h0]
    have hmod : (i : Int) % (k.n : Int) = ((i % k.n : Nat) : Int) := by omega
    replace hc : w.cell? ⟨b, o + i % k.n, none⟩ = some (.int .u8 (k.b (i % k.n))) := hc
    generalize i % k.n = j at *
    generalize k.b j = y at *
    clear h hk h0
    go_wp2
    go_ret
    exact ⟨by rw [HW.out]; rfl, rfl⟩

theorem lamp_all {a : Int} (h0 : 0 ≤ a) (h3 : a ≤ 3) : lamp (fun _ => true) a = a := by
  have hc : a = 0 ∨ a = 1 ∨ a = 2 ∨ a = 3 := by omega
  rcases hc with rfl | rfl | rfl | rfl <;> rfl

/-- one more than before, three at the most -/
def up3 (x : Int) : Int := if 3 < x then 3 else x

theorem line_shows {n : Nat} {wn sh : Nat → Int} (h : Agrees (lineD n) n wn sh) : ∀ i, i < n → sh i = up3 ((i : Int) + 1)
  | 0, hi => by
    rw [h.eS 0 hi, h.eW 0 hi]
    show lamp (fun _ => true) (wish (lineD n) sh 0) = _
    have : wish (lineD n) sh 0 = 1 := by unfold wish; rfl
    rw [this]; rfl
  | i + 1, hi => by
    have ih := line_shows h i (by omega)
    rw [h.eS (i + 1) hi, h.eW (i + 1) hi]
    show lamp (fun _ => true) (wish (lineD n) sh (i + 1)) = _
    have hn : (lineD n).nx (i + 1) = (i : Int) := by show ((i + 1 : Nat) : Int) - 1 = i; omega
    have : wish (lineD n) sh (i + 1) = up3 ((i : Int) + 1 + 1) := by
      unfold wish
      rw [if_neg (by show ¬ true = false; simp), hn, if_neg (by omega), show ((i : Int)).toNat = i by omega, ih]
      unfold up3
      repeat' split
      all_goals omega
    rw [this, lamp_all (by unfold up3; split <;> omega) (by unfold up3; split <;> omega)]
    congr 1

theorem line_closed {n k : Nat} {wn sh : Nat → Int} (h : Agrees (closed (lineD n) k) n wn sh) : ∀ i, i < n → sh i = if i < k then up3 ((i : Int) + 1) else up3 ((i : Int) - k)
  | 0, hi => by
    rw [h.eS 0 hi, h.eW 0 hi]
    show lamp (fun _ => true) (wish (closed (lineD n) k) sh 0) = _
    by_cases hk : 0 = k
    · subst hk
      have : wish (closed (lineD n) 0) sh 0 = 0 := by unfold wish; rfl
      rw [this]; rfl
    · have : wish (closed (lineD n) k) sh 0 = 1 := by
        unfold wish
        rw [if_neg (by show ¬ (if 0 = k then false else true) = false; rw [if_neg hk]; simp)]
        rfl
      rw [this, if_pos (by omega)]; rfl
  | i + 1, hi => by
    have ih := line_closed h i (by omega)
    rw [h.eS (i + 1) hi, h.eW (i + 1) hi]
    show lamp (fun _ => true) (wish (closed (lineD n) k) sh (i + 1)) = _
    have hn : (closed (lineD n) k).nx (i + 1) = (i : Int) := by show ((i + 1 : Nat) : Int) - 1 = i; omega
    by_cases hk : i + 1 = k
    · subst hk
      have : wish (closed (lineD n) (i + 1)) sh (i + 1) = 0 := by
        unfold wish
        rw [if_pos (by show (if i + 1 = i + 1 then false else true) = false; rw [if_pos rfl])]
      rw [this, if_neg (by omega), show ((i + 1 : Nat) : Int) - ((i + 1 : Nat) : Int) = 0 by omega]; rfl
    · have : wish (closed (lineD n) k) sh (i + 1) = if i + 1 < k then up3 (((i + 1 : Nat) : Int) + 1) else up3 (((i + 1 : Nat) : Int) - k) := by
        unfold wish
        rw [if_neg (by show ¬ (if i + 1 = k then false else true) = false; rw [if_neg hk]; simp), hn, if_neg (by omega), show ((i : Int)).toNat = i by omega, ih]
        unfold up3
        repeat' split
        all_goals omega
      rw [this]
      exact lamp_all (by unfold up3; repeat' split
                         all_goals omega) (by unfold up3; repeat' split
                                              all_goals omega)

end Go.Proofs.Ytachkoledebanaa
