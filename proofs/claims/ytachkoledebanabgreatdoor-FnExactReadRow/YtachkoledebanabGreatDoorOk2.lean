/-
  RowOk: the program's.
-/
import Derived.Test.YtachkoledebanabGreatDoorBaseEtc
namespace Go.Proofs.YtachkoledebanabGreatDoor
open Go.RowKit

/-- a Bool that says p -/
def Says (b : Bool) (p : Prop) : Prop := b = true ↔ p
theorem Says.yes {p : Prop} (h : p) : Says true p := ⟨fun _ => h, fun _ => rfl⟩
theorem Says.no {p : Prop} (h : ¬ p) : Says false p := ⟨fun e => (by cases e), fun k => absurd k h⟩
theorem Says.dec {p : Prop} [Decidable p] {q : Prop} (h : p ↔ q) : Says (decide p) q := by unfold Says; rw [decide_eq_true_iff]; exact h

/-- a call that returns a Bool that says p (a name of its own: the walk leaves it as it stands) -/
def RetB (e : Ending) (p : Prop) : Prop := ∃ b, e = .returned (.bool b) ∧ Says b p
theorem RetB.mk {e : Ending} {p : Prop} (b : Bool) (h : e = .returned (.bool b)) (k : Says b p) : RetB e p := ⟨b, h, k⟩

set_option maxHeartbeats 1000000 in
theorem sizesRight_any (a1 a2 a3 a4 : Option Addr) (c1 c2 c3 c4 : Nat) (d : RD) (w : World) (hs : Small d) :
    Calls Tryz.prog 58 #[.agg #[.slice a1 d.nN c1, .slice a2 d.nF c2, .slice a3 d.nO c3, .slice a4 d.nW c4]] w fun e w' =>
      RetB e (OkSizes d) ∧ Below w.heap.size w w' := by
  obtain ⟨s1, s2, s3, s4, _⟩ := hs
  have bel : Below w.heap.size w (w.alloc (.cells #[.slice a1 d.nN c1, .slice a2 d.nF c2, .slice a3 d.nO c3, .slice a4 d.nW c4] 26)) := (Below.refl _ _).alloc (Nat.le_refl _) _
  by_cases h1 : d.nN ≤ 60
  case neg =>
    have HN : Hid (¬ OkSizes d) := fun k => h1 k.nN
    have g1 : decide ((d.nN : Int) ≤ 60) = false := by simp; omega
    go_enter Tryz.func58, Tryz.ntmps58
    go_wp2
    go_ret
    exact ⟨.mk (false) rfl (.no HN.out), bel⟩
  have g1 : decide ((d.nN : Int) ≤ 60) = true := by simp; omega
  by_cases h2 : d.nF = d.nN
  case neg =>
    have HN : Hid (¬ OkSizes d) := fun k => h2 k.nF
    have g2 : ((d.nF : Int) == (d.nN : Int)) = false := by rw [beq_eq_false_iff_ne]; omega
    go_enter Tryz.func58, Tryz.ntmps58
    go_wp2
    go_ret
    exact ⟨.mk (false) rfl (.no HN.out), bel⟩
  have g2 : ((d.nF : Int) == (d.nN : Int)) = true := by rw [beq_iff_eq]; omega
  by_cases h3 : d.nO = d.nN
  case neg =>
    have HN : Hid (¬ OkSizes d) := fun k => h3 k.nO
    have g3 : ((d.nO : Int) == (d.nN : Int)) = false := by rw [beq_eq_false_iff_ne]; omega
    clear h2
    go_enter Tryz.func58, Tryz.ntmps58
    go_wp2
    go_ret
    exact ⟨.mk (false) rfl (.no HN.out), bel⟩
  have g3 : ((d.nO : Int) == (d.nN : Int)) = true := by rw [beq_iff_eq]; omega
  by_cases h4 : d.nW = d.nN
  case neg =>
    have HN : Hid (¬ OkSizes d) := fun k => h4 k.nW
    have g4 : ((d.nW : Int) == (d.nN : Int)) = false := by rw [beq_eq_false_iff_ne]; omega
    clear h2 h3
    go_enter Tryz.func58, Tryz.ntmps58
    go_wp2
    go_ret
    exact ⟨.mk (false) rfl (.no HN.out), bel⟩
  have HN : Hid (OkSizes d) := ⟨h1, h2, h3, h4⟩
  have g4 : ((d.nW : Int) == (d.nN : Int)) = true := by rw [beq_iff_eq]; omega
  clear h2 h3 h4
  go_enter Tryz.func58, Tryz.ntmps58
  go_wp2
  go_ret
  exact ⟨.mk (true) rfl (.yes HN.out), bel⟩

set_option maxHeartbeats 1000000 in
theorem isNumberIn_any (a1 a2 a3 a4 : Option Addr) (c1 c2 c3 c4 : Nat) (d : RD) (x : Int) (w : World) (_hs : d.nN ≤ 1048576) :
    Calls Tryz.prog 78 #[.agg #[.slice a1 d.nN c1, .slice a2 d.nF c2, .slice a3 d.nO c3, .slice a4 d.nW c4], .int .i64 x] w fun e w' =>
      RetB e (0 ≤ x ∧ x < d.nN) ∧ Below w.heap.size w w' := by
  have bel : Below w.heap.size w (w.alloc (.cells #[.slice a1 d.nN c1, .slice a2 d.nF c2, .slice a3 d.nO c3, .slice a4 d.nW c4] 26)) := (Below.refl _ _).alloc (Nat.le_refl _) _
  by_cases h1 : 0 ≤ x
  · have g1 : decide (0 ≤ x) = true := by simp; omega
    go_enter Tryz.func78, Tryz.ntmps78
    go_wp2
    go_ret
    exact ⟨.mk (decide (x < d.nN)) rfl (.dec ⟨fun k => ⟨h1, k⟩, fun k => k.2⟩), bel⟩
  · have g1 : decide (0 ≤ x) = false := by simp; omega
    go_enter Tryz.func78, Tryz.ntmps78
    go_wp2
    go_ret
    exact ⟨.mk (false) rfl (.no fun k => absurd k.1 (by omega)), bel⟩

set_option maxHeartbeats 1000000 in
theorem lampsRight_any (a1 a2 a3 a4 : Option Addr) (c1 c2 c3 c4 : Nat) (A : Nat → Option Addr) (C : Nat → Nat) (d : RD) (w : World) (hs : Small d) (h : RowAt w a1 a2 a3 a4 A C d) :
    Calls Tryz.prog 60 #[.agg #[.slice a1 d.nN c1, .slice a2 d.nF c2, .slice a3 d.nO c3, .slice a4 d.nW c4]] w fun e w' =>
      RetB e (OkLamps d) ∧ Below w.heap.size w w' := by
  obtain ⟨_, _, _, s4, _⟩ := hs
  have bel : Below w.heap.size w (w.alloc (.cells #[.slice a1 d.nN c1, .slice a2 d.nF c2, .slice a3 d.nO c3, .slice a4 d.nW c4] 26)) := (Below.refl _ _).alloc (Nat.le_refl _) _
  have hk := (h.keep bel).wk
  clear h
  go_enter Tryz.func60, Tryz.ntmps60
  go_wp2
  go_loop [8] (fun i => ∃ k : Nat, k ≤ d.nW ∧ i = .int .i64 k ∧ ∀ j, j < k → d.L j = 4) (fun i => d.nW - (intOf i).toNat)
  case atStart => exact ⟨0, Nat.zero_le _, rfl, fun j hj => absurd hj (Nat.not_lt_zero _)⟩
  case round =>
    obtain ⟨k, hkn, rfl, hall⟩ := hrel
    have HA : Hid (∀ j, j < k → d.L j = 4) := hall
    clear hall
    by_cases hlt : k < d.nW
    · obtain ⟨b, o, rfl, hc⟩ := hk k hlt
      clear hk
      by_cases q : d.L k = 4
      · have q1 : ((d.L k : Int) != 4) = false := by rw [bne_eq_false_iff_eq]; omega
        have HQ : Hid (d.L k = 4) := q
        clear q
        go_wp2
        go_round
        case rel => exact ⟨k + 1, by omega, by go_num, fun j hj => by
          by_cases e : j = k
          · subst e; exact HQ.out
          · exact HA.out j (by omega)⟩
        case measure => simp [intOf]; omega
      · have q1 : ((d.L k : Int) != 4) = true := by rw [bne_iff_ne]; omega
        have hbad : Hid (¬ OkLamps d) := fun u => q (u k hlt)
        go_wp2
        go_ret
        exact ⟨.mk (false) rfl (.no hbad.out), bel⟩
    · have hbad : Hid (OkLamps d) := fun j hj => HA.out j (by omega)
      go_wp2
      go_ret
      exact ⟨.mk (true) rfl (.yes hbad.out), bel⟩


/-- what waysRight asks: every Next, then every Far -/
theorem ways_iff {d : RD} (h : d.nF = d.nN) : OkWays d ↔ ((∀ i, i < d.nN → d.nx i = -1 ∨ (0 ≤ d.nx i ∧ d.nx i < d.nN)) ∧ ∀ i, i < d.nF → 0 ≤ d.fr i ∧ d.fr i ≤ 1000000) := by
  constructor
  · intro k
    refine ⟨fun i hi => ?_, fun i hi => (k i (by omega)).2⟩
    have := (k i hi).1
    omega
  · rintro ⟨k, l⟩ i hi
    refine ⟨?_, l i (by omega)⟩
    have := k i hi
    omega

set_option maxHeartbeats 2000000 in
theorem waysRight_any (a1 a2 a3 a4 : Option Addr) (c1 c2 c3 c4 : Nat) (A : Nat → Option Addr) (C : Nat → Nat) (d : RD) (w : World) (hs : Small d) (h : RowAt w a1 a2 a3 a4 A C d) (hF : d.nF = d.nN) :
    Calls Tryz.prog 59 #[.agg #[.slice a1 d.nN c1, .slice a2 d.nF c2, .slice a3 d.nO c3, .slice a4 d.nW c4]] w fun e w' =>
      RetB e (OkWays d) ∧ Below w.heap.size w w' := by
  obtain ⟨s1, s2, s3, s4, _⟩ := hs
  have HF : Hid (OkWays d ↔ ((∀ i, i < d.nN → d.nx i = -1 ∨ (0 ≤ d.nx i ∧ d.nx i < d.nN)) ∧ ∀ i, i < d.nF → 0 ≤ d.fr i ∧ d.fr i ≤ 1000000)) := ways_iff hF
  clear hF
  have bel : Below w.heap.size w (w.alloc (.cells #[.slice a1 d.nN c1, .slice a2 d.nF c2, .slice a3 d.nO c3, .slice a4 d.nW c4] 26)) := (Below.refl _ _).alloc (Nat.le_refl _) _
  have hk := h.keep bel
  have hbk := Blk.new w #[.slice a1 d.nN c1, .slice a2 d.nF c2, .slice a3 d.nO c3, .slice a4 d.nW c4] 26
  clear h
  go_enter Tryz.func59, Tryz.ntmps59
  go_wp2
  go_loopw [10] (fun i wr => ∃ k : Nat, k ≤ d.nN ∧ i = .int .i64 k ∧ (∀ j, j < k → d.nx j = -1 ∨ (0 ≤ d.nx j ∧ d.nx j < d.nN)) ∧ Below (w.heap.size + 1) (w.alloc (.cells #[.slice a1 d.nN c1, .slice a2 d.nF c2, .slice a3 d.nO c3, .slice a4 d.nW c4] 26)) wr) (fun i _ => d.nN - (intOf i).toNat)
  case atStart => exact ⟨0, Nat.zero_le _, rfl, fun j hj => absurd hj (Nat.not_lt_zero _), Below.refl _ _⟩
  case round =>
    obtain ⟨k, hkn, rfl, hall, hb⟩ := hrel
    have HA : Hid (∀ j, j < k → d.nx j = -1 ∨ (0 ≤ d.nx j ∧ d.nx j < d.nN)) := hall
    have hk' : RowAt wr a1 a2 a3 a4 A C d := hk.keep (by simpa using hb)
    have belr : Below w.heap.size w wr := bel.trans (hb.mono (by omega))
    have hwr : w.heap.size + 1 ≤ wr.heap.size := by have := hb.size; simpa using this
    have hbr := hbk.below hb (by omega)
    have b0 := hbr.cell 0
    have b1 := hbr.cell 1
    have b2 := hbr.cell 2
    have b3 := hbr.cell 3
    simp at b0 b1 b2 b3
    clear hall hk hbk
    by_cases hlt : k < d.nN
    · obtain ⟨b, o, rfl, hc⟩ := hk'.nx k hlt
      clear hk'
      by_cases q : d.nx k = -1
      · have q1 : (d.nx k != -1) = false := by rw [bne_eq_false_iff_eq]; exact q
        have HQ : Hid (d.nx k = -1) := q
        clear q
        go_wp2
        go_roundw
        case rel => exact ⟨k + 1, by omega, by go_num, fun j hj => by
          by_cases e : j = k
          · subst e; exact Or.inl HQ.out
          · exact HA.out j (by omega), hb⟩
        case measure => simp [intOf]; omega
      · have q1 : (d.nx k != -1) = true := by rw [bne_iff_ne]; exact q
        go_wp2_with fail
        refine (isNumberIn_any (some ⟨b, o, none⟩) a2 a3 a4 c1 c2 c3 c4 d (d.nx k) wr s1).mono ?_
        rintro e w1 ⟨⟨bb, rfl, hsay⟩, hb1⟩
        cases bb with
        | false =>
          have hbad : Hid (¬ OkWays d) := fun u => by
            have := ((HF.out.1 u).1 k hlt)
            have h2 : ¬ (0 ≤ d.nx k ∧ d.nx k < d.nN) := fun v => by have := hsay.2 v; cases this
            omega
          have bel1 : Below w.heap.size w w1 := belr.trans (hb1.mono (by omega))
          clear hb1 hb belr b0 b1 b2 b3 hbr hsay
          go_wp2
          go_ret
          exact ⟨.mk false rfl (.no hbad.out), bel1⟩
        | true =>
          have hgood : Hid (0 ≤ d.nx k ∧ d.nx k < d.nN) := hsay.1 rfl
          have bel1 := hb.trans (hb1.mono hwr)
          clear hb1 hb belr b0 b1 b2 b3 hbr hsay
          go_wp2
          go_roundw
          case rel => exact ⟨k + 1, by omega, by go_num, fun j hj => by
            by_cases e : j = k
            · subst e; exact Or.inr hgood.out
            · exact HA.out j (by omega), bel1⟩
          case measure => simp [intOf]; omega
    · have hN : Hid (∀ i, i < d.nN → d.nx i = -1 ∨ (0 ≤ d.nx i ∧ d.nx i < d.nN)) := fun j hj => HA.out j (by omega)
      clear HA bel
      go_wp2
      go_loop [26] (fun i => ∃ k : Nat, k ≤ d.nF ∧ i = .int .i64 k ∧ ∀ j, j < k → 0 ≤ d.fr j ∧ d.fr j ≤ 1000000) (fun i => d.nF - (intOf i).toNat)
      case atStart => exact ⟨0, Nat.zero_le _, rfl, fun j hj => absurd hj (Nat.not_lt_zero _)⟩
      case round =>
        obtain ⟨k, hkn, rfl, hall⟩ := hrel
        have HA : Hid (∀ j, j < k → 0 ≤ d.fr j ∧ d.fr j ≤ 1000000) := hall
        clear hall
        by_cases hlt : k < d.nF
        · obtain ⟨b, o, rfl, hc⟩ := hk'.fr k hlt
          clear hk'
          by_cases q : 0 ≤ d.fr k
          · by_cases q2 : d.fr k ≤ 1000000
            · have z1 : decide (d.fr k < 0) = false := by simp; omega
              have z2 : decide (1000000 < d.fr k) = false := by simp; omega
              go_wp2
              go_round
              case rel => exact ⟨k + 1, by omega, by go_num, fun j hj => by
                by_cases e : j = k
                · subst e; exact ⟨by omega, by omega⟩
                · exact HA.out j (by omega)⟩
              case measure => simp [intOf]; omega
            · have z1 : decide (d.fr k < 0) = false := by simp; omega
              have z2 : decide (1000000 < d.fr k) = true := by simp; omega
              have hbad : Hid (¬ OkWays d) := fun u => q2 ((HF.out.1 u).2 k hlt).2
              go_wp2
              go_ret
              exact ⟨.mk false rfl (.no hbad.out), belr⟩
          · have z1 : decide (d.fr k < 0) = true := by simp; omega
            have hbad : Hid (¬ OkWays d) := fun u => q ((HF.out.1 u).2 k hlt).1
            go_wp2
            go_ret
            exact ⟨.mk false rfl (.no hbad.out), belr⟩
        · have hgood : Hid (OkWays d) := HF.out.2 ⟨hN.out, fun j hj => HA.out j (by omega)⟩
          go_wp2
          go_ret
          exact ⟨.mk true rfl (.yes hgood.out), belr⟩

/-- a call that returns what RowOk says -/
def RetOk (e : Ending) (d : RD) : Prop := ∃ r, e = .returned (.int .i64 r) ∧ IsOk d r
theorem RetOk.mk {e : Ending} {d : RD} (r : Int) (h : e = .returned (.int .i64 r)) (k : IsOk d r) : RetOk e d := ⟨r, h, k⟩

set_option maxHeartbeats 2000000 in
theorem implRowOk_any (a1 a2 a3 a4 : Option Addr) (c1 c2 c3 c4 : Nat) (A : Nat → Option Addr) (C : Nat → Nat) (d : RD) (w : World) (hs : Small d) (h : RowAt w a1 a2 a3 a4 A C d) :
    Calls Tryz.prog 33 #[.agg #[.slice a1 d.nN c1, .slice a2 d.nF c2, .slice a3 d.nO c3, .slice a4 d.nW c4]] w fun e w' =>
      RetOk e d ∧ Below w.heap.size w w' := by
  have bel : Below w.heap.size w (w.alloc (.cells #[.slice a1 d.nN c1, .slice a2 d.nF c2, .slice a3 d.nO c3, .slice a4 d.nW c4] 26)) := (Below.refl _ _).alloc (Nat.le_refl _) _
  have hk := h.keep bel
  have hbk := Blk.new w #[.slice a1 d.nN c1, .slice a2 d.nF c2, .slice a3 d.nO c3, .slice a4 d.nW c4] 26
  have hsz : (w.alloc (.cells #[.slice a1 d.nN c1, .slice a2 d.nF c2, .slice a3 d.nO c3, .slice a4 d.nW c4] 26)).heap.size = w.heap.size + 1 := by simp
  clear h
  go_enter Tryz.func33, Tryz.ntmps33
  go_wp2_with fail
  generalize (w.alloc (.cells #[.slice a1 d.nN c1, .slice a2 d.nF c2, .slice a3 d.nO c3, .slice a4 d.nW c4] 26)) = W at *
  refine (sizesRight_any a1 a2 a3 a4 c1 c2 c3 c4 d W hs).mono ?_
  rintro e w1 ⟨⟨bb, rfl, hsay⟩, hb1⟩
  cases bb with
  | false =>
    have hbad : Hid (IsOk d 1) := .sizes fun u => by have := hsay.2 u; cases this
    have bel1 : Below w.heap.size w w1 := bel.trans (hb1.mono (by omega))
    clear hb1 hbk hsay hk
    go_wp2
    go_ret
    exact ⟨.mk 1 rfl hbad.out, bel1⟩
  | true =>
  have hS : Hid (OkSizes d) := hsay.1 rfl
  have hk1 := hk.keep hb1
  have hbr := hbk.keep hb1
  have bel1 : Below w.heap.size w w1 := bel.trans (hb1.mono (by omega))
  have hz1 : w.heap.size + 1 ≤ w1.heap.size := by have := hb1.size; omega
  have b0 := hbr.cell 0
  have b1 := hbr.cell 1
  have b2 := hbr.cell 2
  have b3 := hbr.cell 3
  simp at b0 b1 b2 b3
  clear hbk hsay hk hsz hb1 bel
  go_wp2_with fail
  refine (waysRight_any a1 a2 a3 a4 c1 c2 c3 c4 A C d w1 hs hk1 hS.out.nF).mono ?_
  rintro e w2 ⟨⟨bb, rfl, hsay⟩, hb2⟩
  cases bb with
  | false =>
    have hbad : Hid (IsOk d 2) := .ways hS.out fun u => by have := hsay.2 u; cases this
    have bel2 : Below w.heap.size w w2 := bel1.trans (hb2.mono (by omega))
    clear hb2 hbr hsay hk1 b0 b1 b2 b3
    go_wp2
    go_ret
    exact ⟨.mk 2 rfl hbad.out, bel2⟩
  | true =>
  have hY : Hid (OkWays d) := hsay.1 rfl
  have hk2 := hk1.keep hb2
  have hbr2 := hbr.keep hb2
  have bel2 : Below w.heap.size w w2 := bel1.trans (hb2.mono (by omega))
  have hz2 : w.heap.size + 1 ≤ w2.heap.size := by have := hb2.size; omega
  clear hbr hsay hk1 b0 b1 b2 b3 hb2 bel1 hz1
  have b0 := hbr2.cell 0
  have b1 := hbr2.cell 1
  have b2 := hbr2.cell 2
  have b3 := hbr2.cell 3
  simp at b0 b1 b2 b3
  go_wp2_with fail
  refine (lampsRight_any a1 a2 a3 a4 c1 c2 c3 c4 A C d w2 hs hk2).mono ?_
  rintro e w3 ⟨⟨bb, rfl, hsay⟩, hb3⟩
  have bel3 : Below w.heap.size w w3 := bel2.trans (hb3.mono (by omega))
  cases bb with
  | false =>
    have hbad : Hid (IsOk d 3) := .lamps hS.out hY.out fun u => by have := hsay.2 u; cases this
    clear hb3 hbr2 hsay hk2 b0 b1 b2 b3
    go_wp2
    go_ret
    exact ⟨.mk 3 rfl hbad.out, bel3⟩
  | true =>
    have hgood : Hid (IsOk d 0) := .right hS.out hY.out (hsay.1 rfl)
    clear hb3 hbr2 hsay hk2 b0 b1 b2 b3
    go_wp2
    go_ret
    exact ⟨.mk 0 rfl hgood.out, bel3⟩

end Go.Proofs.YtachkoledebanabGreatDoor
