/-
  wLamp, wWant, wAgrees.
-/
import Derived.Test.YtachkoledebanaaShow2
import Derived.Test.YtachkoledebanaaOk2
import Derived.Deep.RegionHeld3
namespace Go.Proofs.Ytachkoledebanaa
open Go.RowKit

set_option maxHeartbeats 1000000 in
theorem wLamp_any (ao : Option Addr) (cap : Nat) (f : Nat → Bool) (a : Int) (w : World) (h : SlAt w ao 4 (fun k => .bool (f k))) (h0 : -1 ≤ a) (h1 : a ≤ 3) :
    Calls Try.prog 23 #[.slice ao 4 cap, .int .i64 a] w fun e w' => e = .returned (.int .i64 (lamp f a)) ∧ w' = w := by
  go_enter Try.func23, Try.ntmps23
  go_wp2
  go_loop [1] (fun i => ∃ b : Int, i = .int .i64 b ∧ -1 ≤ b ∧ b ≤ 3 ∧ lamp f a = lamp f b) (fun i => (intOf i + 1).toNat)
  case atStart => exact ⟨a, rfl, by omega, h1, rfl⟩
  case round =>
    obtain ⟨b, rfl, q1, q2, he⟩ := hrel
    have HE : Hid (lamp f a = lamp f b) := he
    clear he
    by_cases hb : 0 ≤ b
    · obtain ⟨bb, o, rfl, hc⟩ := h b.toNat (by omega)
      clear h
      cases hf : f b.toNat with
      | true =>
        simp only [hf] at hc
        have HL : Hid (lamp f a = b) := HE.out.trans (lamp_hit hb hf)
        clear hf
        go_wp2
        go_ret
        exact ⟨ret_int HL.out.symm, rfl⟩
      | false =>
        simp only [hf] at hc
        have HL : Hid (lamp f a = lamp f (b - 1)) := HE.out.trans (lamp_miss hb hf)
        clear hf
        go_wp2
        go_round
        case rel => exact ⟨b - 1, rfl, by omega, by omega, HL.out⟩
        case measure => simp [intOf]; omega
    · have HL : Hid (lamp f a = b) := by show _ = _; rw [HE.out]; unfold lamp; rw [if_pos (by omega)]; omega
      have z : decide (0 ≤ b) = false := by simp; omega
      clear h
      go_wp2
      go_ret
      exact ⟨ret_int HL.out.symm, rfl⟩

set_option maxHeartbeats 1000000 in
theorem wWant_any (a1 a2 a3 a4 so : Option Addr) (c1 c2 c3 c4 cs n : Nat) (A : Nat → Option Addr) (C : Nat → Nat) (d : RD) (sh : Nat → Int) (i : Nat) (w : World) (h : RowAt w a1 a2 a3 a4 A C d) (hn : n = d.nN) (hO : d.nO = d.nN) (_h60 : d.nN ≤ 60) (hin : Inside d d.nN) (hi : i < d.nN)
    (hsl : SlAt w so n (fun k => .int .i64 (sh k))) (hlo : ∀ k, k < n → -1 ≤ sh k) (hhi : ∀ k, k < n → sh k ≤ 3) :
    Calls Try.prog 24 #[.agg #[.slice a1 d.nN c1, .slice a2 d.nF c2, .slice a3 d.nO c3, .slice a4 d.nW c4], .slice so n cs, .int .i64 i] w fun e w' =>
      e = .returned (.int .i64 (wish d sh i)) ∧ Below w.heap.size w w' := by
  have bel : Below w.heap.size w (w.alloc (.cells #[.slice a1 d.nN c1, .slice a2 d.nF c2, .slice a3 d.nO c3, .slice a4 d.nW c4] 27)) := (Below.refl _ _).alloc (Nat.le_refl _) _
  have hk := h.keep bel
  have hs' := hsl.keep bel
  clear h hsl
  obtain ⟨b, o, rfl, hc⟩ := hk.op i (by omega)
  obtain ⟨b', o', rfl, hc'⟩ := hk.nx i hi
  have hiO : i < d.nO := by omega
  have hx := hin i hi
  clear hk hin
  cases hop : d.op i with
  | false =>
    simp only [hop] at hc
    have HW : Hid (wish d sh i = 0) := by show _ = _; unfold wish; rw [if_pos hop]
    clear hop hs' hn hO
    go_enter Try.func24, Try.ntmps24
    go_wp2
    go_ret
    exact ⟨ret_int HW.out.symm, bel⟩
  | true =>
    simp only [hop] at hc
    by_cases hneg : d.nx i < 0
    · have HW : Hid (wish d sh i = 1) := by show _ = _; unfold wish; rw [if_neg (by rw [hop]; simp), if_pos hneg]
      clear hop hs' hn hO
      go_enter Try.func24, Try.ntmps24
      go_wp2
      go_ret
      exact ⟨ret_int HW.out.symm, bel⟩
    · have q1 : 0 ≤ d.nx i := by omega
      obtain ⟨b2, o2, rfl, hc2⟩ := hs' (d.nx i).toNat (by omega)
      have l1 := hlo (d.nx i).toNat (by omega)
      have l2 := hhi (d.nx i).toNat (by omega)
      have hxn : d.nx i < (n : Int) := by omega
      clear hs' hn hO hlo hhi
      by_cases h3 : 3 ≤ sh (d.nx i).toNat
      · have HW : Hid (wish d sh i = 3) := by show _ = _; unfold wish; rw [if_neg (by rw [hop]; simp), if_neg hneg, if_pos (by omega)]
        clear hop hneg
        go_enter Try.func24, Try.ntmps24
        go_wp2
        go_ret
        exact ⟨ret_int HW.out.symm, bel⟩
      · have HW : Hid (wish d sh i = sh (d.nx i).toNat + 1) := by show _ = _; unfold wish; rw [if_neg (by rw [hop]; simp), if_neg hneg, if_neg (by omega)]
        clear hop hneg
        go_enter Try.func24, Try.ntmps24
        go_wp2
        go_ret
        exact ⟨ret_int HW.out.symm, bel⟩

/-- what is wanted and shown agrees, signal by signal -/
def AgTo (d : RD) (wn sh : Nat → Int) (n : Nat) : Prop := ∀ i, i < n → wn i = wish d sh i ∧ sh i = lamp (d.wk i) (wn i)

theorem cells7 {wr V : World} {R t bw kw bs ks b4 k4 : Nat} {x0 x1 x2 x3 u v y : Value} (P : Blk wr R #[x0, x1, x2, x3] t) (h1 : wr.cell? ⟨bw, kw, none⟩ = some u) (h2 : wr.cell? ⟨bs, ks, none⟩ = some v) (h3 : wr.cell? ⟨b4, k4, none⟩ = some y) (hV : Below wr.heap.size wr V) :
    V.cell? ⟨bw, kw, none⟩ = some u ∧ V.cell? ⟨bs, ks, none⟩ = some v ∧ V.cell? ⟨b4, k4, none⟩ = some y ∧ V.cell? ⟨R, 0, none⟩ = some x0 ∧ V.cell? ⟨R, 1, none⟩ = some x1 ∧ V.cell? ⟨R, 2, none⟩ = some x2 ∧ V.cell? ⟨R, 3, none⟩ = some x3 := by
  have hk : ∀ {b o : Nat} {z : Value}, wr.cell? ⟨b, o, none⟩ = some z → V.cell? ⟨b, o, none⟩ = some z := fun hc => (hV.cell (p := ⟨_, _, none⟩) (block_lt_of_cell hc)).trans hc
  have P' := P.keep hV
  exact ⟨hk h1, hk h2, hk h3, P'.cell 0, P'.cell 1, P'.cell 2, P'.cell 3⟩

theorem Right.inside' {d : RD} (h : Right d) : Inside d d.nN := fun i hi => (h.w i hi).1.2

set_option maxHeartbeats 8000000 in
set_option maxRecDepth 100000 in
theorem wAgrees_any (a1 a2 a3 a4 wo so : Option Addr) (c1 c2 c3 c4 cw cs : Nat) (A : Nat → Option Addr) (C : Nat → Nat) (d : RD) (wn sh : Nat → Int) (w : World) (h : RowAt w a1 a2 a3 a4 A C d) (hR : Right d)
    (hws : SlAt w wo d.nN (fun k => .int .i64 (wn k))) (hss : SlAt w so d.nN (fun k => .int .i64 (sh k))) (hwb : ∀ k, k < d.nN → 0 ≤ wn k ∧ wn k ≤ 3) (hsb : ∀ k, k < d.nN → -1 ≤ sh k ∧ sh k ≤ 3) (hww : ∀ k, k < d.nN → wn k = wish d sh k) :
    Calls Try.prog 21 #[.agg #[.slice a1 d.nN c1, .slice a2 d.nF c2, .slice a3 d.nO c3, .slice a4 d.nW c4], .slice wo d.nN cw, .slice so d.nN cs] w fun e w' =>
      RetB e (AgTo d wn sh d.nN) ∧ Below w.heap.size w w' := by
  have bel : Below w.heap.size w (w.alloc (.cells #[.slice a1 d.nN c1, .slice a2 d.nF c2, .slice a3 d.nO c3, .slice a4 d.nW c4] 27)) := (Below.refl _ _).alloc (Nat.le_refl _) _
  have P := Blk.new w #[.slice a1 d.nN c1, .slice a2 d.nF c2, .slice a3 d.nO c3, .slice a4 d.nW c4] 27
  have HR : Hid (Right d) := hR
  have h60 := hR.s.nN
  have HH : Hid (RowAt w a1 a2 a3 a4 A C d ∧ SlAt w wo d.nN (fun k => .int .i64 (wn k)) ∧ SlAt w so d.nN (fun k => .int .i64 (sh k))) := ⟨h, hws, hss⟩
  have HB : Hid ((∀ k, k < d.nN → 0 ≤ wn k ∧ wn k ≤ 3) ∧ ∀ k, k < d.nN → -1 ≤ sh k ∧ sh k ≤ 3) := ⟨hwb, hsb⟩
  have HWW : Hid (∀ k, k < d.nN → wn k = wish d sh k) := hww
  clear h hR hws hss hwb hsb hww
  go_enter Try.func21, Try.ntmps21
  go_wp2
  generalize (w.alloc (.cells #[.slice a1 d.nN c1, .slice a2 d.nF c2, .slice a3 d.nO c3, .slice a4 d.nW c4] 27)) = W at *
  go_loopw [10] (fun t wr => ∃ i : Nat, i ≤ d.nN ∧ t = .int .i64 i ∧ AgTo d wn sh i ∧ Below W.heap.size W wr) (fun t _ => d.nN - (intOf t).toNat)
  case atStart => exact ⟨0, Nat.zero_le _, rfl, fun i hi => absurd hi (Nat.not_lt_zero _), Below.refl _ _⟩
  case round =>
    obtain ⟨i, hi, rfl, hag, hbr⟩ := hrel
    have HAG : Hid (AgTo d wn sh i) := hag
    have BW : Below w.heap.size w wr := chain bel hbr
    by_cases hlt : i < d.nN
    · have hrow := HH.out.1.keep BW
      obtain ⟨bw, ow, rfl, hcw⟩ := (HH.out.2.1.keep BW) i hlt
      obtain ⟨bs, os, rfl, hcs⟩ := (HH.out.2.2.keep BW) i hlt
      have hiW : i < d.nW := by rw [HR.out.s.nW]; exact hlt
      obtain ⟨b4, o4, rfl, hc4⟩ := hrow.wk i hiW
      have hL := HR.out.l i hiW
      replace hcw : wr.cell? ⟨bw, ow + i, none⟩ = some (.int .i64 (wn i)) := hcw
      replace hcs : wr.cell? ⟨bs, os + i, none⟩ = some (.int .i64 (sh i)) := hcs
      replace hc4 : wr.cell? ⟨b4, o4 + i, none⟩ = some (.slice (A i) 4 (C i)) := by rw [← hL]; exact hc4
      have hb1 := HB.out.1 i hlt
      have hb2 := HB.out.2 i hlt
      have P2 := P.keep hbr
      have HW : Hid (∀ V, Below wr.heap.size wr V → Calls Try.prog 24 #[.agg #[.slice a1 d.nN c1, .slice a2 d.nF c2, .slice a3 d.nO c3, .slice (some ⟨b4, o4, none⟩) d.nW c4], .slice (some ⟨bs, os, none⟩) d.nN cs, .int .i64 i] V fun e w' => e = .returned (.int .i64 (wish d sh i)) ∧ Below V.heap.size V w') := fun V hV =>
        wWant_any a1 a2 a3 (some ⟨b4, o4, none⟩) (some ⟨bs, os, none⟩) c1 c2 c3 c4 cs d.nN A C d sh i V (hrow.keep hV) rfl HR.out.s.nO h60 HR.out.inside' hlt ((HH.out.2.2.keep BW).keep hV) (fun k hk => (HB.out.2 k hk).1) (fun k hk => (HB.out.2 k hk).2)
      have HLm : Hid (∀ V, Below wr.heap.size wr V → Calls Try.prog 23 #[.slice (A i) 4 (C i), .int .i64 (wn i)] V fun e w' => e = .returned (.int .i64 (lamp (d.wk i) (wn i))) ∧ w' = V) := fun V hV =>
        wLamp_any (A i) (C i) (d.wk i) (wn i) V ((by have := hrow.lm i hiW; rw [hL] at this; exact this : SlAt wr (A i) 4 (fun j => .bool (d.wk i j))).keep hV) (by omega) (by omega)
      have hiO : (i : Int) < (d.nN : Int) := by omega
      have hi0 : (0 : Int) ≤ (i : Int) := by omega
      have hiW' : (i : Int) < (d.nW : Int) := by omega
      have z1 : decide (wn i < 0) = false := by simp; omega
      have z2 : decide (3 < wn i) = false := by simp; omega
      have z3 : decide (sh i < -1) = false := by simp; omega
      have z4 : decide (3 < sh i) = false := by simp; omega
      clear hrow hag hL P
      have e1 := HWW.out i hlt
      have z5 : (wn i != wish d sh i) = false := by rw [bne_eq_false_iff_eq]; exact e1
      by_cases e2 : sh i = lamp (d.wk i) (wn i)
      · have z6 : (sh i != lamp (d.wk i) (wn i)) = false := by rw [bne_eq_false_iff_eq]; exact e2
        have HG : Hid (AgTo d wn sh (i + 1)) := fun j hj => by
          by_cases e : j = i
          · subst e; exact ⟨e1, e2⟩
          · exact HAG.out j (by omega)
        clear e1 e2
        go_wp2_with fail
        go_region_held3 (fun w' => w'.cell? ⟨bw, ow + i, none⟩ = some (.int .i64 (wn i)) ∧ w'.cell? ⟨bs, os + i, none⟩ = some (.int .i64 (sh i)) ∧ w'.cell? ⟨b4, o4 + i, none⟩ = some (.slice (A i) 4 (C i)) ∧ w'.cell? ⟨w.heap.size, 0, none⟩ = some (.slice a1 d.nN c1) ∧ w'.cell? ⟨w.heap.size, 1, none⟩ = some (.slice a2 d.nF c2) ∧ w'.cell? ⟨w.heap.size, 2, none⟩ = some (.slice a3 d.nO c3) ∧ w'.cell? ⟨w.heap.size, 3, none⟩ = some (.slice (some ⟨b4, o4, none⟩) d.nW c4)) (exact cells7 P2 hcw hcs hc4 (by first | exact BV | exact (Below.refl _ _).drew)) (first
        | (go_at_call 24; (refine (HW.out _ ?_).mono ?_; exact (Below.refl _ _).drew; rintro e v1 ⟨rfl, hv1⟩; have BV : Below wr.heap.size wr v1 := chain (Below.refl _ _).drew hv1))
        | (go_at_call 23; (refine (HLm.out _ BV).mono ?_; rintro e v2 ⟨rfl, rfl⟩)))
        all_goals
          go_wp2
          go_roundw
          case rel => exact ⟨i + 1, by omega, by go_num, HG.out, chain hbr BV⟩
          case measure => simp [intOf]; omega
      · have z6 : (sh i != lamp (d.wk i) (wn i)) = true := by rw [bne_iff_ne]; exact e2
        have HG : Hid (¬ AgTo d wn sh d.nN) := fun hh => e2 (hh i hlt).2
        clear e1 e2
        go_wp2_with fail
        go_region_held3 (fun w' => w'.cell? ⟨bw, ow + i, none⟩ = some (.int .i64 (wn i)) ∧ w'.cell? ⟨bs, os + i, none⟩ = some (.int .i64 (sh i)) ∧ w'.cell? ⟨b4, o4 + i, none⟩ = some (.slice (A i) 4 (C i)) ∧ w'.cell? ⟨w.heap.size, 0, none⟩ = some (.slice a1 d.nN c1) ∧ w'.cell? ⟨w.heap.size, 1, none⟩ = some (.slice a2 d.nF c2) ∧ w'.cell? ⟨w.heap.size, 2, none⟩ = some (.slice a3 d.nO c3) ∧ w'.cell? ⟨w.heap.size, 3, none⟩ = some (.slice (some ⟨b4, o4, none⟩) d.nW c4)) (exact cells7 P2 hcw hcs hc4 (by first | exact BV | exact (Below.refl _ _).drew)) (first
        | (go_at_call 24; (refine (HW.out _ ?_).mono ?_; exact (Below.refl _ _).drew; rintro e v1 ⟨rfl, hv1⟩; have BV : Below wr.heap.size wr v1 := chain (Below.refl _ _).drew hv1))
        | (go_at_call 23; (refine (HLm.out _ BV).mono ?_; rintro e v2 ⟨rfl, rfl⟩)))
        all_goals
          go_wp2
          go_ret
          exact ⟨.mk false rfl (.no HG.out), chain bel (chain hbr BV)⟩
    · obtain rfl : i = d.nN := by omega
      clear hag P
      go_wp2
      go_ret
      exact ⟨.mk true rfl ⟨fun _ => HAG.out, fun _ => rfl⟩, BW⟩

end Go.Proofs.Ytachkoledebanaa
