/-
  WriteRow: the program's.
-/
import Derived.Test.YtachkoledebanaaGreatDoorWriEtc
import Derived.Test.YtachkoledebanaaGreatDoorOk2
import Derived.Test.YtachkoledebanaaGreatDoorBldEtc
namespace Go.Proofs.YtachkoledebanaaGreatDoor
open Go.RowKit

theorem row_next (d : RD) (q : Nat) : rowTxt d (q + 1) = rowTxt d q ++ openTxt (d.op q) ++ ([32, 108, 97, 109, 112, 115, 32] ++ lampTxt (d.wk q) 4) ++ nextTxt (d.nx q) ++ ([32, 102, 97, 114, 32] ++ dec (d.fr q).toNat ++ [10]) := by
  show rowTxt d q ++ (lineTxt d q ++ [10]) = _
  unfold lineTxt
  rw [head_open]
  simp only [List.append_assoc]

set_option maxHeartbeats 4000000 in
theorem implWriteRow_any (a1 a2 a3 a4 : Option Addr) (c1 c2 c3 c4 : Nat) (A : Nat → Option Addr) (C : Nat → Nat) (d : RD) (w : World) (hs : Small d) (h : RowAt w a1 a2 a3 a4 A C d) (ht : Tab w) :
    Calls Tryz.prog 5 #[.agg #[.slice a1 d.nN c1, .slice a2 d.nF c2, .slice a3 d.nO c3, .slice a4 d.nW c4]] w fun e w' =>
      (∃ xs, IsText d xs ∧ e = .returned (.string (bs xs))) ∧ Below w.heap.size w w' := by
  have bel : Below w.heap.size w (w.alloc (.cells #[.slice a1 d.nN c1, .slice a2 d.nF c2, .slice a3 d.nO c3, .slice a4 d.nW c4] 27)) := (Below.refl _ _).alloc (Nat.le_refl _) _
  have hk := h.keep bel
  have HT : Hid (Tab w) := ht
  have hbk := Blk.new w #[.slice a1 d.nN c1, .slice a2 d.nF c2, .slice a3 d.nO c3, .slice a4 d.nW c4] 27
  clear h ht
  go_enter Tryz.func5, Tryz.ntmps5
  go_wp2_with fail
  generalize (w.alloc (.cells #[.slice a1 d.nN c1, .slice a2 d.nF c2, .slice a3 d.nO c3, .slice a4 d.nW c4] 27)) = W at *
  refine (implRowOk_any a1 a2 a3 a4 c1 c2 c3 c4 A C d W hs hk).mono ?_
  rintro e w1 ⟨⟨r, rfl, hr⟩, hb1⟩
  have bel1 : Below w.heap.size w w1 := chain bel hb1
  by_cases hr0 : r = 0
  case neg =>
    have z : (r != 0) = true := by rw [bne_iff_ne]; exact hr0
    have HB : Hid (IsText d []) := Or.inr ⟨fun u => hr0 (hr.zero u), rfl⟩
    clear hk hbk hb1 hr hs
    go_wp2
    go_ret
    exact ⟨⟨[], HB.out, rfl⟩, bel1⟩
  subst hr0
  have hR : Hid (Right d) := hr.rt
  have h60 : d.nN ≤ 60 := hR.out.s.nN
  have z : ((0 : Int) != 0) = false := by simp
  have HK1 : Hid (RowAt w1 a1 a2 a3 a4 A C d) := hk.keep hb1
  have HBR : Hid (Blk w1 w.heap.size #[.slice a1 d.nN c1, .slice a2 d.nF c2, .slice a3 d.nO c3, .slice a4 d.nW c4] 27) := hbk.keep hb1
  have HT1 : Hid (Tab w1) := HT.out.keep bel1
  have HSM : Hid (Small d) := hs
  have HBL : Hid (Below w.heap.size w w1) := bel1
  have x0 := HBR.out.cell 0
  simp at x0
  clear hbk hk hb1 bel hr hs HT bel1
  have bl0 := Bldr.new w1
  have bw0 : Below w1.heap.size w1 (w1.alloc (.cells #[.pointer none, .slice none 0 0] 44)) := (Below.refl _ _).alloc (Nat.le_refl _) _
  have y0 := (HBR.out.alloc (.cells #[.pointer none, .slice none 0 0] 44)).cell 0
  simp at y0
  go_wp2
  generalize (w1.alloc (.cells #[.pointer none, .slice none 0 0] 44)) = W2 at *
  clear x0 y0 z
  go_loopw [12] (fun t wr => ∃ q : Nat, q ≤ d.nN ∧ t = .int .i64 q ∧ Bldr wr w1.heap.size w1.heap.size (rowTxt d q) ∧ Below w1.heap.size w1 wr) (fun t _ => d.nN - (intOf t).toNat)
  case atStart => exact ⟨0, by omega, rfl, bl0, bw0⟩
  case round =>
    clear bl0 bw0
    obtain ⟨q, hq, rfl, hBl, hB⟩ := hrel
    have hlen := rowTxt_len hR.out q hq
    by_cases hlt : q < d.nN
    · have HBlk : Hid (∀ V, Below w1.heap.size w1 V → Blk V w.heap.size #[.slice a1 d.nN c1, .slice a2 d.nF c2, .slice a3 d.nO c3, .slice a4 d.nW c4] 27) := fun V hV => HBR.out.keep hV
      have HRow : Hid (∀ V, Below w1.heap.size w1 V → RowAt V a1 a2 a3 a4 A C d) := fun V hV => HK1.out.keep hV
      have HTab : Hid (∀ V, Below w1.heap.size w1 V → Tab V) := fun V hV => HT1.out.keep hV
      have hT := hR.out.tell hlt
      have hwy : OkWay d q := hR.out.w q hlt
      unfold OkWay at hwy
      have hll := lamp_len (d.wk q) 4 (by omega)
      have hnl := next_len hT.nh
      have hfl := dec_len9 (n := (d.fr q).toNat) (by have := hT.f0; have := hT.f1; omega)
      have HS : Hid (rowTxt d (q + 1) = rowTxt d q ++ openTxt (d.op q) ++ ([32, 108, 97, 109, 112, 115, 32] ++ lampTxt (d.wk q) 4) ++ nextTxt (d.nx q) ++ ([32, 102, 97, 114, 32] ++ dec (d.fr q).toNat ++ [10])) := row_next d q
      have HTe : Hid (Tellable d q) := hT
      obtain ⟨bn, on, rfl, hcn⟩ := (HRow.out wr hB).nx q hlt
      obtain ⟨bf, fo, rfl, hcf⟩ := (HRow.out wr hB).fr q hT.iF
      obtain ⟨bo, oo, rfl, hco⟩ := (HRow.out wr hB).op q hT.iO
      obtain ⟨b4, o4, rfl, hc4⟩ := (HRow.out wr hB).wk q hT.iW
      have HCF : Hid (∀ V, Below w1.heap.size w1 V → V.cell? ⟨bf, fo + q, none⟩ = some (.int .i64 (d.fr q))) := fun V hV => by
        obtain ⟨b', o', e', hc'⟩ := (HRow.out V hV).fr q HTe.out.iF
        injection e' with e'
        injection e' with e1 e2
        subst e1 e2
        exact hc'
      have HC4 : Hid (∀ V, Below w1.heap.size w1 V → V.cell? ⟨b4, o4 + q, none⟩ = some (.slice (A q) 4 (C q)) ∧ SlAt V (A q) 4 (fun j => .bool (d.wk q j))) := fun V hV => by
        obtain ⟨b', o', e', hc'⟩ := (HRow.out V hV).wk q HTe.out.iW
        have hl' := (HRow.out V hV).lm q HTe.out.iW
        replace hc' : V.cell? ⟨b', o' + q, none⟩ = some (.slice (A q) (d.L q) (C q)) := hc'
        rw [HTe.out.L4] at hc' hl'
        injection e' with e'
        injection e' with e1 e2
        subst e1 e2
        exact ⟨hc', hl'⟩
      have hf0 := hT.f0
      have hf1 := hT.f1
      have hiF := hT.iF
      have hiO := hT.iO
      have hiW := hT.iW
      have hop : (openTxt (d.op q)).length = 4 := by cases d.op q <;> rfl
      have hNF : d.nF ≤ 1048576 := HSM.out.nF
      have hNO : d.nO ≤ 1048576 := HSM.out.nO
      have hNW : d.nW ≤ 1048576 := HSM.out.nW
      have HN1 : Hid (d.nx q = -1 → nextTxt (d.nx q) = [32, 101, 110, 100]) := fun e => by show _ = _; unfold nextTxt; rw [if_neg (by omega)]
      have HN2 : Hid (d.nx q ≠ -1 → nextTxt (d.nx q) = [32, 110, 101, 120, 116, 32] ++ dec (d.nx q).toNat ∧ ((d.nx q).toNat : Int) = d.nx q ∧ (d.nx q).toNat < 1000000000) := fun e => by
        refine ⟨?_, by omega, by have := HTe.out.nh; omega⟩
        unfold nextTxt; rw [if_pos (by omega)]
      obtain ⟨fn, hfn⟩ : ∃ fn : Nat, (fn : Int) = d.fr q := ⟨(d.fr q).toNat, by omega⟩
      have hfn2 : (d.fr q).toNat = fn := by omega
      rw [hfn2] at HS hfl
      have HFN : Hid ((fn : Int) = d.fr q) := hfn
      have hfn9 : fn < 1000000000 := by omega
      clear hfn hfn2
      replace hco : wr.cell? ⟨bo, oo + q, none⟩ = some (.bool (d.op q)) := hco
      replace hcn : wr.cell? ⟨bn, on + q, none⟩ = some (.int .i64 (d.nx q)) := hcn
      have hbl := HBlk.out wr hB
      have x2 := hbl.cell 2
      simp at x2
      obtain ⟨op, hope⟩ : ∃ op, op = openTxt (d.op q) := ⟨_, rfl⟩
      have HOP : Hid (openTxt (d.op q) = op) := hope.symm
      rw [← hope] at HS hop
      clear hope
      clear hT hwy hc4 hcf hbl
      go_wp2_with fail
      refine (openWord_any (d.op q) wr).mono ?_
      rw [HOP.out]
      rintro e w' ⟨rfl, hw'⟩
      have hw' := hw'.symm
      subst hw'
      go_wp2_with fail
      refine (bld_write _ _ _ op _ hBl (by omega)).mono ?_
      rintro e w2 ⟨rfl, hBl2, hb2, -⟩
      have hB2 : Below w1.heap.size w1 w2 := hB.trans hb2
      have HB2 : Hid (Below w1.heap.size w1 w2) := hB2
      clear hco hcn x2 hBl hb2 hB
      have hl2 : (rowTxt d q ++ op).length ≤ 101 * q + 4 := by rw [List.length_append]; omega
      have hbl := HBlk.out w2 hB2
      have x3 := hbl.cell 3
      simp at x3
      have hc4 := (HC4.out w2 hB2).1
      have hlm := (HC4.out w2 hB2).2
      clear hbl hB2
      go_wp2_with fail
      refine (lampsWord_any (A q) (C q) (d.wk q) w2 hlm).mono ?_
      rintro e w3 ⟨rfl, hb3⟩
      have hB3 : Below w1.heap.size w1 w3 := HB2.out.trans (hb3.mono HB2.out.size)
      have HB3 : Hid (Below w1.heap.size w1 w3) := hB3
      have hBl3 := hBl2.keep hb3
      have ha : ∀ V, (Op.stringOp .add ⟨#[32, 108, 97, 109, 112, 115, 32]⟩ (bs (lampTxt (d.wk q) 4))).run Tryz.prog V = .ok (.string (bs ([32, 108, 97, 109, 112, 115, 32] ++ lampTxt (d.wk q) 4))) V := fun V => add_bs [32, 108, 97, 109, 112, 115, 32] _ (by simp; omega) V
      clear hBl2 hb3 hlm hc4 x3 hB3
      have hl3 : ([32, 108, 97, 109, 112, 115, 32] ++ lampTxt (d.wk q) 4).length ≤ 50 := by simp; omega
      generalize ([32, 108, 97, 109, 112, 115, 32] ++ lampTxt (d.wk q) 4) = lm at *
      go_wp2_with fail
      refine (bld_write _ _ _ lm _ hBl3 (by omega)).mono ?_
      rintro e w4 ⟨rfl, hBl4, hb4, -⟩
      have HB4 : Hid (Below w1.heap.size w1 w4) := HB3.out.trans hb4
      have hl4 : (rowTxt d q ++ op ++ lm).length ≤ 101 * q + 54 := by rw [List.length_append]; omega
      clear hBl3 hb4 ha
      generalize rowTxt d q ++ op ++ lm = rt at *
      by_cases hn : d.nx q = -1
      case' pos =>
        have z : (d.nx q == -1) = true := by rw [beq_iff_eq]; exact hn
        rw [HN1.out hn] at HS
        have hx : ([32, 101, 110, 100] : List UInt8).length = 4 := rfl
        generalize hnt : ([32, 101, 110, 100] : List UInt8) = nt at HS hx
        have HNT : Hid (([32, 101, 110, 100] : List UInt8) = nt) := hnt
        clear hnt
        go_wp2_with fail
        refine (bld_write _ _ _ [32, 101, 110, 100] _ hBl4 (by simp; omega)).mono ?_
        rintro e w5 ⟨rfl, hBl5, hb5, -⟩
        rw [HNT.out] at hBl5
        have HB5 : Hid (Below w1.heap.size w1 w5) := HB4.out.trans hb5
        have hnl5 : nt.length ≤ 15 := by omega
        clear hBl4 hb5 HNT hx
      case' neg =>
        obtain ⟨e1, e2, e3⟩ := HN2.out hn
        have z : (d.nx q == -1) = false := by rw [beq_eq_false_iff_ne]; exact hn
        rw [e1] at HS hnl
        have hit := itoa_any _ w4 e3 (HTab.out w4 HB4.out)
        rw [e2] at hit
        clear e2 HN1 HN2 hn
        generalize (d.nx q).toNat = nn at *
        go_wp2_with fail
        refine hit.mono ?_
        rintro e w45 ⟨rfl, hb45⟩
        have HB45 : Hid (Below w1.heap.size w1 w45) := HB4.out.trans (hb45.mono HB4.out.size)
        have hBl45 := hBl4.keep hb45
        have ha : ∀ V, (Op.stringOp .add ⟨#[32, 110, 101, 120, 116, 32]⟩ (bs (dec nn))).run Tryz.prog V = .ok (.string (bs ([32, 110, 101, 120, 116, 32] ++ dec nn))) V := fun V => add_bs [32, 110, 101, 120, 116, 32] _ (by simp; have := dec_len9 e3; omega) V
        clear hBl4 hb45 e1 hit
        generalize ([32, 110, 101, 120, 116, 32] ++ dec nn) = nt at *
        go_wp2_with fail
        refine (bld_write _ _ _ nt _ hBl45 (by omega)).mono ?_
        rintro e w5 ⟨rfl, hBl5, hb5, -⟩
        have HB5 : Hid (Below w1.heap.size w1 w5) := HB45.out.trans hb5
        have hnl5 : nt.length ≤ 15 := by omega
        clear hBl45 hb5 ha
      all_goals
        have hl5 : (rt ++ nt).length ≤ 101 * q + 69 := by rw [List.length_append]; omega
        generalize rt ++ nt = r5 at *
        have hbl := HBlk.out w5 HB5.out
        have x1 := hbl.cell 1
        simp at x1
        have hcf := HCF.out w5 HB5.out
        have hit := itoa_any fn w5 (by omega) (HTab.out w5 HB5.out)
        rw [HFN.out] at hit
        clear hbl
        go_wp2_with fail
        refine hit.mono ?_
        rintro e w6 ⟨rfl, hb6⟩
        have HB6 : Hid (Below w1.heap.size w1 w6) := HB5.out.trans (hb6.mono HB5.out.size)
        have hBl6 := hBl5.keep hb6
        have ha : ∀ V, (Op.stringOp .add ⟨#[32, 102, 97, 114, 32]⟩ (bs (dec fn))).run Tryz.prog V = .ok (.string (bs ([32, 102, 97, 114, 32] ++ dec fn))) V := fun V => add_bs [32, 102, 97, 114, 32] _ (by simp; omega) V
        have ha2 : ∀ V, (Op.stringOp .add (bs ([32, 102, 97, 114, 32] ++ dec fn)) ⟨#[10]⟩).run Tryz.prog V = .ok (.string (bs ([32, 102, 97, 114, 32] ++ dec fn ++ [10]))) V := fun V => add_bs _ [10] (by simp; omega) V
        have hl6 : ([32, 102, 97, 114, 32] ++ dec fn ++ [10]).length ≤ 20 := by simp; omega
        clear hBl5 hb6 x1 hcf hit
        generalize ([32, 102, 97, 114, 32] ++ dec fn) = fx at *
        generalize fx ++ [10] = ft at *
        go_wp2_with fail
        refine (bld_write _ _ _ ft _ hBl6 (by omega)).mono ?_
        rintro e w7 ⟨rfl, hBl7, hb7, -⟩
        rw [← HS.out] at hBl7
        have HB7 : Hid (Below w1.heap.size w1 w7) := HB6.out.trans hb7
        clear ha ha2 hBl6 hb7
        go_wp2
        go_roundw
        case rel => exact ⟨q + 1, by omega, by go_num, hBl7, HB7.out⟩
        case measure => simp [intOf]; omega
    · obtain rfl : q = d.nN := by omega
      have HI : Hid (IsText d (rowTxt d d.nN)) := Or.inl ⟨hR.out, rfl⟩
      go_wp2_with fail
      refine (bld_string _ _ _ wr hBl).mono ?_
      rintro e w5 ⟨rfl, hb5⟩
      go_wp2
      go_ret
      exact ⟨⟨_, HI.out, rfl⟩, HBL.out.trans ((hB.trans hb5).mono HBL.out.size)⟩

end Go.Proofs.YtachkoledebanaaGreatDoor
