import Derived.Test.YtachkoledebanabGreatDoorStrEtc
import Derived.Test.YtachkoledebanabGreatDoorBldEtc
namespace Go.Proofs.YtachkoledebanabGreatDoor
open Go.RowKit

def HasMax (w : World) : Prop := ∃ m, w.cell? ⟨5, 0, none⟩ = some (.int .i64 m)
theorem cut_any (c : UInt8) (l : List UInt8) (w : World) (hl : l.length ≤ 10000) (hm : HasMax w) :
    Calls Tryz.prog 56 #[.string (bs l), .string (bs [c])] w fun e w' =>
      (∃ x y m, e = .returned (.tuple #[.string (bs x), .string (bs y), .bool m]) ∧ ((m = false ∧ x = l ∧ y = [] ∧ ∀ z ∈ l, z ≠ c) ∨ (m = true ∧ l = x ++ c :: y ∧ ∀ z ∈ x, z ≠ c))) ∧ Below w.heap.size w w' ∧ w'.heap.size = w.heap.size := by
  obtain ⟨m, hm⟩ := hm
  refine (Tryz.strings_Cut (bs l) (bs [c]) m w (by rw [bs_size]; omega) hm).mono ?_
  rintro e w' ⟨rfl, n, rfl⟩
  refine ⟨?_, below_drewN (Below.refl _ _) n, by simp⟩
  have e1 : (bs l).data.toList = l := by unfold bs; simp
  have e2 : (bs [c]).data.toList = [c] := rfl
  rw [e1, e2]
  rcases cut_at c l with ⟨h1, h2⟩ | ⟨x, y, h1, h2, h3⟩
  · exact ⟨l, [], false, by rw [h2]; rfl, Or.inl ⟨rfl, rfl, rfl, h1⟩⟩
  · exact ⟨x, y, true, by rw [h3]; rfl, Or.inr ⟨rfl, h2, h1⟩⟩

/-- the closure over the blocks bl, bl + 1 -/
def wfn (bl : Nat) : Value := .func (.func 86) #[] #[.pointer (some ⟨bl + 1, 0, none⟩), .pointer (some ⟨bl, 0, none⟩)]
/-- it has the words ws still to tell -/
def St (w : World) (bl : Nat) (ws : List (List UInt8)) : Prop :=
  ∃ (more : Bool) (rest : List UInt8), Blk w (bl + 1) #[.bool more] 4 ∧ Blk w bl #[.string (bs rest)] 9 ∧ ws = (if more then words rest else []) ∧ rest.length ≤ 10000
theorem St.keep {w w' : World} {bl : Nat} {ws : List (List UInt8)} (h : St w bl ws) (hb : Below w.heap.size w w') : St w' bl ws := by
  obtain ⟨m, r, h1, h2, h3⟩ := h
  exact ⟨m, r, h1.keep hb, h2.keep hb, h3⟩
theorem St.lt {w : World} {bl : Nat} {ws : List (List UInt8)} (h : St w bl ws) : bl + 1 < w.heap.size := by
  obtain ⟨m, r, h1, h2, h3⟩ := h
  exact h1.lt

set_option maxHeartbeats 1000000 in
theorem word_any (bl : Nat) (ws : List (List UInt8)) (w : World) (h : St w bl ws) (hm : HasMax w) :
    Calls Tryz.prog 86 #[.pointer (some ⟨bl + 1, 0, none⟩), .pointer (some ⟨bl, 0, none⟩)] w fun e w' =>
      e = .returned (.string (bs (nw ws))) ∧ St w' bl (nr ws) ∧ Only bl (bl + 2) w w' ∧ w'.heap.size = w.heap.size := by
  have h' := h
  obtain ⟨more, rest, hB1, hB0, hws, hl⟩ := h
  have c0 := hB0.cell 0
  have c1 := hB1.cell 0
  simp at c0 c1
  go_enter Tryz.func86, Tryz.ntmps86
  cases more
  · obtain rfl : ws = [] := hws
    go_wp2
    go_ret
    exact ⟨rfl, h', Only.refl _ _ _, rfl⟩
  · replace hws : ws = words rest := hws
    clear h'
    have HB0 : Hid (Blk w bl #[.string (bs rest)] 9) := hB0
    have HB1 : Hid (Blk w (bl + 1) #[.bool true] 4) := hB1
    have HWS : Hid (ws = words rest) := hws
    clear hB0 hB1 hws
    go_wp2_with fail
    refine (cut_any 32 rest w hl hm).mono ?_
    rintro e w2 ⟨⟨x, y, m, rfl, hc⟩, hb2, hs2⟩
    have k0 := HB0.out.keep hb2
    have k1 := HB1.out.keep hb2
    have d0 := k0.cell 0
    have d1 := k1.cell 0
    simp at d0 d1
    have f0 := k0.free 0
    have f1 := k1.free 0
    have hF : nw ws = x ∧ St ((w2.setCell ⟨bl, 0, none⟩ (.string (bs y))).setCell ⟨bl + 1, 0, none⟩ (.bool m)) bl (nr ws) := by
      have q0 := (k0.set 0 (.string (bs y))).other (a := ⟨bl + 1, 0, none⟩) (by show bl ≠ bl + 1; omega) (.bool m)
      have q1 := (k1.other (a := ⟨bl, 0, none⟩) (by show bl + 1 ≠ bl; omega) (.string (bs y))).set 0 (.bool m)
      simp at q0 q1
      rcases hc with ⟨rfl, rfl, rfl, hz⟩ | ⟨rfl, rfl, hz⟩
      · have e := words_one (x := x) hz
        refine ⟨by rw [HWS.out, e]; rfl, false, [], q1, q0, by rw [HWS.out, e]; rfl, by simp⟩
      · have e := words_cons (x := x) (y := y) hz
        refine ⟨by rw [HWS.out, e]; rfl, true, y, q1, q0, by rw [HWS.out, e]; rfl, ?_⟩
        simp at hl
        omega
    have hO : Only bl (bl + 2) w ((w2.setCell ⟨bl, 0, none⟩ (.string (bs y))).setCell ⟨bl + 1, 0, none⟩ (.bool m)) :=
      ((Only.ofBelow hb2).setCell (p := ⟨bl, 0, none⟩) (Nat.le_refl _) (by show bl < bl + 2; omega) _).setCell (p := ⟨bl + 1, 0, none⟩) (by show bl ≤ bl + 1; omega) (by show bl + 1 < bl + 2; omega) _
    have HF : Hid (nw ws = x ∧ St ((w2.setCell ⟨bl, 0, none⟩ (.string (bs y))).setCell ⟨bl + 1, 0, none⟩ (.bool m)) bl (nr ws)) := hF
    have HO : Hid (Only bl (bl + 2) w ((w2.setCell ⟨bl, 0, none⟩ (.string (bs y))).setCell ⟨bl + 1, 0, none⟩ (.bool m))) := hO
    clear hF hO k0 k1 hc hb2 c0 c1
    go_wp2
    go_ret
    exact ⟨by rw [HF.out.1]; rfl, HF.out.2, HO.out, by simpa using hs2⟩

/-- what lies below the closure's blocks stays -/
theorem HasMax.only {w w' : World} {lo hi : Nat} (h : HasMax w) (ho : Only lo hi w w') (hl : 10 ≤ lo) : HasMax w' := by
  obtain ⟨m, h⟩ := h
  exact ⟨m, ho.cell (Or.inl (by show 5 < lo; omega)) h⟩

theorem openIn_any (bl : Nat) (ws : List (List UInt8)) (w : World) (h : St w bl ws) (hm : HasMax w) :
    Calls Tryz.prog 74 #[wfn bl] w fun e w' =>
      e = .returned (.tuple #[.bool (decide (nw ws = opW true)), .bool (decide (nw ws = opW true) || decide (nw ws = opW false))]) ∧ St w' bl (nr ws) ∧ Only bl (bl + 2) w w' ∧ w'.heap.size = w.heap.size := by
  have hwd := word_any bl ws w h hm
  unfold wfn
  go_enter Tryz.func74, Tryz.ntmps74
  go_wp2_with fail
  refine hwd.mono ?_
  rintro e w2 ⟨rfl, h2, ho, hs⟩
  obtain ⟨x, hx0⟩ : ∃ x, nw ws = x := ⟨_, rfl⟩
  have HX : Hid (nw ws = x) := hx0
  rw [hx0]
  clear hwd h hm hx0
  have z1 : ((bs x).toList == (bs (openTxt true)).toList) = decide (x = opW true) := by
    rw [bs_list, bs_list]; show (x == opW true) = _; by_cases e : x = opW true <;> simp [e]
  have z2 : ((bs x).toList == (bs (openTxt false)).toList) = decide (x = opW false) := by
    rw [bs_list, bs_list]; show (x == opW false) = _; by_cases e : x = opW false <;> simp [e]
  by_cases hx : x = opW true
  · have d1 : decide (x = opW true) = true := by simpa using hx
    have HD : Hid (decide (x = opW true) = true) := d1
    rw [d1] at z1
    clear z2 hx d1
    go_wp2_with (go_at_call 87; refine (openWord_any _ _).mono ?_; rintro e w' ⟨rfl, rfl⟩)
    go_ret2
    exact ⟨by rw [HX.out, HD.out]; rfl, h2, ho, hs⟩
  · have d1 : decide (x = opW true) = false := by simpa using hx
    have HD : Hid (decide (x = opW true) = false) := d1
    rw [d1] at z1
    obtain ⟨bz, hbz⟩ : ∃ bz, decide (x = opW false) = bz := ⟨_, rfl⟩
    have HZ : Hid (decide (x = opW false) = bz) := hbz
    rw [hbz] at z2
    clear hx d1 hbz
    go_wp2_with (go_at_call 87; refine (openWord_any _ _).mono ?_; rintro e w' ⟨rfl, rfl⟩)
    go_ret2
    exact ⟨by rw [HX.out, HD.out, HZ.out]; rfl, h2, ho, hs⟩

end Go.Proofs.YtachkoledebanabGreatDoor

namespace Go.Proofs.YtachkoledebanabGreatDoor
open Go.RowKit

def NumOk (x : List UInt8) (n : Int) (ok : Bool) : Prop :=
  (ok = true → 0 ≤ n ∧ n < 100000000 ∧ x = dec n.toNat) ∧ (ok = false → ∀ m, m < 100000000 → x ≠ dec m)
theorem NumOk.no {x : List UInt8} {n : Int} (h : ∀ m, m < 100000000 → x ≠ dec m) : NumOk x n false := ⟨fun e => (by cases e), fun _ => h⟩

def RetNum (x : List UInt8) (e : Ending) : Prop := ∃ n ok, e = .returned (.tuple #[.int .i64 n, .bool ok]) ∧ NumOk x n ok
theorem RetNum.mk {x : List UInt8} {e : Ending} (n : Int) (ok : Bool) (h : e = .returned (.tuple #[.int .i64 n, .bool ok])) (k : NumOk x n ok) : RetNum x e := ⟨n, ok, h, k⟩

set_option maxHeartbeats 1000000 in
theorem numberIn_any (x : List UInt8) (w : World) (hx : x.length ≤ 10000) (L : Laid w) :
    Calls Tryz.prog 90 #[.string (bs x)] w fun e w' =>
      RetNum x e ∧ Below w.heap.size w w' := by
  have hsz : (bs x).size ≤ 281474976710656 := by rw [bs_size]; omega
  have hl : (bs x).data.toList = x := by unfold bs; simp
  go_enter Tryz.func90, Tryz.ntmps90
  cases h : Lib.atoiAll x with
  | «syntax» =>
    obtain ⟨tp, p, hv⟩ := L.syn
    have hcall := Tryz.strconv_Atoi_syntax_var (bs x) hsz (by rw [hl]; exact h) tp p w hv
    have HN : Hid (∀ m, m < 100000000 → x ≠ dec m) := fun m hm e => by rw [e, atoi_dec hm] at h; cases h
    clear h hv L hl hsz
    go_wp2_with fail
    refine hcall.mono ?_
    rintro e w2 ⟨N, rfl, -, -, hb⟩
    clear hcall
    go_wp2
    go_ret2
    exact ⟨RetNum.mk _ _ rfl (NumOk.no HN.out), hb⟩
  | range =>
    obtain ⟨tp, p, hv⟩ := L.rng
    have hcall := Tryz.strconv_Atoi_range_var (bs x) hsz (by rw [hl]; exact h) tp p w hv
    have HN : Hid (∀ m, m < 100000000 → x ≠ dec m) := fun m hm e => by rw [e, atoi_dec hm] at h; cases h
    clear h hv L hl hsz
    go_wp2_with fail
    refine hcall.mono ?_
    rintro e w2 ⟨N, rfl, -, -, hb⟩
    clear hcall
    go_wp2
    go_ret2
    exact ⟨RetNum.mk _ _ rfl (NumOk.no HN.out), hb⟩
  | ok v =>
    have hcall := Tryz.strconv_Atoi_ok (bs x) (by omega) v (by rw [hl]; exact h) w
    have HN : Hid (∀ m, m < 100000000 → x = dec m → v = m) := fun m hm e => by rw [e, atoi_dec hm] at h; injection h with h; exact h.symm
    have HL : Hid (Laid w) := L
    clear h L hl hsz
    go_wp2_with fail
    refine hcall.mono ?_
    rintro e w2 ⟨rfl, hw2⟩
    have hb2 : Below w.heap.size w w2 := by
      rcases hw2 with rfl | ⟨t, rfl⟩
      · exact Below.refl _ _
      · exact Lib.bytesWorld_below w _ t
    clear hcall hw2
    by_cases h0 : 0 ≤ v
    · by_cases h1 : v ≤ 99999999
      · obtain ⟨n, rfl⟩ : ∃ n : Nat, v = n := ⟨v.toNat, by omega⟩
        have hit := itoa_any n w2 (by omega) (HL.out.keep hb2).tab
        have z1 : ((bs (dec n)).toList == (bs x).toList) = decide (x = dec n) := by
          rw [bs_list, bs_list]; by_cases e : x = dec n
          · subst e; simp
          · have e' : (dec n == x) = false := by rw [beq_eq_false_iff_ne]; exact fun u => e u.symm
            simp [e, e']
        by_cases hxn : x = dec n
        · have d1 : decide (x = dec n) = true := by simpa using hxn
          rw [d1] at z1
          have HE : Hid (NumOk x n true) := ⟨fun _ => ⟨by omega, by omega, by rw [Int.toNat_natCast]; exact hxn⟩, fun e => (by cases e)⟩
          clear hxn d1 HN
          go_wp2_with (go_at_call 22; refine hit.mono ?_; rintro e w3 ⟨rfl, hb3⟩)
          go_ret2
          exact ⟨RetNum.mk _ _ rfl HE.out, chain hb2 hb3⟩
        · have d1 : decide (x = dec n) = false := by simpa using hxn
          rw [d1] at z1
          have HE : Hid (NumOk x n false) := NumOk.no fun m hm e => hxn (by have := HN.out m hm e; rw [e]; congr 1; omega)
          clear hxn d1 HN
          go_wp2_with (go_at_call 22; refine hit.mono ?_; rintro e w3 ⟨rfl, hb3⟩)
          go_ret2
          exact ⟨RetNum.mk _ _ rfl HE.out, chain hb2 hb3⟩
      · have HE : Hid (NumOk x v false) := NumOk.no fun m hm e => by have := HN.out m hm e; omega
        clear HN
        go_wp2
        go_ret2
        exact ⟨RetNum.mk _ _ rfl HE.out, hb2⟩
    · have HE : Hid (NumOk x v false) := NumOk.no fun m hm e => by have := HN.out m hm e; omega
      clear HN
      go_wp2
      go_ret2
      exact ⟨RetNum.mk _ _ rfl HE.out, hb2⟩

/-- the words begin with an end, or a number -/
def NextOk (ws ws' : List (List UInt8)) (n : Int) (ok : Bool) : Prop :=
  (ok = true → -1 ≤ n ∧ n < 100000000 ∧ ws = nxW n ++ ws') ∧ (ok = false → ∀ m r, m < 100000000 → ws ≠ nxW m ++ r)
def RetNext (bl : Nat) (ws : List (List UInt8)) (e : Ending) (w' : World) : Prop := ∃ n ok ws', e = .returned (.tuple #[.int .i64 n, .bool ok]) ∧ NextOk ws ws' n ok ∧ St w' bl ws' ∧ ∀ y ∈ ws', y ∈ ws
theorem RetNext.mk {bl : Nat} {ws : List (List UInt8)} {e : Ending} {w' : World} (n : Int) (ok : Bool) (ws' : List (List UInt8)) (h : e = .returned (.tuple #[.int .i64 n, .bool ok])) (k : NextOk ws ws' n ok) (l : St w' bl ws') (m : ∀ y ∈ ws', y ∈ ws) : RetNext bl ws e w' := ⟨n, ok, ws', h, k, l, m⟩
theorem nxW_head (m : Int) : (∃ t, nxW m = [101, 110, 100] :: t ∧ m < 0 ∧ t = []) ∨ (∃ t, nxW m = [110, 101, 120, 116] :: t ∧ 0 ≤ m ∧ t = [dec m.toNat]) := by
  unfold nxW
  by_cases h : 0 ≤ m
  · rw [if_pos h]; exact Or.inr ⟨_, rfl, h, rfl⟩
  · rw [if_neg h]; exact Or.inl ⟨_, rfl, by omega, rfl⟩
/-- behind words told: the base still stands -/
theorem low_only {w0 w w' : World} (hb : Below w0.heap.size w0 w) (ho : Only w0.heap.size (w0.heap.size + 2) w w') : Below w0.heap.size w0 w' :=
  hb.trans (ho.below (Nat.le_refl _) hb.size)
theorem Laid.max {w : World} (h : Laid w) : HasMax w := h.mx

set_option maxHeartbeats 1000000 in
theorem nextIn_any (w0 : World) (L : Laid w0) (ws : List (List UInt8)) (w : World) (hb : Below w0.heap.size w0 w) (h : St w w0.heap.size ws) (hws : ∀ x ∈ ws, x.length ≤ 10000) :
    Calls Tryz.prog 76 #[wfn w0.heap.size] w fun e w' => RetNext w0.heap.size ws e w' ∧ Only w0.heap.size (w0.heap.size + 2) w w' := by
  have hwd := word_any w0.heap.size ws w h (L.keep hb).max
  have HL : Hid (Laid w0) := L
  have HW : Hid (∀ x ∈ ws, x.length ≤ 10000) := hws
  have HB : Hid (Below w0.heap.size w0 w) := hb
  unfold wfn
  go_enter Tryz.func76, Tryz.ntmps76
  go_wp2_with fail
  refine hwd.mono ?_
  rintro e w2 ⟨rfl, h2, ho, hs⟩
  obtain ⟨x, hx0⟩ : ∃ x, nw ws = x := ⟨_, rfl⟩
  have HX : Hid (nw ws = x) := hx0
  have HO : Hid (Only w0.heap.size (w0.heap.size + 2) w w2) := ho
  rw [hx0]
  clear hwd h hx0 L hws hb ho hs
  have z1 : ((bs x).toList == [101, 110, 100]) = decide (x = [101, 110, 100]) := by
    rw [bs_list]; by_cases e : x = [101, 110, 100] <;> simp [e]
  have z2 : ((bs x).toList == [110, 101, 120, 116]) = decide (x = [110, 101, 120, 116]) := by
    rw [bs_list]; by_cases e : x = [110, 101, 120, 116] <;> simp [e]
  by_cases hx : x = [101, 110, 100]
  · have d1 : decide (x = [101, 110, 100]) = true := by simpa using hx
    rw [d1] at z1
    have HN : Hid (NextOk ws (nr ws) (-1) true) := ⟨fun _ => ⟨by omega, by omega, by rw [hx] at HX; exact nw_eq HX.out (by simp)⟩, fun e => (by cases e)⟩
    clear z2 hx d1
    go_wp2
    go_ret2
    exact ⟨RetNext.mk _ _ _ rfl HN.out h2 (fun y hy => nr_sub hy), HO.out⟩
  · have d1 : decide (x = [101, 110, 100]) = false := by simpa using hx
    rw [d1] at z1
    by_cases hy : x = [110, 101, 120, 116]
    · have d2 : decide (x = [110, 101, 120, 116]) = true := by simpa using hy
      rw [d2] at z2
      have HE : Hid (ws = [110, 101, 120, 116] :: nr ws) := by rw [hy] at HX; exact nw_eq HX.out (by simp)
      have hwd := word_any w0.heap.size (nr ws) w2 h2 (HL.out.keep (low_only HB.out HO.out)).max
      clear hx hy d1 d2 h2
      go_wp2_with fail
      refine hwd.mono ?_
      rintro e w3 ⟨rfl, h3, ho3, hs3⟩
      obtain ⟨y, hy0⟩ : ∃ y, nw (nr ws) = y := ⟨_, rfl⟩
      have HY : Hid (nw (nr ws) = y) := hy0
      rw [hy0]
      have HO3 : Hid (Only w0.heap.size (w0.heap.size + 2) w w3) := HO.out.trans ho3
      have hyl : y.length ≤ 10000 := by
        rw [← hy0]
        cases hr : nr ws with
        | nil => simp [nw]
        | cons u r => exact HW.out u (nr_sub (by rw [hr]; simp))
      have hnum := numberIn_any y w3 hyl (HL.out.keep (low_only HB.out HO3.out))
      clear hwd hy0 ho3 hs3 hyl
      go_wp2_with fail
      refine hnum.mono ?_
      rintro e w4 ⟨⟨n, ok, rfl, hn⟩, hb4⟩
      have HN : Hid (NextOk ws (nr (nr ws)) n ok) := by
        refine ⟨fun e => ?_, fun e m r hm q => ?_⟩
        · obtain ⟨q1, q2, q3⟩ := hn.1 e
          refine ⟨by omega, q2, ?_⟩
          have e2 : nr ws = dec n.toNat :: nr (nr ws) := nw_eq (HY.out.trans q3) (fun u => by
            have := dec_digs n.toNat 10 (by rw [u]; simp)
            unfold isDig at this
            have e10 : (10 : UInt8).toNat = 10 := rfl
            omega)
          unfold nxW
          rw [if_pos q1]
          show ws = [110, 101, 120, 116] :: dec n.toNat :: nr (nr ws)
          rw [← e2]
          exact HE.out
        · rcases nxW_head m with ⟨t, e1, e2, e3⟩ | ⟨t, e1, e2, e3⟩
          · rw [e1, HE.out] at q
            simp at q
          · rw [e1, HE.out, e3] at q
            simp at q
            refine hn.2 e m.toNat (by omega) ?_
            rw [← HY.out, q]
            rfl
      have hO4 : Only w0.heap.size (w0.heap.size + 2) w w4 := HO3.out.trans (Only.ofBelow hb4)
      have h4 := h3.keep hb4
      clear hnum hn hb4 h3
      go_wp2
      go_ret2
      exact ⟨RetNext.mk _ _ _ rfl HN.out h4 (fun y hy => nr_sub (nr_sub hy)), hO4⟩
    · have d2 : decide (x = [110, 101, 120, 116]) = false := by simpa using hy
      rw [d2] at z2
      have HN : Hid (NextOk ws (nr ws) 0 false) := ⟨fun e => (by cases e), fun _ m r hm q => by
        rcases nxW_head m with ⟨t, e1, _⟩ | ⟨t, e1, _⟩
        · rw [q, e1] at HX
          exact hx (show x = _ from HX.out.symm)
        · rw [q, e1] at HX
          exact hy (show x = _ from HX.out.symm)⟩
      clear hx hy d1 d2
      go_wp2
      go_ret2
      exact ⟨RetNext.mk _ _ _ rfl HN.out h2 (fun y hy => nr_sub hy), HO.out⟩

/-- the words begin with far and a number -/
def FarOk (ws ws' : List (List UInt8)) (n : Int) (ok : Bool) : Prop :=
  (ok = true → 0 ≤ n ∧ n < 100000000 ∧ ws = [102, 97, 114] :: dec n.toNat :: ws') ∧ (ok = false → ∀ m r, m < 100000000 → ws ≠ [102, 97, 114] :: dec m :: r)
def RetFar (bl : Nat) (ws : List (List UInt8)) (e : Ending) (w' : World) : Prop := ∃ n ok ws', e = .returned (.tuple #[.int .i64 n, .bool ok]) ∧ FarOk ws ws' n ok ∧ St w' bl ws' ∧ ∀ y ∈ ws', y ∈ ws
theorem RetFar.mk {bl : Nat} {ws : List (List UInt8)} {e : Ending} {w' : World} (n : Int) (ok : Bool) (ws' : List (List UInt8)) (h : e = .returned (.tuple #[.int .i64 n, .bool ok])) (k : FarOk ws ws' n ok) (l : St w' bl ws') (m : ∀ y ∈ ws', y ∈ ws) : RetFar bl ws e w' := ⟨n, ok, ws', h, k, l, m⟩

set_option maxHeartbeats 1000000 in
theorem farIn_any (w0 : World) (L : Laid w0) (ws : List (List UInt8)) (w : World) (hb : Below w0.heap.size w0 w) (h : St w w0.heap.size ws) (hws : ∀ x ∈ ws, x.length ≤ 10000) :
    Calls Tryz.prog 77 #[wfn w0.heap.size] w fun e w' => RetFar w0.heap.size ws e w' ∧ Only w0.heap.size (w0.heap.size + 2) w w' := by
  have hwd := word_any w0.heap.size ws w h (L.keep hb).max
  have HL : Hid (Laid w0) := L
  have HW : Hid (∀ x ∈ ws, x.length ≤ 10000) := hws
  have HB : Hid (Below w0.heap.size w0 w) := hb
  unfold wfn
  go_enter Tryz.func77, Tryz.ntmps77
  go_wp2_with fail
  refine hwd.mono ?_
  rintro e w2 ⟨rfl, h2, ho, hs⟩
  obtain ⟨x, hx0⟩ : ∃ x, nw ws = x := ⟨_, rfl⟩
  have HX : Hid (nw ws = x) := hx0
  have HO : Hid (Only w0.heap.size (w0.heap.size + 2) w w2) := ho
  rw [hx0]
  clear hwd h hx0 L hws hb ho hs
  by_cases hy : x = [102, 97, 114]
  · have z2 : ((bs x).toList == [102, 97, 114]) = true := by
      rw [bs_list, beq_iff_eq]; exact hy
    have HE : Hid (ws = [102, 97, 114] :: nr ws) := by rw [hy] at HX; exact nw_eq HX.out (by simp)
    have hwd := word_any w0.heap.size (nr ws) w2 h2 (HL.out.keep (low_only HB.out HO.out)).max
    clear hy h2
    go_wp2_with fail
    refine hwd.mono ?_
    rintro e w3 ⟨rfl, h3, ho3, hs3⟩
    obtain ⟨y, hy0⟩ : ∃ y, nw (nr ws) = y := ⟨_, rfl⟩
    have HY : Hid (nw (nr ws) = y) := hy0
    rw [hy0]
    have HO3 : Hid (Only w0.heap.size (w0.heap.size + 2) w w3) := HO.out.trans ho3
    have hyl : y.length ≤ 10000 := by
      rw [← hy0]
      cases hr : nr ws with
      | nil => simp [nw]
      | cons u r => exact HW.out u (nr_sub (by rw [hr]; simp))
    have hnum := numberIn_any y w3 hyl (HL.out.keep (low_only HB.out HO3.out))
    clear hwd hy0 ho3 hs3 hyl
    go_wp2_with fail
    refine hnum.mono ?_
    rintro e w4 ⟨⟨n, ok, rfl, hn⟩, hb4⟩
    have HN : Hid (FarOk ws (nr (nr ws)) n ok) := by
      refine ⟨fun e => ?_, fun e m r hm q => ?_⟩
      · obtain ⟨q1, q2, q3⟩ := hn.1 e
        refine ⟨q1, q2, ?_⟩
        have e2 : nr ws = dec n.toNat :: nr (nr ws) := nw_eq (HY.out.trans q3) (fun u => by
          have := dec_digs n.toNat 10 (by rw [u]; simp)
          unfold isDig at this
          have e10 : (10 : UInt8).toNat = 10 := rfl
          omega)
        rw [← e2]
        exact HE.out
      · rw [HE.out] at q
        simp at q
        refine hn.2 e m hm ?_
        rw [← HY.out, q]
        rfl
    have hO4 : Only w0.heap.size (w0.heap.size + 2) w w4 := HO3.out.trans (Only.ofBelow hb4)
    have h4 := h3.keep hb4
    clear hnum hn hb4 h3
    go_wp2
    go_ret2
    exact ⟨RetFar.mk _ _ _ rfl HN.out h4 (fun y hy => nr_sub (nr_sub hy)), hO4⟩
  · have z2 : ((bs x).toList == [102, 97, 114]) = false := by
      rw [bs_list, beq_eq_false_iff_ne]; exact hy
    have HN : Hid (FarOk ws (nr ws) 0 false) := ⟨fun e => (by cases e), fun _ m r hm q => by
      rw [q] at HX
      exact hy (show x = _ from HX.out.symm)⟩
    clear hy
    go_wp2
    go_ret2
    exact ⟨RetFar.mk _ _ _ rfl HN.out h2 (fun y hy => nr_sub hy), HO.out⟩

end Go.Proofs.YtachkoledebanabGreatDoor
