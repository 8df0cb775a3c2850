/-
  The program's reading of a line into a row.
-/
import Derived.Test.YtachkoledebanabGreatDoorWriEtc
import Derived.Deep.AppendLies
namespace Go.Proofs.YtachkoledebanabGreatDoor
open Go.RowKit Go.Deep

theorem owns_lo {w : World} {lo B t s n : Nat} {v : Value} {xs : List Value} (h : w.ownsRow lo t s v n xs) (hl : B ≤ lo) : w.ownsRow B t s v n xs := by
  obtain ⟨q1, q2⟩ := h
  refine ⟨q1, ?_⟩
  rcases q2 with q2 | ⟨g, cap, cur, e1, e2, e3⟩
  · exact Or.inl q2
  · exact Or.inr ⟨g, cap, cur, e1, by omega, e3⟩
/-- a list beside an append and a store -/
theorem owns_step {V w4 : World} {lo t s n R q : Nat} {v v' : Value} {xs : List Value} {o : Obj} {row : Option Nat} (h : V.ownsRow lo t s v n xs) (hg : (V.alloc o).grownBy w4 row) (hrow : ∀ b, row = some b → v.ownBlock ≠ some b) (hR : R < lo) : (w4.setCell ⟨R, q, none⟩ v').ownsRow lo t s v n xs := by
  have h1 := (h.alloc o).kept hg (by
    rcases h.2 with ⟨e, _⟩ | ⟨g, cap, cur, e, _⟩
    · exact Or.inl (by rw [e]; rfl)
    · exact Or.inr fun u => hrow g (by rw [← u, e]; rfl) (by rw [e]; rfl))
  exact ownsRow_setCell_other h1 (fun e => by have := (h1.lt R e).1; omega) _
theorem wordsOf_any (l : List UInt8) (w : World) (hl : l.length ≤ 10000) :
    Calls Tryz.prog 73 #[.string (bs l)] w fun e w' => e = .returned (wfn w.heap.size) ∧ St w' w.heap.size (words l) ∧ Below w.heap.size w w' := by
  have hmf : ∀ (fn : Fn) (first cap : Array Value) (w : World), (Instr.makeFunc fn first cap).run Tryz.prog w = .ok (.func fn first cap) w := fun _ _ _ _ => rfl
  have hS : St ((w.alloc (.cells #[.string (bs l)] 9)).alloc (.cells #[.bool true] 4)) w.heap.size (words l) := by
    refine ⟨true, l, ?_, (Blk.new w #[.string (bs l)] 9).alloc _, rfl, hl⟩
    have := Blk.new (w.alloc (.cells #[.string (bs l)] 9)) #[.bool true] 4
    simpa using this
  have hB : Below w.heap.size w ((w.alloc (.cells #[.string (bs l)] 9)).alloc (.cells #[.bool true] 4)) := ((Below.refl _ _).alloc (Nat.le_refl _) _).alloc (by simp) _
  have HS : Hid _ := hS
  clear hS
  go_enter Tryz.func73, Tryz.ntmps73
  go_wp2
  go_ret
  exact ⟨rfl, HS.out, hB⟩

def Rw (W0 : World) (R B : Nat) (gs : List Sg) (w : World) : Prop := ∃ bI cI s1 s2 s3 s4 k1 k2 k3 k4, Gr W0 R B gs gs gs gs bI cI (.slice s1 gs.length k1) (.slice s2 gs.length k2) (.slice s3 gs.length k3) (.slice s4 gs.length k4) w
theorem Rw.mk {W0 w : World} {R B m : Nat} {gs : List Sg} {bI cI : Nat → Nat} {s1 s2 s3 s4 : Option Addr} {k1 k2 k3 k4 : Nat} (hl : gs.length = m) (h : Gr W0 R B gs gs gs gs bI cI (.slice s1 m k1) (.slice s2 m k2) (.slice s3 m k3) (.slice s4 m k4) w) : Rw W0 R B gs w := by
  subst hl
  exact ⟨bI, cI, s1, s2, s3, s4, k1, k2, k3, k4, h⟩
theorem Rw.keep {W0 w w' : World} {R B : Nat} {gs : List Sg} (h : Rw W0 R B gs w) (hb : Below w.heap.size w w') : Rw W0 R B gs w' := by
  obtain ⟨bI, cI, s1, s2, s3, s4, k1, k2, k3, k4, h⟩ := h
  exact ⟨bI, cI, s1, s2, s3, s4, k1, k2, k3, k4, h.keep hb⟩
def RetAdd (W0 : World) (R B : Nat) (gs : List Sg) (l : List UInt8) (e : Ending) (w' : World) : Prop :=
  (e = .returned (.bool false) ∧ (∀ g, ¬ IsLine l g) ∧ Rw W0 R B gs w') ∨ ∃ g, e = .returned (.bool true) ∧ IsLine l g ∧ Rw W0 R B (gs ++ [g]) w'
theorem RetAdd.no {W0 : World} {R B : Nat} {gs : List Sg} {l : List UInt8} {e : Ending} {w' : World} (h : e = .returned (.bool false)) (k : ∀ g, ¬ IsLine l g) (r : Rw W0 R B gs w') : RetAdd W0 R B gs l e w' := Or.inl ⟨h, k, r⟩
theorem RetAdd.yes {W0 : World} {R B : Nat} {gs : List Sg} {l : List UInt8} {e : Ending} {w' : World} (g : Sg) (h : e = .returned (.bool true)) (k : IsLine l g) (r : Rw W0 R B (gs ++ [g]) w') : RetAdd W0 R B gs l e w' := Or.inr ⟨g, h, k, r⟩

set_option maxHeartbeats 8000000 in
theorem addSignal_any (W0 : World) (R B : Nat) (gs : List Sg) (l : List UInt8) (w : World) (L : Laid w) (hG : Rw W0 R B gs w) (hRB : R < B) (hBw : B ≤ w.heap.size) (hgl : gs.length ≤ 10000) (hl : l.length ≤ 10000) (hnl : NoNl l) :
    Calls Tryz.prog 57 #[.pointer (some ⟨R, 0, none⟩), .string (bs l)] w fun e w' => RetAdd W0 R B gs l e w' ∧ w.heap.size ≤ w'.heap.size := by
  have HL : Hid (Laid w) := L
  have HG : Hid (Rw W0 R B gs w) := hG
  have HN : Hid (NoNl l) := hnl
  have hsh : Hid (∀ x ∈ words l, x.length ≤ 10000) := fun x hx => by have := wordsA_short l [] x hx; simp at this; omega
  have hwo := wordsOf_any l w hl
  clear L hG hnl
  go_enter Tryz.func57, Tryz.ntmps57
  go_wp2_with fail
  refine hwo.mono ?_
  rintro e w1 ⟨rfl, hs1, hb1⟩
  have HB1 : Hid (Below w.heap.size w w1) := hb1
  have HZ1 : Hid (w.heap.size + 1 < w1.heap.size) := hs1.lt
  have hop := openIn_any w.heap.size (words l) w1 hs1 (HL.out.keep hb1).max
  unfold wfn at hop
  unfold wfn
  clear hwo hb1 hs1
  go_wp2_with fail
  refine hop.mono ?_
  rintro e w2 ⟨rfl, hs2, ho2, -⟩
  have HB2 : Hid (Below w.heap.size w w2) := low_only HB1.out ho2
  have HZ2 : Hid (w.heap.size + 2 ≤ w2.heap.size) := by show _ ≤ _; have := ho2.size; have := HZ1.out; omega
  have hlp := lampsIn_any w HL.out (nr (words l)) w2 HB2.out hs2
  unfold wfn at hlp
  obtain ⟨o1, ho1⟩ : ∃ o1, decide (nw (words l) = opW true) = o1 := ⟨_, rfl⟩
  obtain ⟨o2, ho2'⟩ : ∃ o2, (o1 || decide (nw (words l) = opW false)) = o2 := ⟨_, rfl⟩
  have HO : Hid ((o2 = true → nw (words l) = opW o1) ∧ (o2 = false → nw (words l) ≠ opW true ∧ nw (words l) ≠ opW false)) := by
    constructor
    · intro e
      cases o1
      · subst e; simpa using ho2'
      · simpa using ho1
    · intro e
      subst e
      simp at ho2'
      rw [ho2'.1] at ho1
      exact ⟨by simpa using ho1, ho2'.2⟩
  rw [ho1, ho2']
  clear hop hs2 ho2 ho1 ho2'
  go_wp2_with fail
  refine hlp.mono ?_
  rintro e w3 ⟨⟨v4, k4, ws2, rfl, hlk, hs3, hm3⟩, ho3⟩
  have HB3 : Hid (Below w.heap.size w w3) := low_only HB2.out ho3
  have HLK : Hid (LampOk w2.heap.size (nr (words l)) ws2 v4 k4 w3) := hlk
  have HM3 : Hid (∀ y ∈ ws2, y ∈ words l) := fun y hy => nr_sub (hm3 y hy)
  have hnx := nextIn_any w HL.out ws2 w3 HB3.out hs3 (fun x hx => hsh.out x (HM3.out x hx))
  unfold wfn at hnx
  clear hlp hlk hm3 hs3 ho3
  go_wp2_with fail
  refine hnx.mono ?_
  rintro e w4 ⟨⟨n, nk, ws3, rfl, hnk, hs4, hm4⟩, ho4⟩
  have HB4 : Hid (Below w.heap.size w w4) := low_only HB3.out ho4
  have HNK : Hid (NextOk ws2 ws3 n nk) := hnk
  have HM4 : Hid (∀ y ∈ ws3, y ∈ words l) := fun y hy => HM3.out y (hm4 y hy)
  have HO4 : Hid (Only w.heap.size (w.heap.size + 2) w3 w4) := ho4
  have hfr := farIn_any w HL.out ws3 w4 HB4.out hs4 (fun x hx => hsh.out x (HM4.out x hx))
  unfold wfn at hfr
  clear hnx hnk hm4 hs4 ho4
  go_wp2_with fail
  refine hfr.mono ?_
  rintro e w5 ⟨⟨k, fk, ws4, rfl, hfk, hs5, hm5⟩, ho5⟩
  have HB5 : Hid (Below w.heap.size w w5) := low_only HB4.out ho5
  have HFK : Hid (FarOk ws3 ws4 k fk) := hfk
  have HM5 : Hid (∀ y ∈ ws4, y ∈ words l) := fun y hy => HM4.out y (hm5 y hy)
  have HO5 : Hid (Only w.heap.size (w.heap.size + 2) w3 w5) := HO4.out.trans ho5
  clear hfr hfk hm5 ho5 HO4
  cases o2
  case false =>
    have HX : Hid (∀ g, ¬ IsLine l g) := no1 (HO.out.2 rfl).1 (HO.out.2 rfl).2
    go_wp2
    go_ret
    exact ⟨RetAdd.no rfl HX.out (HG.out.keep HB5.out), HB5.out.size⟩
  cases k4
  case false =>
    have HX : Hid (∀ g, ¬ IsLine l g) := no2 (HLK.out.2 rfl)
    go_wp2
    go_ret
    exact ⟨RetAdd.no rfl HX.out (HG.out.keep HB5.out), HB5.out.size⟩
  obtain ⟨f, b, rfl, hb4, hown, hf4, e2⟩ := HLK.out.1 rfl
  have HF4 : Hid (∀ a, 4 ≤ a → f a = false) := hf4
  have HOWN : Hid (w3.ownsRow w2.heap.size 4 1 (.slice (some ⟨b, 0, none⟩) 4 4) 4 (lmV f)) := hown
  have E2 : Hid (nr (words l) = lampsW :: lampTxt f 4 :: ws2) := e2
  clear HLK hown hf4 e2
  cases nk
  case false =>
    have HX : Hid (∀ g, ¬ IsLine l g) := no3 E2.out (HNK.out.2 rfl)
    go_wp2
    go_ret
    exact ⟨RetAdd.no rfl HX.out (HG.out.keep HB5.out), HB5.out.size⟩
  obtain ⟨n0, n1, e3⟩ := HNK.out.1 rfl
  have E3 : Hid (ws2 = nxW n ++ ws3) := e3
  clear HNK e3
  cases fk
  case false =>
    have HX : Hid (∀ g, ¬ IsLine l g) := no4 E2.out E3.out (HFK.out.2 rfl)
    go_wp2
    go_ret
    exact ⟨RetAdd.no rfl HX.out (HG.out.keep HB5.out), HB5.out.size⟩
  obtain ⟨f0, f1, e4⟩ := HFK.out.1 rfl
  have E4 : Hid (ws3 = [102, 97, 114] :: dec k.toNat :: ws4) := e4
  clear HFK e4
  have hwd := word_any w.heap.size ws4 w5 hs5 (HL.out.keep HB5.out).max
  clear hs5
  go_wp2_with fail
  refine hwd.mono ?_
  rintro e w6 ⟨rfl, -, ho6, -⟩
  have HB6 : Hid (Below w.heap.size w w6) := low_only HB5.out ho6
  have HO6 : Hid (Only w.heap.size (w.heap.size + 2) w3 w6) := HO5.out.trans ho6
  obtain ⟨x, hx0⟩ : ∃ x, nw ws4 = x := ⟨_, rfl⟩
  have HX0 : Hid (nw ws4 = x) := hx0
  rw [hx0]
  clear hwd ho6 hx0 HO5 HB4 HB3 HB2 HB1
  by_cases hx : x = [10]
  case neg =>
    have z1 : ((bs x).toList == [10]) = false := by rw [bs_list, beq_eq_false_iff_ne]; exact hx
    have HX : Hid (∀ g, ¬ IsLine l g) := no5 E2.out E3.out E4.out (by rw [HX0.out]; exact hx)
    clear hx
    go_wp2
    go_ret
    exact ⟨RetAdd.no rfl HX.out (HG.out.keep HB6.out), HB6.out.size⟩
  have z1 : ((bs x).toList == [10]) = true := by rw [bs_list, beq_iff_eq]; exact hx
  have HY : Hid (IsLine l ⟨o1, f, n, k⟩) := yes (by first | exact HO.out.1 rfl | exact HO.out.1 trivial) E2.out HF4.out E3.out ⟨n0, n1⟩ E4.out ⟨f0, f1⟩ (by rw [HX0.out]; exact hx) HN.out HM5.out
  have HW6 : Hid (w6.ownsRow w2.heap.size 4 1 (.slice (some ⟨b, 0, none⟩) 4 4) 4 (lmV f)) := owns_only HOWN.out HO6.out HZ2.out
  clear hx E2 E3 E4 HF4 HOWN HO6 HX0 HM5 HM4 HM3 HO hsh HN HB5
  obtain ⟨bI, cI, s1, s2, s3, s4, k1, k2, k3, k4, hM0⟩ := HG.out
  have hM := hM0.keep HB6.out
  obtain ⟨ii, hi, hz0, hz1, hz2⟩ := info_parts Tryz.iInt
  obtain ⟨ib, hib, hzb0, hzb1, hzb2⟩ := info_parts Tryz.iBool
  obtain ⟨ic, hic, hzc0, hzc1, hzc2⟩ := info_parts Tryz.iBools
  have hBw6 : B ≤ w6.heap.size := Nat.le_trans hBw HB6.out.size
  have hRw6 : R < w6.heap.size := by omega
  have HWz : Hid (w.heap.size ≤ w6.heap.size ∧ w.heap.size ≤ w2.heap.size ∧ w2.heap.size ≤ b ∧ ∀ q, (Value.slice s3 gs.length k3).ownBlock = some q → q < w.heap.size) := by
    exact ⟨HB6.out.size, by have := HZ2.out; omega, hb4, fun q e => (hM0.o3.lt q e).2⟩
  have x2 := hM.bk.cell 2
  simp at x2
  have HM6 : Hid _ := hM
  have ho3 := hM.o3.alloc (.cells #[.bool o1] 4)
  clear hM hb4 hM0 HG
  go_wp2_with (at_builtin; refine wpList_append_lies _ rfl (.tmp 59) (.tmp 61) 23 rfl B 4 ib (.bool false) 1 1 Tryz.uBools hib hzb0 hzb1 hzb2 rfl (by omega) (.slice s3 gs.length k3) gs.length (gs.map opV) rfl ho3 ⟨w6.heap.size, 0, none⟩ 1 1 [.bool o1] rfl rfl (cell_one_new _ _ _) (by simp [Value.oneCell']) (by omega) (by unfold maxLen; omega) (by omega) (by simp; omega) (w6.heap.size + 1) (by simp) ?_)
  intro q3 e3 w7 ho7 hg7 hat7 hlt7
  have HM7 : Hid _ := HM6.out.appO (g := ⟨o1, f, n, k⟩) hRB ho7 hg7 (near_lies hat7)
  obtain ⟨-, bk7, hz7⟩ := HM6.out.base hRB hg7 (fun g e => (HM6.out.o3.lt g e).1)
  have hz7' : w6.heap.size + 1 ≤ w7.heap.size := hz7
  have HL7 : Hid ((w7.setCell ⟨R, 2, none⟩ (.slice (some ⟨q3, 0, none⟩) (gs.length + 1) e3)).ownsRow w2.heap.size 4 1 (.slice (some ⟨b, 0, none⟩) 4 4) 4 (lmV f)) :=
    owns_step HW6.out hg7 (fun b' e u => by have h1 := HWz.out.2.2.2 b' e; have h2 : b = b' := (by injection u); have h3 := HWz.out; omega) (by have := HWz.out; omega)
  have HQ3 : Hid (q3 ≠ b) := by
    intro u
    rcases hat7 with h1 | h1
    · have := HWz.out.2.2.2 q3 h1; have := HWz.out; omega
    · have h2 := (HW6.out.lt b rfl).2
      omega
  have y2 := bk7.cell 2
  have y3 := bk7.cell 3
  have fz2 := bk7.free 2
  simp at y2 y3
  have ho4 := HM7.out.o4.alloc (.cells #[.slice (some ⟨b, 0, none⟩) 4 4] 23)
  clear ho7 hg7 hat7 hlt7 x2 ho3 HM6 bk7 HW6 z1
  go_wp2_with (at_builtin; refine wpList_append_lies _ rfl (.tmp 69) (.tmp 71) 24 rfl B 23 ic (.slice none 0 0) 1 24 Tryz.uBoolss hic hzc0 hzc1 hzc2 rfl (by omega) (.slice s4 gs.length k4) gs.length (wkV bI cI gs.length) rfl ho4 ⟨w7.heap.size, 0, none⟩ 1 1 [.slice (some ⟨b, 0, none⟩) 4 4] rfl rfl (by have := cell_one_new (w7.setCell ⟨R, 2, none⟩ (.slice (some ⟨q3, 0, none⟩) (gs.length + 1) e3)) (.slice (some ⟨b, 0, none⟩) 4 4) 23; simpa using this) (by simp [Value.oneCell']) (by omega) (by unfold maxLen; omega) (by omega) (by simp; omega) (w7.heap.size + 1) (by simp) ?_)
  intro q4 e4 w8 ho8 hg8 hat8 hlt8
  have HM8 : Hid _ := HM7.out.appW (g := ⟨o1, f, n, k⟩) hRB (owns_lo HL7.out (by have := HWz.out; omega)) (fun e => HQ3.out (by injection e)) ho8 hg8
  obtain ⟨-, bk8, hz8⟩ := HM7.out.base hRB hg8 (fun g e => (HM7.out.o4.lt g e).1)
  have hz8' : w7.heap.size + 1 ≤ w8.heap.size := by simpa using hz8
  have y3' := bk8.cell 3
  have y0 := bk8.cell 0
  have fz3 := bk8.free 3
  simp at y3' y0
  have ho1 := HM8.out.o1.alloc (.cells #[.int .i64 n] 3)
  clear ho8 hg8 hat8 hlt8 y2 y3 fz2 ho4 HM7 bk8 HL7 HQ3
  go_wp2_with (at_builtin; refine wpList_append_lies _ rfl (.tmp 79) (.tmp 81) 22 rfl B 3 ii (.int .i64 0) 1 8 Tryz.uInts hi hz0 hz1 hz2 rfl (by omega) (.slice s1 gs.length k1) gs.length (gs.map nxV) rfl ho1 ⟨w8.heap.size, 0, none⟩ 1 1 [.int .i64 n] rfl rfl (by have := cell_one_new (w8.setCell ⟨R, 3, none⟩ (.slice (some ⟨q4, 0, none⟩) (gs.length + 1) e4)) (.int .i64 n) 3; simpa using this) (by simp [Value.oneCell']) (by omega) (by unfold maxLen; omega) (by omega) (by simp; omega) (w8.heap.size + 1) (by simp) ?_)
  intro q1 e1 w9 ho9 hg9 hat9 hlt9
  have HM9 : Hid _ := HM8.out.appN (g := ⟨o1, f, n, k⟩) hRB ho9 hg9 (near_lies (by simpa using hat9))
  obtain ⟨-, bk9, hz9⟩ := HM8.out.base hRB hg9 (fun g e => (HM8.out.o1.lt g e).1)
  have hz9' : w8.heap.size + 1 ≤ w9.heap.size := by simpa using hz9
  have y0' := bk9.cell 0
  have y1 := bk9.cell 1
  have fz0 := bk9.free 0
  simp at y0' y1
  have ho2 := HM9.out.o2.alloc (.cells #[.int .i64 k] 3)
  clear ho9 hg9 hat9 hlt9 y0 y3' fz3 ho1 HM8 bk9
  go_wp2_with (at_builtin; refine wpList_append_lies _ rfl (.tmp 89) (.tmp 91) 22 rfl B 3 ii (.int .i64 0) 1 8 Tryz.uInts hi hz0 hz1 hz2 rfl (by omega) (.slice s2 gs.length k2) gs.length (gs.map frV) rfl ho2 ⟨w9.heap.size, 0, none⟩ 1 1 [.int .i64 k] rfl rfl (by have := cell_one_new (w9.setCell ⟨R, 0, none⟩ (.slice (some ⟨q1, 0, none⟩) (gs.length + 1) e1)) (.int .i64 k) 3; simpa using this) (by simp [Value.oneCell']) (by omega) (by unfold maxLen; omega) (by omega) (by simp; omega) (w9.heap.size + 1) (by simp) ?_)
  intro q2 e2 w10 ho10 hg10 hat10 hlt10
  have HM10 : Hid _ := HM9.out.appF (g := ⟨o1, f, n, k⟩) hRB ho10 hg10 (near_lies (by simpa using hat10))
  obtain ⟨-, bk10, hz10⟩ := HM9.out.base hRB hg10 (fun g e => (HM9.out.o2.lt g e).1)
  have hz10' : w9.heap.size + 1 ≤ w10.heap.size := by simpa using hz10
  have y1' := bk10.cell 1
  have fz1 := bk10.free 1
  simp at y1'
  have hlg : (gs ++ [(⟨o1, f, n, k⟩ : Sg)]).length = gs.length + 1 := by simp
  have HR : Hid (Rw W0 R B (gs ++ [⟨o1, f, n, k⟩]) (w10.setCell ⟨R, 1, none⟩ (.slice (some ⟨q2, 0, none⟩) (gs.length + 1) e2))) := Rw.mk hlg HM10.out
  clear ho10 hg10 hat10 hlt10 y0' y1 fz0 ho2 HM9 HM10 bk10 hlg
  go_wp2
  go_ret
  exact ⟨RetAdd.yes _ rfl HY.out HR.out, by have := HWz.out.1; simp; omega⟩

end Go.Proofs.YtachkoledebanabGreatDoor
