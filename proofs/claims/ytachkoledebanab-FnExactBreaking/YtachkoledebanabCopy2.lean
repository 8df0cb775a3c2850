/-
  l2copy: walked.
-/
import Derived.Test.YtachkoledebanabCopy
import Derived.Deep.RegionLaw
namespace Go.Proofs.Ytachkoledebanab
open Go.RowKit

attribute [local go_sem ↓] Go.wp_at_zero Go.wp_at_succ

theorem OwnT.only {w w' : World} {lo hi lo' hi' n t : Nat} {ao : Option Addr} {f : Nat → Value} (h : OwnT w lo hi ao n t f) (ho : Only lo' hi' w w') (hd : hi ≤ lo' ∨ hi' ≤ lo) : OwnT w' lo hi ao n t f := fun k hk => by
  obtain ⟨b, c, e, h1, h2, h3, h4⟩ := h k hk
  exact ⟨b, c, e, h1, h2, (ho.block b (Array.getElem?_eq_some_iff.1 h3).1 (by omega)).trans h3, h4⟩

theorem only_step {lo hi : Nat} {W wr w4 w5 : World} {o1 o2 : Obj} {r1 r2 : Option Nat} (hon : Only lo hi W wr) (hg1 : (wr.alloc o1).drew.grownBy w4 r1) (h1 : ∀ g, r1 = some g → W.heap.size ≤ g) (hg2 : (w4.alloc o2).grownBy w5 r2) (h2 : ∀ g, r2 = some g → W.heap.size ≤ g)
    {a : Addr} (ha : lo ≤ a.block) (hb : a.block < hi) (u : Value) : Only lo hi W (w5.setCell a u) := by
  have s1 := hg1.size
  have s2 := hg2.size
  have s0 := hon.size
  simp at s1 s2
  refine ⟨hg2.os.trans (hg1.os.trans hon.os), hg2.tape.trans (hg1.tape.trans hon.tape), hg2.output.trans (hg1.output.trans hon.output), by simp; omega, fun k hk ho => ?_⟩
  have e5 := Below.heap_setCell w5 a u k (by omega)
  have e4 := hg2.block k (by simp; omega) (fun e => by have := h2 k e.symm; omega)
  have e3 := Below.heap_alloc w4 o2 k (by omega)
  have e2 := hg1.block k (by simp; omega) (fun e => by have := h1 k e.symm; omega)
  have e1 := Below.heap_alloc wr o1 k (by omega)
  exact e5.trans (e4.trans (e3.trans (e2.trans (e1.trans (hon.block k hk ho)))))

theorem snoc_map {A : Nat → Option Addr} {K : Nat → Nat} {k : Nat} {x : Option Addr} {e : Nat} : (List.range (k + 1)).map (fun i => Value.slice (if i = k then x else A i) 4 (if i = k then e else K i)) = (List.range k).map (fun i => Value.slice (A i) 4 (K i)) ++ [.slice x 4 e] := by
  rw [List.range_succ, List.map_append]
  congr 1
  · refine List.map_congr_left fun i hi => ?_
    have := List.mem_range.1 hi
    rw [if_neg (by omega), if_neg (by omega)]
  · simp

set_option maxHeartbeats 4000000 in
set_option maxRecDepth 100000 in
theorem l2copy_any (x1 x2 x3 x4 : Addr) (c1 c2 c3 c4 : Nat) (X : Nat → Addr) (C : Nat → Nat) (d : RD) (w : World) (h : RowAt w (some x1) (some x2) (some x3) (some x4) (fun i => some (X i)) C d) (hR : Right d) :
    Calls Try.prog 30 #[.agg #[.slice (some x1) d.nN c1, .slice (some x2) d.nF c2, .slice (some x3) d.nO c3, .slice (some x4) d.nW c4]] w fun e w' =>
      (∃ a1 k1 a2 k2 a3 k3 a4 k4 A K, e = .returned (.agg #[.slice a1 d.nN k1, .slice a2 d.nF k2, .slice a3 d.nO k3, .slice a4 d.nW k4]) ∧ Cp w' w.heap.size a1 a2 a3 a4 A K d) ∧ Below w.heap.size w w' := by
  obtain ⟨i0, hi, hz0, hz1, hz2⟩ := info_parts Try.iInt
  obtain ⟨ib, hib, hzb0, hzb1, hzb2⟩ := info_parts Try.iBool
  obtain ⟨ic, hic, hzc0, hzc1, hzc2⟩ := info_parts Try.iBools
  have h60 := hR.s.nN
  have hF := hR.s.nF
  have hO := hR.s.nO
  have hWn := hR.s.nW
  have g1 : d.nF ≤ 60 := by omega
  have g2 : d.nO ≤ 60 := by omega
  have g3 : d.nW ≤ 60 := by omega
  have HR : Hid (Right d) := hR
  clear hF hO hWn hR
  have hWb : Below w.heap.size w (((w.alloc (.cells #[.slice (some x1) d.nN c1, .slice (some x2) d.nF c2, .slice (some x3) d.nO c3, .slice (some x4) d.nW c4] 30)).alloc (.cells #[.slice none 0 0, .slice none 0 0, .slice none 0 0, .slice none 0 0] 30)).alloc (.cells #[.slice none 0 0, .slice none 0 0, .slice none 0 0, .slice none 0 0] 30)) := (((Below.refl _ _).alloc (Nat.le_refl _) _).alloc (by simp) _).alloc (by simp; omega) _
  have hWs : ((((w.alloc (.cells #[.slice (some x1) d.nN c1, .slice (some x2) d.nF c2, .slice (some x3) d.nO c3, .slice (some x4) d.nW c4] 30)).alloc (.cells #[.slice none 0 0, .slice none 0 0, .slice none 0 0, .slice none 0 0] 30)).alloc (.cells #[.slice none 0 0, .slice none 0 0, .slice none 0 0, .slice none 0 0] 30))).heap.size = w.heap.size + 3 := by simp
  have p0 : Blk (((w.alloc (.cells #[.slice (some x1) d.nN c1, .slice (some x2) d.nF c2, .slice (some x3) d.nO c3, .slice (some x4) d.nW c4] 30)).alloc (.cells #[.slice none 0 0, .slice none 0 0, .slice none 0 0, .slice none 0 0] 30)).alloc (.cells #[.slice none 0 0, .slice none 0 0, .slice none 0 0, .slice none 0 0] 30)) w.heap.size #[.slice (some x1) d.nN c1, .slice (some x2) d.nF c2, .slice (some x3) d.nO c3, .slice (some x4) d.nW c4] 30 := ((Blk.new _ _ _).alloc _).alloc _
  have r0 : Blk (((w.alloc (.cells #[.slice (some x1) d.nN c1, .slice (some x2) d.nF c2, .slice (some x3) d.nO c3, .slice (some x4) d.nW c4] 30)).alloc (.cells #[.slice none 0 0, .slice none 0 0, .slice none 0 0, .slice none 0 0] 30)).alloc (.cells #[.slice none 0 0, .slice none 0 0, .slice none 0 0, .slice none 0 0] 30)) (w.heap.size + 1) #[.slice none 0 0, .slice none 0 0, .slice none 0 0, .slice none 0 0] 30 := by have := Blk.new (w.alloc (.cells #[.slice (some x1) d.nN c1, .slice (some x2) d.nF c2, .slice (some x3) d.nO c3, .slice (some x4) d.nW c4] 30)) #[.slice none 0 0, .slice none 0 0, .slice none 0 0, .slice none 0 0] 30; simpa using this.alloc _
  have o0 : Blk (((w.alloc (.cells #[.slice (some x1) d.nN c1, .slice (some x2) d.nF c2, .slice (some x3) d.nO c3, .slice (some x4) d.nW c4] 30)).alloc (.cells #[.slice none 0 0, .slice none 0 0, .slice none 0 0, .slice none 0 0] 30)).alloc (.cells #[.slice none 0 0, .slice none 0 0, .slice none 0 0, .slice none 0 0] 30)) (w.heap.size + 1 + 1) #[.slice none 0 0, .slice none 0 0, .slice none 0 0, .slice none 0 0] 30 := by have := Blk.new ((w.alloc (.cells #[.slice (some x1) d.nN c1, .slice (some x2) d.nF c2, .slice (some x3) d.nO c3, .slice (some x4) d.nW c4] 30)).alloc (.cells #[.slice none 0 0, .slice none 0 0, .slice none 0 0, .slice none 0 0] 30)) #[.slice none 0 0, .slice none 0 0, .slice none 0 0, .slice none 0 0] 30; simpa using this
  have h0 := h.keep hWb
  have HWs : Hid (((((w.alloc (.cells #[.slice (some x1) d.nN c1, .slice (some x2) d.nF c2, .slice (some x3) d.nO c3, .slice (some x4) d.nW c4] 30)).alloc (.cells #[.slice none 0 0, .slice none 0 0, .slice none 0 0, .slice none 0 0] 30)).alloc (.cells #[.slice none 0 0, .slice none 0 0, .slice none 0 0, .slice none 0 0] 30))).heap.size = w.heap.size + 3) := hWs
  clear hWs
  go_enter Try.func30, Try.ntmps30
  go_wp2_with (first
    | (at_builtin; refine wpList_append_own _ rfl (.tmp 7) (.tmp 9) 22 rfl (w.heap.size + 3) 3 i0 (.int .i64 0) 1 8 Try.uInts hi hz0 hz1 hz2 rfl (by decide) _ 0 [] rfl (World.ownsRow_nil _ _ _ _) x1 d.nN c1 ((List.range d.nN).map (fun k => .int .i64 (d.nx k))) rfl (range_map_len _ _) (news_of_sl (by exact h0.nx)) (one_ints _ _) (by unfold maxLen; omega) (by omega) (by have := HWs.out; omega) ?_; intro v1 w1 hv1 hg1 hn1; obtain ⟨y1, k1, rfl, t1⟩ := OwnT.ofOwns (f := (fun k => .int .i64 (d.nx k))) (by simpa using hv1); have bl1 : Below (w.heap.size + 3) (((w.alloc (.cells #[.slice (some x1) d.nN c1, .slice (some x2) d.nF c2, .slice (some x3) d.nO c3, .slice (some x4) d.nW c4] 30)).alloc (.cells #[.slice none 0 0, .slice none 0 0, .slice none 0 0, .slice none 0 0] 30)).alloc (.cells #[.slice none 0 0, .slice none 0 0, .slice none 0 0, .slice none 0 0] 30)) w1 := grown_none hg1 (by have := HWs.out; omega); have s1 : w.heap.size + 3 ≤ w1.heap.size := (by have := hg1.size; have := HWs.out; omega); have p1 := p0.below bl1 (by omega); have r1 := r0.below bl1 (by omega); have o1 := o0.below bl1 (by omega); have cA := o1.cell 0; have fA := o1.free 0; have cB := o1.cell 1; have cC := p1.cell 1; simp at cA cB cC; have bW1 : Below w.heap.size w (w1.setCell ⟨w.heap.size + 1 + 1, 0, none⟩ (.slice y1 d.nN k1)) := (hWb.trans (bl1.mono (by omega))).setCell (by show w.heap.size ≤ w.heap.size + 1 + 1; omega) _)
    | (at_builtin; refine wpList_append_own _ rfl (.tmp 13) (.tmp 15) 22 rfl (w.heap.size + 3) 3 i0 (.int .i64 0) 1 8 Try.uInts hi hz0 hz1 hz2 rfl (by decide) _ 0 [] rfl (World.ownsRow_nil _ _ _ _) x2 d.nF c2 ((List.range d.nF).map (fun k => .int .i64 (d.fr k))) rfl (range_map_len _ _) (news_of_sl (by exact (h.keep bW1).fr)) (one_ints _ _) (by unfold maxLen; omega) (by omega) (by simp; omega) ?_; intro v2 w2 hv2 hg2 hn2; obtain ⟨y2, k2, rfl, t2⟩ := OwnT.ofOwns (f := (fun k => .int .i64 (d.fr k))) (by simpa using hv2); have bl2 : Below w1.heap.size (w1.setCell ⟨w.heap.size + 1 + 1, 0, none⟩ (.slice y1 d.nN k1)) w2 := grown_none hg2 (by simp); have s2 : w1.heap.size ≤ w2.heap.size := (by have := hg2.size; simpa using this); have p2 := (p1.other (a := ⟨w.heap.size + 1 + 1, 0, none⟩) (by show w.heap.size ≠ w.heap.size + 1 + 1; omega) (.slice y1 d.nN k1)).below bl2 (by omega); have r2 := (r1.other (a := ⟨w.heap.size + 1 + 1, 0, none⟩) (by show w.heap.size + 1 ≠ w.heap.size + 1 + 1; omega) (.slice y1 d.nN k1)).below bl2 (by omega); have o2 := (o1.set 0 (.slice y1 d.nN k1)).below bl2 (by omega); have t12 := (t1.apart (p := ⟨w.heap.size + 1 + 1, 0, none⟩) (fun b _ _ hb _ _ => by show b ≠ w.heap.size + 1 + 1; omega) (.slice y1 d.nN k1)).keep bl2 (Nat.le_refl _); clear cA fA cB cC; have cA := o2.cell 1; have fA := o2.free 1; have cB := o2.cell 2; have cC := p2.cell 2; simp at cA cB cC; have bW2 : Below w.heap.size w (w2.setCell ⟨w.heap.size + 1 + 1, 1, none⟩ (.slice y2 d.nF k2)) := (bW1.trans (bl2.mono (by omega))).setCell (by show w.heap.size ≤ w.heap.size + 1 + 1; omega) _)
    | (at_builtin; refine wpList_append_own _ rfl (.tmp 19) (.tmp 21) 23 rfl w2.heap.size 4 ib (.bool false) 1 1 Try.uBools hib hzb0 hzb1 hzb2 rfl (by decide) _ 0 [] rfl (World.ownsRow_nil _ _ _ _) x3 d.nO c3 ((List.range d.nO).map (fun k => .bool (d.op k))) rfl (range_map_len _ _) (news_of_sl (by exact (h.keep bW2).op)) (one_bools _ _) (by unfold maxLen; omega) (by omega) (by simp) ?_; intro v3 w3 hv3 hg3 hn3; obtain ⟨y3, k3, rfl, t3⟩ := OwnT.ofOwns (f := (fun k => .bool (d.op k))) (by simpa using hv3); have bl3 : Below w2.heap.size (w2.setCell ⟨w.heap.size + 1 + 1, 1, none⟩ (.slice y2 d.nF k2)) w3 := grown_none hg3 (by simp); have s3 : w2.heap.size ≤ w3.heap.size := (by have := hg3.size; simpa using this); have p3 := (p2.other (a := ⟨w.heap.size + 1 + 1, 1, none⟩) (by show w.heap.size ≠ w.heap.size + 1 + 1; omega) (.slice y2 d.nF k2)).below bl3 (by omega); have r3 := (r2.other (a := ⟨w.heap.size + 1 + 1, 1, none⟩) (by show w.heap.size + 1 ≠ w.heap.size + 1 + 1; omega) (.slice y2 d.nF k2)).below bl3 (by omega); have o3 := (o2.set 1 (.slice y2 d.nF k2)).below bl3 (by omega); have t13 := (t12.apart (p := ⟨w.heap.size + 1 + 1, 1, none⟩) (fun b _ _ hb _ _ => by show b ≠ w.heap.size + 1 + 1; omega) (.slice y2 d.nF k2)).keep bl3 s2; have t23 := (t2.apart (p := ⟨w.heap.size + 1 + 1, 1, none⟩) (fun b _ _ hb _ _ => by show b ≠ w.heap.size + 1 + 1; omega) (.slice y2 d.nF k2)).keep bl3 (Nat.le_refl _); clear cA fA cB cC; have cA := o3.cell 2; have fA := o3.free 2; have cC := p3.cell 3; simp at cA cC; have bW3 : Below w.heap.size w (w3.setCell ⟨w.heap.size + 1 + 1, 2, none⟩ (.slice y3 d.nO k3)) := (bW2.trans (bl3.mono (by omega))).setCell (by show w.heap.size ≤ w.heap.size + 1 + 1; omega) _))
  have p4 := p3.other (a := ⟨w.heap.size + 1 + 1, 2, none⟩) (by show w.heap.size ≠ w.heap.size + 1 + 1; omega) (.slice y3 d.nO k3)
  have r4 := r3.other (a := ⟨w.heap.size + 1 + 1, 2, none⟩) (by show w.heap.size + 1 ≠ w.heap.size + 1 + 1; omega) (.slice y3 d.nO k3)
  have o4 : Blk (w3.setCell ⟨w.heap.size + 1 + 1, 2, none⟩ (.slice y3 d.nO k3)) (w.heap.size + 1 + 1) #[.slice y1 d.nN k1, .slice y2 d.nF k2, .slice y3 d.nO k3, .slice none 0 0] 30 := by simpa using o3.set 2 (.slice y3 d.nO k3)
  have t14 : OwnT (w3.setCell ⟨w.heap.size + 1 + 1, 2, none⟩ (.slice y3 d.nO k3)) (w.heap.size + 3) w2.heap.size y1 d.nN 3 (fun k => .int .i64 (d.nx k)) := (t13.apart (p := ⟨w.heap.size + 1 + 1, 2, none⟩) (fun b _ _ hb _ _ => by show b ≠ w.heap.size + 1 + 1; omega) (.slice y3 d.nO k3)).wide (Nat.le_refl _) s2
  have t24 : OwnT (w3.setCell ⟨w.heap.size + 1 + 1, 2, none⟩ (.slice y3 d.nO k3)) (w.heap.size + 3) w2.heap.size y2 d.nF 3 (fun k => .int .i64 (d.fr k)) := t23.apart (p := ⟨w.heap.size + 1 + 1, 2, none⟩) (fun b _ _ hb _ _ => by show b ≠ w.heap.size + 1 + 1; omega) (.slice y3 d.nO k3)
  have t34 : OwnT (w3.setCell ⟨w.heap.size + 1 + 1, 2, none⟩ (.slice y3 d.nO k3)) w2.heap.size w3.heap.size y3 d.nO 4 (fun k => .bool (d.op k)) := t3.apart (p := ⟨w.heap.size + 1 + 1, 2, none⟩) (fun b _ _ hb _ _ => by show b ≠ w.heap.size + 1 + 1; omega) (.slice y3 d.nO k3)
  have zW : ((w3.setCell ⟨w.heap.size + 1 + 1, 2, none⟩ (.slice y3 d.nO k3))).heap.size = w3.heap.size := by simp
  have ss : w.heap.size + 3 ≤ w2.heap.size := by omega
  generalize (w3.setCell ⟨w.heap.size + 1 + 1, 2, none⟩ (.slice y3 d.nO k3)) = W3 at *
  obtain ⟨B2, hB2⟩ : ∃ B2, B2 = w2.heap.size := ⟨_, rfl⟩
  obtain ⟨B3, hB3⟩ : ∃ B3, B3 = w3.heap.size := ⟨_, rfl⟩
  rw [← hB2] at t14 t24 t34 s3 ss
  rw [← hB3] at t34 s3 zW
  clear hB2 hB3 p0 r0 o0 p1 r1 o1 p2 r2 o2 p3 r3 o3 t1 t12 t13 t2 t23 t3 hv1 hg1 hn1 hv2 hg2 hn2 hv3 hg3 hn3 bl1 bl2 bl3 bW1 bW2 cA fA cC s1 s2 hWb h0 HWs
  go_loopw [27] (fun i wr => ∃ (k : Nat) (v4 : Value) (A : Nat → Option Addr) (K L : Nat → Nat), k ≤ d.nW ∧ i = .int .i64 k ∧ Blk wr (w.heap.size + 1 + 1) #[.slice y1 d.nN k1, .slice y2 d.nF k2, .slice y3 d.nO k3, v4] 30 ∧
      wr.ownsRow B3 23 1 v4 k ((List.range k).map (fun i => .slice (A i) 4 (K i))) ∧ (∀ i, i < k → OwnT wr (L i) (L (i + 1)) (A i) 4 4 (fun j => .bool (d.wk i j))) ∧ (∀ i j, i ≤ j → j ≤ k → L i ≤ L j) ∧ B3 ≤ L 0 ∧ L k ≤ wr.heap.size ∧
      Only (w.heap.size + 1 + 1) (w.heap.size + 1 + 1 + 1) W3 wr) (fun i _ => d.nW - (intOf i).toNat)
  case atStart => exact ⟨0, _, fun _ => none, fun _ => 0, fun _ => B3, Nat.zero_le _, rfl, o4, World.ownsRow_nil _ _ _ _, fun i hi => absurd hi (Nat.not_lt_zero _), fun _ _ _ _ => Nat.le_refl _, Nat.le_refl _, by show B3 ≤ _; omega, .refl _ _ _⟩
  case round =>
    obtain ⟨k, v4, A, K, L, hkn, rfl, o5, hown, hin, hmono, hL0, hLk, hon⟩ := hrel
    have hBw : Below w.heap.size w wr := bW3.trans (hon.below (by omega) (by omega))
    have p5 := hon.blk p4 (Or.inl (by omega))
    have hz5 : B3 ≤ wr.heap.size := by have := hon.size; omega
    have hk5 := h.keep hBw
    by_cases hlt : k < d.nW
    · obtain ⟨b, o, ex4, hc⟩ := hk5.wk k hlt
      have hL4 := HR.out.l k hlt
      have hlm := hk5.lm k hlt
      simp only [hL4] at hc hlm
      obtain rfl : x4 = ⟨b, o, none⟩ := by simpa using ex4
      have c3 := o5.cell 3
      have f3 := o5.free 3
      simp at c3
      go_wp2_with fail
      have hE : (wr.alloc (.cells #[] 4)).ownsRow wr.heap.size 4 1 (.slice (some ⟨wr.heap.size, 0, none⟩) 0 0) 0 [] := ⟨rfl, Or.inr ⟨wr.heap.size, 0, #[], rfl, Nat.le_refl _, heap_alloc_new wr _, Nat.le_refl _, Nat.zero_le _, rfl, rfl⟩⟩
      have hlmE : SlAt (wr.alloc (.cells #[] 4)).drew (some (X k)) 4 (fun j => .bool (d.wk k j)) := hlm.keep ((Below.refl _ _).alloc (Nat.le_refl _) _).drew
      have hN2 := o5.lt
      have cE := (o5.alloc (.cells #[] 4)).cell 3
      have fE := (o5.alloc (.cells #[] 4)).free 3
      simp only [List.getElem?_toArray, List.getElem?_cons_succ, List.getElem?_cons_zero] at cE
      have hvne : v4.ownBlock ≠ some wr.heap.size := fun e => by have := (hown.lt _ e).2; omega
      have hvne2 : v4.ownBlock ≠ some (w.heap.size + 1 + 1) := fun e => by have := (hown.lt _ e).1; omega
      go_region_law
        (first
          | ((refine step_append_lies _ (by rfl) (.tmp 33) (.tmp 34) 23 (by rfl) wr.heap.size 4 ib (.bool false) 1 1 Try.uBools hib hzb0 hzb1 hzb2 rfl (by omega) (.slice (some ⟨wr.heap.size, 0, none⟩) 0 0) 0 [] (by rfl) hE.drew (X k) 4 (C k) ((List.range 4).map (fun j => .bool (d.wk k j))) (by rfl) (by rfl) (news_of_sl hlmE) (one_bools 4 (d.wk k)) (by omega) (by unfold maxLen; omega) (by omega) (by simp) (wr.heap.size + 1) (by simp) ?_; intro q1 e1 w4 hi4 hgi4 hat4 hlt4; have o6 : Blk w4 (w.heap.size + 1 + 1) #[.slice y1 d.nN k1, .slice y2 d.nF k2, .slice y3 d.nO k3, v4] 30 := (hgi4.block (w.heap.size + 1 + 1) (by simp; omega) (by simp [Value.ownBlock]; omega)).trans (o5.alloc (.cells #[] 4)); have cA := o6.cell 3; have fA := o6.free 3; simp at cA; have cA2 := (o6.alloc (.cells #[.slice (some ⟨q1, 0, none⟩) (0 + 4) e1] 23)).cell 3; have fA2 := (o6.alloc (.cells #[.slice (some ⟨q1, 0, none⟩) (0 + 4) e1] 23)).free 3; simp only [List.getElem?_toArray, List.getElem?_cons_succ, List.getElem?_cons_zero] at cA2; have hv4 := ((hown.alloc (.cells #[] 4)).drew).kept hgi4 (Or.inr hvne); have hz4 : wr.heap.size + 1 ≤ w4.heap.size := (by have := hgi4.size; simpa using this)))
          | ((refine step_append_lies _ (by rfl) (.tmp 32) (.tmp 36) 24 (by rfl) B3 23 ic (.slice none 0 0) 1 24 Try.uBoolss hic hzc0 hzc1 hzc2 rfl (by omega) v4 k ((List.range k).map (fun i => .slice (A i) 4 (K i))) (by rfl) (hv4.alloc _) ⟨w4.heap.size, 0, none⟩ 1 1 [.slice (some ⟨q1, 0, none⟩) (0 + 4) e1] (by rfl) (by rfl) (World.news_of_block (cs := #[.slice (some ⟨q1, 0, none⟩) (0 + 4) e1]) (t := 23) (fr := (0, 0)) (heap_alloc_new w4 _)) (by simp [Value.oneCell']) (by omega) (by unfold maxLen; omega) (by omega) (by simp; omega) (w4.heap.size + 1) (by simp) ?_; intro q2 e2 w5 ho5 hgo5 hat5 hlt5; have o7 : Blk w5 (w.heap.size + 1 + 1) #[.slice y1 d.nN k1, .slice y2 d.nF k2, .slice y3 d.nO k3, v4] 30 := (hgo5.block (w.heap.size + 1 + 1) (by simp; omega) (Ne.symm hvne2)).trans (o6.alloc (.cells #[.slice (some ⟨q1, 0, none⟩) (0 + 4) e1] 23)); have cB := o7.cell 3; have fB := o7.free 3; simp at cB)))
      all_goals
        have hs5 : w4.heap.size + 1 ≤ w5.heap.size := by have := hgo5.size; simpa using this
        have HBlk : Hid (Blk (w5.setCell ⟨w.heap.size + 1 + 1, 3, none⟩ (.slice (some ⟨q2, 0, none⟩) (k + 1) e2)) (w.heap.size + 1 + 1) #[.slice y1 d.nN k1, .slice y2 d.nF k2, .slice y3 d.nO k3, .slice (some ⟨q2, 0, none⟩) (k + 1) e2] 30) := by show Blk _ _ _ _; simpa using o7.set 3 (.slice (some ⟨q2, 0, none⟩) (k + 1) e2)
        have HOwn : Hid ((w5.setCell ⟨w.heap.size + 1 + 1, 3, none⟩ (.slice (some ⟨q2, 0, none⟩) (k + 1) e2)).ownsRow B3 23 1 (.slice (some ⟨q2, 0, none⟩) (k + 1) e2) (k + 1) ((List.range (k + 1)).map (fun i => .slice (if i = k then some ⟨q1, 0, none⟩ else A i) 4 (if i = k then e1 else K i)))) := by
          show World.ownsRow _ _ _ _ _ _ _
          rw [snoc_map]
          exact ownsRow_setCell_below ho5 (by show w.heap.size + 1 + 1 < B3; omega) _
        have HOn : Hid (Only (w.heap.size + 1 + 1) (w.heap.size + 1 + 1 + 1) W3 (w5.setCell ⟨w.heap.size + 1 + 1, 3, none⟩ (.slice (some ⟨q2, 0, none⟩) (k + 1) e2))) :=
          only_step hon hgi4 (fun g hg => by simp [Value.ownBlock] at hg; omega) hgo5 (fun g hg => by have := (hown.lt g hg).1; omega) (Nat.le_refl _) (by show w.heap.size + 1 + 1 < w.heap.size + 1 + 1 + 1; omega) _
        have hnew : OwnT w4 wr.heap.size w4.heap.size (some ⟨q1, 0, none⟩) 4 4 (fun j => .bool (d.wk k j)) := by
          obtain ⟨ao, cap, ea, ht⟩ := OwnT.ofOwns (f := fun j => .bool (d.wk k j)) (n := 4) (by simpa using hi4)
          injection ea with e1 _ _
          rw [e1]; exact ht
        have HIn : Hid (∀ i, i < k + 1 → OwnT (w5.setCell ⟨w.heap.size + 1 + 1, 3, none⟩ (.slice (some ⟨q2, 0, none⟩) (k + 1) e2)) (if i = k + 1 then w5.heap.size else L i) (if i + 1 = k + 1 then w5.heap.size else L (i + 1)) (if i = k then some ⟨q1, 0, none⟩ else A i) 4 4 (fun j => .bool (d.wk i j))) := by
          intro i hi
          rw [if_neg (by omega)]
          by_cases e : i = k
          · subst e
            rw [if_pos rfl, if_pos rfl]
            refine ((((hnew.alloc (.cells #[.slice (some ⟨q1, 0, none⟩) (0 + 4) e1] 23)).grown hgo5 (fun b c _ _ hb => own_ne (hv4.alloc _) hb (by decide))).apart (fun b c _ hb _ _ => by show b ≠ w.heap.size + 1 + 1; omega) _)).wide hLk (by omega)
          · rw [if_neg (by omega), if_neg e]
            have hmi := hmono (i + 1) k (by omega) (Nat.le_refl _)
            refine ((((((hin i (by omega)).alloc (.cells #[] 4)).drew.grown hgi4 (fun b c _ hb _ => by simp [Value.ownBlock]; omega)).alloc (.cells #[.slice (some ⟨q1, 0, none⟩) (0 + 4) e1] 23)).grown hgo5 (fun b c _ _ hb => own_ne (hv4.alloc _) hb (by decide))).apart (fun b c _ hb _ _ => by show b ≠ w.heap.size + 1 + 1; have := hmono 0 i (Nat.zero_le _) (by omega); omega) _)
        have HMo : Hid (∀ i j, i ≤ j → j ≤ k + 1 → (if i = k + 1 then w5.heap.size else L i) ≤ (if j = k + 1 then w5.heap.size else L j)) := by
          intro i j hij hjk
          by_cases ej : j = k + 1
          · rw [if_pos ej]
            split
            · exact Nat.le_refl _
            · have := hmono i k (by omega) (Nat.le_refl _); omega
          · rw [if_neg ej, if_neg (by omega)]
            exact hmono i j hij (by omega)
        clear hv4 hgi4 hat4 hlt4 hi4 ho5 hgo5 hat5 hlt5 o6 o7 cA fA cA2 fA2 cB fB hE hlmE hlm hnew hin hmono hown hon
        go_wp2
        go_roundw
        case rel => exact ⟨k + 1, .slice (some ⟨q2, 0, none⟩) (k + 1) e2, fun i => if i = k then some ⟨q1, 0, none⟩ else A i, fun i => if i = k then e1 else K i, fun i => if i = k + 1 then w5.heap.size else L i, by omega, by go_num, HBlk.out, HOwn.out, HIn.out, HMo.out, by show B3 ≤ (if 0 = k + 1 then w5.heap.size else L 0); rw [if_neg (by omega)]; exact hL0, by show (if k + 1 = k + 1 then w5.heap.size else L (k + 1)) ≤ _; rw [if_pos rfl]; simp, HOn.out⟩
        case measure => simp [intOf]; omega
    · obtain rfl : k = d.nW := by omega
      obtain ⟨a4, k4, rfl, t4⟩ := OwnT.ofOwns hown
      have r5 := hon.blk r4 (Or.inl (by omega))
      have u1 := t14.only hon (Or.inr (by omega))
      have u2 := t24.only hon (Or.inr (by omega))
      have u3 := t34.only hon (Or.inr (by omega))
      have m0 := o5.cell 0
      have m1 := o5.cell 1
      have m2 := o5.cell 2
      have m3 := o5.cell 3
      have n0 := r5.cell 0
      have n1 := r5.cell 1
      have n2 := r5.cell 2
      have n3 := r5.cell 3
      have q0 := r5.free 0
      have q1 := r5.free 1
      have q2 := r5.free 2
      have q3 := r5.free 3
      simp at m0 m1 m2 m3 n0 n1 n2 n3
      have rF := (((r5.set 0 (.slice y1 d.nN k1)).set 1 (.slice y2 d.nF k2)).set 2 (.slice y3 d.nO k3)).set 3 (.slice a4 d.nW k4)
      have low : ∀ {lo hi n t : Nat} {ao : Option Addr} {f : Nat → Value}, OwnT wr lo hi ao n t f → w.heap.size + 3 ≤ lo → OwnT (((((wr).setCell ⟨w.heap.size + 1, 0, none⟩ (.slice y1 d.nN k1)).setCell ⟨w.heap.size + 1, 1, none⟩ (.slice y2 d.nF k2)).setCell ⟨w.heap.size + 1, 2, none⟩ (.slice y3 d.nO k3)).setCell ⟨w.heap.size + 1, 3, none⟩ (.slice a4 d.nW k4)) lo hi ao n t f := fun ht hl =>
        ((((ht.apart (fun b _ _ hb _ _ => by show b ≠ w.heap.size + 1; omega) _).apart (fun b _ _ hb _ _ => by show b ≠ w.heap.size + 1; omega) _).apart (fun b _ _ hb _ _ => by show b ≠ w.heap.size + 1; omega) _).apart (fun b _ _ hb _ _ => by show b ≠ w.heap.size + 1; omega) _)
      have HCp : Hid (Cp (((((wr).setCell ⟨w.heap.size + 1, 0, none⟩ (.slice y1 d.nN k1)).setCell ⟨w.heap.size + 1, 1, none⟩ (.slice y2 d.nF k2)).setCell ⟨w.heap.size + 1, 2, none⟩ (.slice y3 d.nO k3)).setCell ⟨w.heap.size + 1, 3, none⟩ (.slice a4 d.nW k4)) w.heap.size y1 y2 y3 a4 A K d) := by
        refine ⟨B2, B3, L, by omega, s3, (low u1 (Nat.le_refl _)).wide (by omega) (Nat.le_refl _), (low u2 (Nat.le_refl _)).wide (by omega) (Nat.le_refl _), low u3 (by omega), ?_, fun i hi => ?_, hmono, hL0⟩
        · have := low t4 (by omega)
          refine (this.wide (Nat.le_refl _) (by simp)).congr fun i hi => ?_
          rw [HR.out.l i hi]
        · rw [HR.out.l i hi]
          exact low (hin i hi) (by have := hmono 0 i (Nat.zero_le _) (by omega); omega)
      have HBf : Hid (Below w.heap.size w (((((wr).setCell ⟨w.heap.size + 1, 0, none⟩ (.slice y1 d.nN k1)).setCell ⟨w.heap.size + 1, 1, none⟩ (.slice y2 d.nF k2)).setCell ⟨w.heap.size + 1, 2, none⟩ (.slice y3 d.nO k3)).setCell ⟨w.heap.size + 1, 3, none⟩ (.slice a4 d.nW k4))) := (((hBw.setCell (by show w.heap.size ≤ w.heap.size + 1; omega) _).setCell (by show w.heap.size ≤ w.heap.size + 1; omega) _).setCell (by show w.heap.size ≤ w.heap.size + 1; omega) _).setCell (by show w.heap.size ≤ w.heap.size + 1; omega) _
      clear hk5 h low u1 u2 u3 t4 hin hown hon t14 t24 t34 hmono p5 p4 r4 o4 bW3 hBw
      go_wp2
      generalize (((((wr).setCell ⟨w.heap.size + 1, 0, none⟩ (.slice y1 d.nN k1)).setCell ⟨w.heap.size + 1, 1, none⟩ (.slice y2 d.nF k2)).setCell ⟨w.heap.size + 1, 2, none⟩ (.slice y3 d.nO k3)).setCell ⟨w.heap.size + 1, 3, none⟩ (.slice a4 d.nW k4)) = Wf at *
      have f0 := rF.cell 0
      have f1 := rF.cell 1
      have f2 := rF.cell 2
      have f3 := rF.cell 3
      simp at f0 f1 f2 f3
      exact bodyPost_ret (v := .agg #[.slice y1 d.nN k1, .slice y2 d.nF k2, .slice y3 d.nO k3, .slice a4 d.nW k4]) (by simp [results, Try.results30, go_sem, f0, f1, f2, f3]) rfl ⟨⟨y1, k1, y2, k2, y3, k3, a4, k4, A, K, rfl, HCp.out⟩, HBf.out⟩

end Go.Proofs.Ytachkoledebanab
