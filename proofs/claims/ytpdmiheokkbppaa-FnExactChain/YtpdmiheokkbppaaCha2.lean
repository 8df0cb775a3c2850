/-
  Chain: the program's: an iterator that is ranged over.
-/
import Derived.Test.YtpdmiheokkbppaaRng
import Derived.Test.YtpdmiheokkbppaaHas
namespace Go.Proofs.Ytpdmiheokkbppaa
open Go.RowKit Go.Shelf

attribute [local go_sem] Oper.semAt_some

/-- what a round keeps: cells, but for the box Bc and rows of ints from n0 on -/
structure Kept (n0 Bc : Nat) (W W' : World) : Prop where
  size : W.heap.size ≤ W'.heap.size
  same : ∀ (k : Nat) (c : Array Value) (t : TypeId) (f : Nat × Nat), W.heap[k]? = some (.cells c t f) → k ≠ Bc → (k < n0 ∨ t ≠ 3) → W'.heap[k]? = some (.cells c t f)
theorem Kept.trans {n0 Bc : Nat} {A B C : World} (h : Kept n0 Bc A B) (k : Kept n0 Bc B C) : Kept n0 Bc A C :=
  ⟨Nat.le_trans h.size k.size, fun i c t f h1 h2 h3 => k.same i c t f (h.same i c t f h1 h2 h3) h2 h3⟩
theorem Kept.putObj (n0 Bc : Nat) (W : World) (r : Nat) (o o' : Obj) (h : W.heap[r]? = some o) (hc : o.isCells = false) : Kept n0 Bc W (W.putObj r o') :=
  ⟨by simp, fun k c t f h1 _ _ => by
    by_cases e : k = r
    · subst e; rw [h] at h1; cases h1; cases hc
    · exact (World.putObj_heap_other e).trans h1⟩
theorem Kept.row {n0 Bc b t m : Nat} {g : Nat → Value} {W W' : World} (h : Kept n0 Bc W W') (hr : W.rowIs b t m g) (hb : b ≠ Bc) (ht : t ≠ 3) : W'.rowIs b t m g := by
  obtain ⟨c, h1, h2, h3⟩ := hr
  exact ⟨c, h.same b c t _ h1 hb (Or.inr ht), h2, h3⟩
theorem Kept.blk {n0 Bc b t : Nat} {c : Array Value} {W W' : World} (h : Kept n0 Bc W W') (hr : Blk W b c t) (hb : b ≠ Bc) (ht : t ≠ 3) : Blk W' b c t := h.same b c t _ hr hb (Or.inr ht)

/-- behind 'out = append(out, v)' -/
theorem Kept.appended {n0 Bc : Nat} {W w1 : World} {v v' : Value} {m : Nat} {xs : List Value} {tmp : Obj} (hrow : W.ownsRow n0 3 1 v m xs) (hg : (W.alloc tmp).grownBy w1 v.ownBlock) : Kept n0 Bc W (w1.setCell ⟨Bc, 0, none⟩ v') := by
  refine ⟨?_, fun k c t f h1 h2 h3 => ?_⟩
  · have := hg.size
    simp at this ⊢
    omega
  · have hk : k < W.heap.size := (Array.getElem?_eq_some_iff.1 h1).1
    refine (Below.heap_setCell w1 ⟨Bc, 0, none⟩ v' k h2).trans ((hg.block k (by simp; omega) (fun e => ?_)).trans ((Below.heap_alloc W tmp k hk).trans h1))
    rcases hrow.2 with ⟨rfl, _⟩ | ⟨g, cap, cur, rfl, hge, hgb, _⟩
    · simp [Value.ownBlock] at e
    · obtain rfl : k = g := by simpa [Value.ownBlock] using e
      rw [hgb] at h1
      cases h1
      rcases h3 with h3 | h3
      · omega
      · exact h3 rfl

/-- the loop's own state: the box holds what has come -/
def ColI (w : World) (Bc : Nat) (pre : List Int) (W : World) : Prop :=
  (∃ v, Boxed W Bc 23 v ∧ W.ownsRow w.heap.size 3 1 v pre.length (pre.map (Value.int .i64))) ∧ Below w.heap.size w W ∧ w.heap.size ≤ Bc

theorem ColI.alloc {w : World} {Bc : Nat} {pre : List Int} {W : World} (h : ColI w Bc pre W) (o : Obj) : ColI w Bc pre (W.alloc o) := by
  obtain ⟨⟨v, h1, h2⟩, h3, h4⟩ := h
  exact ⟨⟨v, h1.alloc o, h2.alloc o⟩, h3.alloc (by have := h1.lt; omega) o, h4⟩
theorem ColI.putObj {w : World} {Bc : Nat} {pre : List Int} {W : World} (h : ColI w Bc pre W) {r : Nat} {o : Obj} (o' : Obj) (hr : w.heap.size ≤ r) (hl : W.heap[r]? = some o) (hc : o.isCells = false) : ColI w Bc pre (W.putObj r o') := by
  obtain ⟨⟨v, h1, h2⟩, h3, h4⟩ := h
  have hne : Bc ≠ r := fun e => by subst e; rw [show W.heap[Bc]? = _ from h1] at hl; cases hl; cases hc
  exact ⟨⟨v, h1.kept (grownBy_putObj' W r o') (by simpa using hne), ownsRow_putObj h2 o' hl hc⟩, h3.grown (grownBy_putObj' W r o') (by have := h1.lt; omega) (fun k e => by cases e; exact hr), h4⟩
/-- a store of the iterator's into its own bools -/
theorem ColI.store {w : World} {Bc : Nat} {pre : List Int} {W : World} (h : ColI w Bc pre W) {b m : Nat} {g : Nat → Value} (hr : W.rowIs b 4 m g) (hb : w.heap.size ≤ b) (k : Nat) (v' : Value) : ColI w Bc pre (W.setCell ⟨b, k, none⟩ v') := by
  obtain ⟨⟨v, h1, h2⟩, h3, h4⟩ := h
  obtain ⟨c, hc, _⟩ := hr
  have hne : Bc ≠ b := fun e => by subst e; rw [show W.heap[Bc]? = _ from h1] at hc; cases hc
  refine ⟨⟨v, (Below.heap_setCell W ⟨b, k, none⟩ v' Bc hne).trans h1, ownsRow_setCell_other h2 (fun e => ?_) _⟩, h3.setCell hb _, h4⟩
  rcases h2.2 with ⟨rfl, _⟩ | ⟨g', cap, cur, rfl, _, hgb, _⟩
  · simp [Value.ownBlock] at e
  · obtain rfl : g' = b := by simpa [Value.ownBlock] using e
    rw [hgb] at hc; cases hc

/-- which signals have been met behind k steps -/
def mk (d : RD) (s : Int) (k i : Nat) : Bool := (List.range k).any (fun j => it d s j == (i : Int))
theorem mk_succ (d : RD) (s : Int) (k i : Nat) : mk d s (k + 1) i = (mk d s k i || it d s k == (i : Int)) := by simp [mk, List.range_succ, List.any_append]
theorem mk_true {d : RD} {s : Int} {k i : Nat} (h : mk d s k i = true) : ∃ j, j < k ∧ it d s j = i := by
  simp only [mk, List.any_eq_true, List.mem_range, beq_iff_eq] at h
  exact h
theorem mk_false {d : RD} {s : Int} {k i : Nat} (h : mk d s k i = false) : ∀ j, j < k → it d s j ≠ i := fun j hj e => by
  have : mk d s k i = true := by
    simp only [mk, List.any_eq_true, List.mem_range, beq_iff_eq]
    exact ⟨j, hj, e⟩
  rw [h] at this; cases this

/-- how many of the first m meet p -/
def cnt (p : Nat → Bool) : Nat → Nat
  | 0 => 0
  | m + 1 => cnt p m + (if p m then 1 else 0)
theorem cnt_congr {p q : Nat → Bool} : ∀ (m : Nat), (∀ i, i < m → p i = q i) → cnt p m = cnt q m
  | 0, _ => rfl
  | m + 1, h => by simp only [cnt]; rw [cnt_congr m (fun i hi => h i (by omega)), h m (by omega)]
theorem cnt_le {p q : Nat → Bool} : ∀ (m : Nat), (∀ i, i < m → p i = true → q i = true) → cnt p m ≤ cnt q m
  | 0, _ => Nat.le_refl _
  | m + 1, h => by
    have ih := cnt_le m (fun i hi => h i (by omega))
    have hm := h m (by omega)
    simp only [cnt]
    cases hp : p m
    · simp; omega
    · simp [hm hp]; omega
theorem cnt_lt {p q : Nat → Bool} : ∀ (m j : Nat), (∀ i, i < m → p i = true → q i = true) → j < m → p j = false → q j = true → cnt p m < cnt q m
  | 0, _, _, hj, _, _ => absurd hj (Nat.not_lt_zero _)
  | m + 1, j, h, hj, hp, hq => by
    simp only [cnt]
    by_cases e : j = m
    · subst e
      have := cnt_le j (fun i hi => h i (by omega))
      rw [hp, hq]; simp; omega
    · have ih := cnt_lt m j (fun i hi => h i (by omega)) (by omega) hp hq
      have hm := h m (by omega)
      cases hpm : p m
      · simp; omega
      · simp [hm hpm]; omega

/-- is this cell not marked? -/
def unm (Bm : Nat) (W : World) (i : Nat) : Bool := match W.cell? ⟨Bm, i, none⟩ with | some (.bool true) => false | _ => true
theorem unm_row {Bm m : Nat} {W : World} {f : Nat → Bool} (h : W.rowIs Bm 4 m (fun i => .bool (f i))) : ∀ i, i < m → unm Bm W i = !f i := fun i hi => by
  unfold unm
  rw [h.cell hi]
  cases f i <;> rfl

set_option maxRecDepth 100000 in
set_option maxHeartbeats 2000000 in
/-- the iterator: it goes along the Nexts and hands each signal on once -/
theorem onward1_in (n : Nat) (l rb sb Bc : Nat) (a1 a2 a3 a4 : Option Addr) (c1 c2 c3 c4 : Nat) (d : RD) (s : Int) (w W : World) (R : World → Prop) (hR : Right d) (g1 : 0 ≤ s) (g2 : s < d.nN)
    (hnx : SlAt w a1 d.nN (fun k => .int .i64 (d.nx k))) (hRa : ∀ W o, R W → R (W.alloc o)) (hRs : ∀ W p v, R W → R (W.setCell p v))
    (hY : ∀ pre x W, ColI w Bc pre W → R W → pre.length < 60 → YieldAt Fence.wide (n - 1) Try.prog l #[.int .i64 x] W fun e W' => e = .returned (.bool true) ∧ ColI w Bc (pre ++ [x]) W' ∧ R W' ∧ Kept w.heap.size Bc W W')
    (hrb : Blk W rb #[.slice a1 d.nN c1, .slice a2 d.nF c2, .slice a3 d.nO c3, .slice a4 d.nW c4] 27) (hsb : W.cell? ⟨sb, 0, none⟩ = some (.int .i64 s)) (hbc : rb ≠ Bc) (h0 : ColI w Bc [] W) (hR0 : R W) :
    CallsIn Fence.wide n Try.prog 74 #[.func (.yield l) #[] #[], .pointer (some ⟨rb, 0, none⟩), .pointer (some ⟨sb, 0, none⟩)] W fun e W' =>
      (∃ v, e = .returned v) ∧ ∃ m, IsLen d s m ∧ ColI w Bc (chL d s m) W' ∧ R W' := by
  have h60 := hR.s.nN
  have HR : Hid (Right d) := hR
  have hmk := run_make_row' (P := Try.prog) 24 4 (.bool false) 1 Try.uBools Try.iBool rfl .i64 .i64 d.nN (by omega) (by omega)
  have hcb := hrb.cell 0
  simp at hcb
  have hm0 := World.rowIs_made W (.bool false) d.nN 4
  have hwW : w.heap.size ≤ W.heap.size := h0.2.1.size
  have hBW : Bc < W.heap.size := by obtain ⟨⟨v, hv, _⟩, _⟩ := h0; exact hv.lt
  have hrbW := hrb.lt
  have hsbW : sb < W.heap.size := block_lt_of_cell hsb
  have HJ0 : Hid (ColI w Bc (chL d s 0) (W.alloc (.cells (madeCells #[.bool false] d.nN) 4)) ∧ R (W.alloc (.cells (madeCells #[.bool false] d.nN) 4))) := ⟨h0.alloc _, hRa _ _ hR0⟩
  have HY : Hid (∀ pre x W, ColI w Bc pre W → R W → pre.length < 60 → YieldAt Fence.wide (n - 1) Try.prog l #[.int .i64 x] W fun e W' => e = .returned (.bool true) ∧ ColI w Bc (pre ++ [x]) W' ∧ R W' ∧ Kept w.heap.size Bc W W') := hY
  have HRs : Hid (∀ W p v, R W → R (W.setCell p v)) := hRs
  have HM0 : Hid ((W.alloc (.cells (madeCells #[.bool false] d.nN) 4)).rowIs W.heap.size 4 d.nN (fun i => .bool (mk d s 0 i))) := hm0.congr (fun i _ => by simp [mk])
  have HRB : Hid (Blk (W.alloc (.cells (madeCells #[.bool false] d.nN) 4)) rb #[.slice a1 d.nN c1, .slice a2 d.nF c2, .slice a3 d.nO c3, .slice a4 d.nW c4] 27) := hrb.alloc _
  clear hY hRs hRa hR h0 hR0 hm0 hrb
  refine callsIn_of_wp Try.func74 rfl trivial ?_ rfl
  simp only [Try.ntmps74, List.size_toArray, List.length_cons, List.length_nil, Nat.reduceAdd, Nat.reduceSub, Array.replicate_succ, Array.replicate_zero, List.push_toArray, List.append_toArray, List.nil_append, List.cons_append]
  gi_wp2
  gi_loopw [5] (fun i wr => ∃ k : Nat, i = .int .i64 (it d s k) ∧ Going d s k ∧ -1 ≤ it d s k ∧ it d s k < d.nN ∧ wr.rowIs W.heap.size 4 d.nN (fun i => .bool (mk d s k i)) ∧
      Blk wr rb #[.slice a1 d.nN c1, .slice a2 d.nF c2, .slice a3 d.nO c3, .slice a4 d.nW c4] 27 ∧ ColI w Bc (chL d s k) wr ∧ R wr) (fun _ wr => cnt (unm W.heap.size wr) d.nN)
  case atStart => exact ⟨0, rfl, ⟨fun j hj => absurd hj (Nat.not_lt_zero _), fun j hj => absurd hj (Nat.not_lt_zero _), fun i j _ hj => absurd hj (Nat.not_lt_zero _)⟩, by show -1 ≤ s; omega, g2, HM0.out, HRB.out, HJ0.out.1, HJ0.out.2⟩
  case round =>
    obtain ⟨k, rfl, hgo, q1, q2, hrow, hrb, hJ, hRw⟩ := hrel
    have HG : Hid (Going d s k) := hgo
    clear HM0 HRB HJ0 hcb hsb hgo
    by_cases hneg : it d s k = -1
    · have z : (it d s k != -1) = false := by rw [bne_eq_false_iff_eq]; exact hneg
      have hL : Hid (IsLen d s k) := ⟨HG.out, Or.inl hneg⟩
      clear hneg hrow hrb hnx
      gi_wp2
      go_end0
      exact ⟨⟨_, rfl⟩, k, hL.out, hJ, hRw⟩
    · have z : (it d s k != -1) = true := by rw [bne_iff_ne]; exact hneg
      have q3 : 0 ≤ it d s k := by omega
      have hnn : (it d s k).toNat < d.nN := by omega
      have hcell := hrow.cell hnn
      have hfz := hrow.frozen (it d s k).toNat
      clear hneg
      cases hmk2 : mk d s k (it d s k).toNat with
      | true =>
        rw [hmk2] at hcell
        have hL : Hid (IsLen d s k) := ⟨HG.out, Or.inr (by obtain ⟨j, hj, e⟩ := mk_true hmk2; exact ⟨j, hj, by omega⟩)⟩
        clear hmk2 hrow hrb hnx
        gi_wp2
        go_end0
        exact ⟨⟨_, rfl⟩, k, hL.out, hJ, hRw⟩
      | false =>
        rw [hmk2] at hcell
        have hne := mk_false hmk2
        have HG' : Hid (Going d s (k + 1)) := HG.out.succ q3 q2 (fun j hj e => hne j hj (by omega))
        have hkle := HG'.out.le
        have hJ1 := hJ.store hrow hwW (it d s k).toNat (.bool true)
        have hR1 := HRs.out _ ⟨W.heap.size, (it d s k).toNat, none⟩ (.bool true) hRw
        have hrow1 := (hrow.set (it d s k).toNat (.bool true)).congr (g := fun i => .bool (mk d s (k + 1) i)) (fun i hi => by
          by_cases e : i = (it d s k).toNat
          · rw [if_pos e, mk_succ, show (it d s k == (i : Int)) = true by rw [beq_iff_eq]; omega]; simp
          · rw [if_neg e, mk_succ, show (it d s k == (i : Int)) = false by rw [beq_eq_false_iff_ne]; omega]; simp)
        have hrb1 := hrb.other (a := ⟨W.heap.size, (it d s k).toNat, none⟩) (by show rb ≠ W.heap.size; omega) (.bool true)
        have HC : Hid (cnt (unm W.heap.size wr) d.nN = cnt (fun i => !mk d s k i) d.nN) := cnt_congr _ (unm_row hrow)
        have hway := (HR.out.w (it d s k).toNat hnn).1
        obtain ⟨fn, tmps, assign, body, hy, hRd⟩ := HY.out (chL d s k) (it d s k) _ hJ1 hR1 (by rw [chL_len]; omega)
        have HH : Hid (mk d s k (it d s k).toNat = false) := hmk2
        clear hne hmk2 hrow hrb hJ hRw hJ1 hR1
        gi_wp2
        refine ⟨fun h => (by cases h), hRd.mono ?_⟩
        rintro e W3 ⟨rfl, hJ3, hR3, hk3⟩
        have hrow3 := hk3.row hrow1 (by omega) (by decide)
        have hrb3 := hk3.blk hrb1 hbc (by decide)
        have hcb := hrb3.cell 0
        simp at hcb
        obtain ⟨b, o, rfl, hc⟩ := (hnx.keep hJ3.2.1) (it d s k).toNat hnn
        have HM : Hid (cnt (unm W.heap.size W3) d.nN < cnt (fun i => !mk d s k i) d.nN) := by
          show _ < _
          rw [cnt_congr _ (unm_row hrow3)]
          refine cnt_lt _ (it d s k).toNat (fun i _ hi => ?_) hnn ?_ ?_
          · rw [mk_succ] at hi; simp at hi ⊢; exact hi.1
          · rw [mk_succ, show (it d s k == ((it d s k).toNat : Int)) = true by rw [beq_iff_eq]; omega]; simp
          · simp [HH.out]
        have HJ3 : Hid (ColI w Bc (chL d s (k + 1)) W3) := by show ColI _ _ _ _; rw [chL_snoc]; exact hJ3
        have HRow : Hid (W3.rowIs W.heap.size 4 d.nN (fun i => .bool (mk d s (k + 1) i))) := hrow3
        clear hRd hy hrow1 hrb1 hk3 hnx hcell hfz hJ3 hrow3
        gi_wp2
        go_roundw
        case rel => exact ⟨k + 1, rfl, HG'.out, hway.1, hway.2, HRow.out, hrb3, HJ3.out, hR3⟩
        case measure => rw [HC.out]; exact HM.out

set_option maxHeartbeats 2000000 in
/-- what is ranged over: both arguments are boxed; the function value captures the boxes -/
theorem onward_in (n : Nat) (v0 v1 v2 v3 : Value) (s : Int) (w : World) :
    CallsIn Fence.wide n Try.prog 62 #[.agg #[v0, v1, v2, v3], .int .i64 s] w fun e w' =>
      e = .returned (.func (.func 74) #[] #[.pointer (some ⟨w.heap.size, 0, none⟩), .pointer (some ⟨w.heap.size + 1, 0, none⟩)]) ∧ w' = (w.alloc (.cells #[v0, v1, v2, v3] 27)).alloc (.cells #[.int .i64 s] 3) := by
  refine callsIn_of_wp Try.func62 rfl trivial ?_ rfl
  simp only [Try.ntmps62, List.size_toArray, List.length_cons, List.length_nil, Nat.reduceAdd, Nat.reduceSub, Array.replicate_succ, Array.replicate_zero, List.push_toArray, List.append_toArray, List.nil_append, List.cons_append]
  gi_wp2
  go_ret
  exact ⟨rfl, rfl⟩

set_option maxHeartbeats 2000000 in
theorem implChain_any (a1 a2 a3 a4 : Option Addr) (c1 c2 c3 c4 : Nat) (A : Nat → Option Addr) (C : Nat → Nat) (d : RD) (s : Int) (w : World) (hs : Small d) (h : RowAt w a1 a2 a3 a4 A C d) :
    Calls Try.prog 38 #[.agg #[.slice a1 d.nN c1, .slice a2 d.nF c2, .slice a3 d.nO c3, .slice a4 d.nW c4], .int .i64 s] w fun e w' =>
      (∃ xs, IsChain d s xs ∧ RetInts e w.heap.size w' xs) ∧ Below w.heap.size w w' := by
  obtain ⟨i0, hi, hz0, hz1, hz2⟩ := info_parts Try.iInt
  have bel : Below w.heap.size w (w.alloc (.cells #[.slice a1 d.nN c1, .slice a2 d.nF c2, .slice a3 d.nO c3, .slice a4 d.nW c4] 27)) := (Below.refl _ _).alloc (Nat.le_refl _) _
  have hk := h.keep bel
  have hbk := Blk.new w #[.slice a1 d.nN c1, .slice a2 d.nF c2, .slice a3 d.nO c3, .slice a4 d.nW c4] 27
  refine (callsIn_wide (n := 5)).1 ?_
  refine callsIn_of_wp_marks Try.func38 rfl trivial ?_ rfl
  simp only [Try.ntmps38, List.size_toArray, List.length_cons, List.length_nil, Nat.reduceAdd, Nat.reduceSub, Array.replicate_succ, Array.replicate_zero, List.push_toArray, List.append_toArray, List.nil_append, List.cons_append]
  gi_wp2_with fail
  generalize (w.alloc (.cells #[.slice a1 d.nN c1, .slice a2 d.nF c2, .slice a3 d.nO c3, .slice a4 d.nW c4] 27)) = W at *
  refine ⟨trivial, (callsIn_wide.2 (hasSignal_any a1 a2 a3 a4 c1 c2 c3 c4 A C d s W hs hk)).mono ?_⟩
  rintro e w1 ⟨⟨bb, rfl, hsay⟩, hb1⟩
  have bel1 : Below w.heap.size w w1 := chain bel hb1
  cases bb with
  | false =>
    have HB : Hid (IsChain d s []) := Or.inr ⟨(fun u => by have := hsay.2 u; cases this), rfl⟩
    clear hk hbk hb1 hsay hs h
    gi_wp2
    exact ⟨_, results_tmp rfl _ _ _, ⟨[], HB.out, .nil rfl⟩, bel1⟩
  | true =>
  have hR := hsay.1 rfl
  have HR : Hid (Right d ∧ 0 ≤ s ∧ s < d.nN) := hR
  have h60 := hR.1.s.nN
  obtain ⟨-, g1, g2⟩ := hR
  have hbr := hbk.keep hb1
  have b0 := hbr.cell 0
  have b1 := hbr.cell 1
  have b2 := hbr.cell 2
  have b3 := hbr.cell 3
  simp at b0 b1 b2 b3
  have hbs : w.heap.size < w1.heap.size := hbr.lt
  have hnx := h.nx
  clear hbk hk hb1 bel hbr hsay h
  gi_wp2_with fail
  refine ⟨trivial, (onward_in _ _ _ _ _ _ _).mono ?_⟩
  rintro e w2 ⟨rfl, hw2⟩
  have bO := Boxed.new w1 23 (.slice none 0 0)
  have hrb := (Blk.new (w1.alloc (.cells #[.slice none 0 0] 23)) #[.slice a1 d.nN c1, .slice a2 d.nF c2, .slice a3 d.nO c3, .slice a4 d.nW c4] 27).alloc (.cells #[.int .i64 s] 3)
  have hsb := (Blk.new ((w1.alloc (.cells #[.slice none 0 0] 23)).alloc (.cells #[.slice a1 d.nN c1, .slice a2 d.nF c2, .slice a3 d.nO c3, .slice a4 d.nW c4] 27)) #[.int .i64 s] 3).cell 0
  have hB2 : Below w1.heap.size w1 w2 := by rw [hw2]; exact (((Below.refl _ _).alloc (Nat.le_refl _) _).alloc (by simp) _).alloc (by simp; omega) _
  have bO2 : Boxed w2 w1.heap.size 23 (.slice none 0 0) := by rw [hw2]; exact (bO.alloc _).alloc _
  rw [← hw2] at hrb
  have hw2z : w2.heap.size = w1.heap.size + 3 := by rw [hw2]; simp
  simp only [World.size_alloc] at hrb hsb
  have hsb2 : w2.cell? ⟨w1.heap.size + 1 + 1, 0, none⟩ = some (.int .i64 s) := by rw [hw2]; simpa using hsb
  have h0 : ColI w w1.heap.size [] w2 := ⟨⟨_, bO2, World.ownsRow_nil _ _ _ _⟩, chain bel1 hB2, bel1.size⟩
  clear hw2 hsb bO b0 b1 b2 b3
  have hw1 := bel1.size
  gi_wp2_with fail
  refine range_all (encs := fun x : Int => #[.int .i64 x]) (Kp := Kept w.heap.size w1.heap.size) rfl (by omega) (gf := 74) (lb := #[.pointer (some ⟨w1.heap.size + 1, 0, none⟩), .pointer (some ⟨w1.heap.size + 1 + 1, 0, none⟩)]) rfl trivial (enters_of Try.func74 (by kernel_rfl) rfl)
    (fun _ => rfl) Kept.trans (fun W r o o' _ hl hc => Kept.putObj _ _ W r o o' hl hc) (ColI w w1.heap.size) (fun _ _ o hI => hI.alloc o) (fun _ _ r o o' hI hr hl hc => hI.putObj o' (by omega) hl hc) h0
    (fun x => { tmps := #[.agg #[Value.slice a1 d.nN c1, Value.slice a2 d.nF c2, Value.slice a3 d.nO c3, Value.slice a4 d.nW c4], .int .i64 s, .pointer (some ⟨w.heap.size, 0, none⟩), undef, .slice none 0 0, .pointer (some ⟨w1.heap.size, 0, none⟩), .int .i64 x, .agg #[Value.slice a1 d.nN c1, Value.slice a2 d.nF c2, Value.slice a3 d.nO c3, Value.slice a4 d.nW c4], .int .i64 s, .bool true, .bool false, .agg #[Value.slice a1 d.nN c1, Value.slice a2 d.nF c2, Value.slice a3 d.nO c3, Value.slice a4 d.nW c4], .int .i64 s,
      .func (.func 74) #[] #[.pointer (some ⟨w1.heap.size + 1, 0, none⟩), .pointer (some ⟨w1.heap.size + 1 + 1, 0, none⟩)], .int .i64 x, undef, undef, undef, undef, undef], defers := [] }) (IsChain d s) 60 ?assign ?body ?iter ?done
  case assign =>
    intro l x W K hK
    gi_wp2
    exact hK
  case body =>
    rintro l pre x W ⟨⟨v, hv, hrow⟩, hB, hle⟩ hlt
    have hc := hv.cell
    have hBz := hB.size
    gi_wp2_with (gi_at_builtin; refine wpListIn_append_own _ rfl _ _ 23 rfl w.heap.size 3 i0 (.int .i64 0) 1 8 Try.uInts hi hz0 hz1 hz2 rfl (by decide) _ _ _ rfl (hrow.alloc _) ⟨W.heap.size, 0, none⟩ 1 1 [.int .i64 x] rfl rfl (cell_one_new _ _ _) (by simp [Value.oneCell']) (by unfold maxLen; omega) (by omega) (by simp; omega) ?_; intro v' w3 hown' hgrow _; obtain ⟨g', cap', rfl⟩ := ownsRow_succ hown'; obtain ⟨hv1, hv2, hr2, hk2, hb2⟩ := hv.appended (by decide) hrow hBz hle hown' hgrow; have hc1 := hv1.cell; have hf1 := hv1.frozen)
    exact ⟨hk2, Kept.appended hrow hgrow, ⟨_, hv2, by simpa using hr2⟩, hB.trans hb2, hle⟩
  case iter =>
    intro l R W hRa hRs hY hBW hI hRW
    have hrbW := hrb.keep hBW
    have hsbW := (hBW.cell (p := ⟨w1.heap.size + 1 + 1, 0, none⟩) (by show w1.heap.size + 1 + 1 < w2.heap.size; omega)).trans hsb2
    refine (onward1_in 4 l (w1.heap.size + 1) (w1.heap.size + 1 + 1) w1.heap.size a1 a2 a3 a4 c1 c2 c3 c4 d s w W R HR.out.1 g1 g2 hnx hRa hRs hY hrbW hsbW (by omega) hI hRW).mono ?_
    rintro e W' ⟨he, m, hm, hc, hr⟩
    exact ⟨he, _, Or.inl ⟨HR.out.1, g1, g2, m, hm, rfl⟩, hc, hr⟩
  case done =>
    rintro D xs W hD hS hI hK
    have hP := hI.putObj (.deferred none) (by omega) hK rfl
    obtain ⟨⟨v, hv, hrow⟩, hB, hle⟩ := hI
    have HF : Hid ((∃ xs, IsChain d s xs ∧ RetInts (.returned v) w.heap.size (W.putObj D (.deferred none)) xs) ∧ Below w.heap.size w (W.putObj D (.deferred none))) :=
      ⟨⟨xs, hS, RetInts.ofOwns rfl (ownsRow_putObj hrow _ hK rfl)⟩, hP.2.1⟩
    have hc := hv.cell
    clear hP hrow hB hnx
    gi_wp2
    refine ⟨by simp, .inl ⟨_, _, rfl, run_takeDeferred hK, ?_⟩⟩
    exact ⟨_, results_tmp (t := 4) rfl _ _ _, HF.out⟩

end Go.Proofs.Ytpdmiheokkbppaa
