/-
  onward: the program's iterator along the Nexts.
-/
import Derived.Test.YtachkoledebanaaRng
namespace Go.Proofs.Ytachkoledebanaa
open Go.RowKit Go.Shelf

attribute [local go_sem] Oper.semAt_some

/-- what a round keeps: cells, but for the box Bc and rows of ints from n0 on -/
structure Kept (n0 Bc : Nat) (W W' : World) : Prop where
  size : W.heap.size ≤ W'.heap.size
  same : ∀ (k : Nat) (c : Array Value) (t : TypeId) (f : Nat × Nat), W.heap[k]? = some (.cells c t f) → k ≠ Bc → (k < n0 ∨ t ≠ 3) → W'.heap[k]? = some (.cells c t f)
theorem Kept.trans {n0 Bc : Nat} {A B C : World} (h : Kept n0 Bc A B) (k : Kept n0 Bc B C) : Kept n0 Bc A C :=
  ⟨Nat.le_trans h.size k.size, fun i c t f h1 h2 h3 => k.same i c t f (h.same i c t f h1 h2 h3) h2 h3⟩
theorem Kept.putObj (n0 Bc : Nat) (W : World) (r : Nat) (o o' : Obj) (h : W.heap[r]? = some o) (hc : o.isCells = false) : Kept n0 Bc W (W.putObj r o') :=
  ⟨by simp, fun k c t f h1 _ _ => by
    by_cases e : k = r
    · subst e; rw [h] at h1; cases h1; cases hc
    · exact (World.putObj_heap_other e).trans h1⟩
theorem Kept.row {n0 Bc b t m : Nat} {g : Nat → Value} {W W' : World} (h : Kept n0 Bc W W') (hr : W.rowIs b t m g) (hb : b ≠ Bc) (ht : t ≠ 3) : W'.rowIs b t m g := by
  obtain ⟨c, h1, h2, h3⟩ := hr
  exact ⟨c, h.same b c t _ h1 hb (Or.inr ht), h2, h3⟩
theorem Kept.blk {n0 Bc b t : Nat} {c : Array Value} {W W' : World} (h : Kept n0 Bc W W') (hr : Blk W b c t) (hb : b ≠ Bc) (ht : t ≠ 3) : Blk W' b c t := h.same b c t _ hr hb (Or.inr ht)

/-- which signals have been met behind k steps -/
def mk (d : RD) (s : Int) (k i : Nat) : Bool := (List.range k).any (fun j => it d s j == (i : Int))
theorem mk_succ (d : RD) (s : Int) (k i : Nat) : mk d s (k + 1) i = (mk d s k i || it d s k == (i : Int)) := by simp [mk, List.range_succ, List.any_append]
theorem mk_true {d : RD} {s : Int} {k i : Nat} (h : mk d s k i = true) : ∃ j, j < k ∧ it d s j = i := by
  simp only [mk, List.any_eq_true, List.mem_range, beq_iff_eq] at h
  exact h
theorem mk_false {d : RD} {s : Int} {k i : Nat} (h : mk d s k i = false) : ∀ j, j < k → it d s j ≠ i := fun j hj e => by
  have : mk d s k i = true := by
    simp only [mk, List.any_eq_true, List.mem_range, beq_iff_eq]
    exact ⟨j, hj, e⟩
  rw [h] at this; cases this

/-- how many of the first m meet p -/
def cnt (p : Nat → Bool) : Nat → Nat
  | 0 => 0
  | m + 1 => cnt p m + (if p m then 1 else 0)
theorem cnt_congr {p q : Nat → Bool} : ∀ (m : Nat), (∀ i, i < m → p i = q i) → cnt p m = cnt q m
  | 0, _ => rfl
  | m + 1, h => by simp only [cnt]; rw [cnt_congr m (fun i hi => h i (by omega)), h m (by omega)]
theorem cnt_le {p q : Nat → Bool} : ∀ (m : Nat), (∀ i, i < m → p i = true → q i = true) → cnt p m ≤ cnt q m
  | 0, _ => Nat.le_refl _
  | m + 1, h => by
    have ih := cnt_le m (fun i hi => h i (by omega))
    have hm := h m (by omega)
    simp only [cnt]
    cases hp : p m
    · simp; omega
    · simp [hm hp]; omega
theorem cnt_lt {p q : Nat → Bool} : ∀ (m j : Nat), (∀ i, i < m → p i = true → q i = true) → j < m → p j = false → q j = true → cnt p m < cnt q m
  | 0, _, _, hj, _, _ => absurd hj (Nat.not_lt_zero _)
  | m + 1, j, h, hj, hp, hq => by
    simp only [cnt]
    by_cases e : j = m
    · subst e
      have := cnt_le j (fun i hi => h i (by omega))
      rw [hp, hq]; simp; omega
    · have ih := cnt_lt m j (fun i hi => h i (by omega)) (by omega) hp hq
      have hm := h m (by omega)
      cases hpm : p m
      · simp; omega
      · simp [hm hpm]; omega

/-- is this cell not marked? -/
def unm (Bm : Nat) (W : World) (i : Nat) : Bool := match W.cell? ⟨Bm, i, none⟩ with | some (.bool true) => false | _ => true
theorem unm_row {Bm m : Nat} {W : World} {f : Nat → Bool} (h : W.rowIs Bm 4 m (fun i => .bool (f i))) : ∀ i, i < m → unm Bm W i = !f i := fun i hi => by
  unfold unm
  rw [h.cell hi]
  cases f i <;> rfl

set_option maxRecDepth 100000 in
set_option maxHeartbeats 2000000 in
/-- the iterator: it goes along the Nexts and hands each signal on once -/
theorem onward1_gen (n : Nat) (l rb sb Bc : Nat) (a1 a2 a3 a4 : Option Addr) (c1 c2 c3 c4 : Nat) (d : RD) (s : Int) (w W : World) (J : List Int → World → Prop) (R X : World → Prop) (hR : Right d) (g1 : 0 ≤ s) (g2 : s < d.nN)
    (hnx : SlAt w a1 d.nN (fun k => .int .i64 (d.nx k))) (hJa : ∀ pre W o, J pre W → J pre (W.alloc o)) (hJs : ∀ pre W (b m : Nat) (g : Nat → Value) (k : Nat) (v' : Value), J pre W → W.rowIs b 4 m g → w.heap.size ≤ b → J pre (W.setCell ⟨b, k, none⟩ v')) (hJb : ∀ pre W, J pre W → Below w.heap.size w W)
    (hRa : ∀ W o, R W → R (W.alloc o)) (hRs : ∀ W p v, R W → R (W.setCell p v))
    (hY : ∀ k W, J (chL d s k) W → R W → Going d s (k + 1) → YieldAt Fence.wide (n - 1) Try.prog l #[.int .i64 (it d s k)] W fun e W' => (e = .returned (.bool true) ∧ J (chL d s (k + 1)) W' ∧ R W' ∧ Kept w.heap.size Bc W W') ∨ (e = .returned (.bool false) ∧ X W'))
    (hrb : Blk W rb #[.slice a1 d.nN c1, .slice a2 d.nF c2, .slice a3 d.nO c3, .slice a4 d.nW c4] 27) (hsb : W.cell? ⟨sb, 0, none⟩ = some (.int .i64 s)) (hbc : rb ≠ Bc) (h0 : J [] W) (hR0 : R W) (hBW : Bc < W.heap.size) :
    CallsIn Fence.wide n Try.prog 88 #[.func (.yield l) #[] #[], .pointer (some ⟨rb, 0, none⟩), .pointer (some ⟨sb, 0, none⟩)] W fun e W' =>
      (∃ v, e = .returned v) ∧ ((∃ m, IsLen d s m ∧ J (chL d s m) W' ∧ R W') ∨ X W') := by
  have h60 := hR.s.nN
  have HR : Hid (Right d) := hR
  have hmk := run_make_row' (P := Try.prog) 24 4 (.bool false) 1 Try.uBools Try.iBool rfl .i64 .i64 d.nN (by omega) (by omega)
  have hcb := hrb.cell 0
  simp at hcb
  have hm0 := World.rowIs_made W (.bool false) d.nN 4
  have hwW : w.heap.size ≤ W.heap.size := (hJb _ _ h0).size
  have hrbW := hrb.lt
  have hsbW : sb < W.heap.size := block_lt_of_cell hsb
  have HJ0 : Hid (J (chL d s 0) (W.alloc (.cells (madeCells #[.bool false] d.nN) 4)) ∧ R (W.alloc (.cells (madeCells #[.bool false] d.nN) 4))) := ⟨hJa _ _ _ h0, hRa _ _ hR0⟩
  have HY : Hid (∀ k W, J (chL d s k) W → R W → Going d s (k + 1) → YieldAt Fence.wide (n - 1) Try.prog l #[.int .i64 (it d s k)] W fun e W' => (e = .returned (.bool true) ∧ J (chL d s (k + 1)) W' ∧ R W' ∧ Kept w.heap.size Bc W W') ∨ (e = .returned (.bool false) ∧ X W')) := hY
  have HJs : Hid (∀ pre W (b m : Nat) (g : Nat → Value) (k : Nat) (v' : Value), J pre W → W.rowIs b 4 m g → w.heap.size ≤ b → J pre (W.setCell ⟨b, k, none⟩ v')) := hJs
  have HJb : Hid (∀ pre W, J pre W → Below w.heap.size w W) := hJb
  have HRs : Hid (∀ W p v, R W → R (W.setCell p v)) := hRs
  have HM0 : Hid ((W.alloc (.cells (madeCells #[.bool false] d.nN) 4)).rowIs W.heap.size 4 d.nN (fun i => .bool (mk d s 0 i))) := hm0.congr (fun i _ => by simp [mk])
  have HRB : Hid (Blk (W.alloc (.cells (madeCells #[.bool false] d.nN) 4)) rb #[.slice a1 d.nN c1, .slice a2 d.nF c2, .slice a3 d.nO c3, .slice a4 d.nW c4] 27) := hrb.alloc _
  clear hY hRs hRa hJa hJs hJb hR h0 hR0 hm0 hrb
  refine callsIn_of_wp Try.func88 rfl trivial ?_ rfl
  simp only [Try.ntmps88, List.size_toArray, List.length_cons, List.length_nil, Nat.reduceAdd, Nat.reduceSub, Array.replicate_succ, Array.replicate_zero, List.push_toArray, List.append_toArray, List.nil_append, List.cons_append]
  gi_wp2
  gi_loopw [5] (fun i wr => ∃ k : Nat, i = .int .i64 (it d s k) ∧ Going d s k ∧ -1 ≤ it d s k ∧ it d s k < d.nN ∧ wr.rowIs W.heap.size 4 d.nN (fun i => .bool (mk d s k i)) ∧
      Blk wr rb #[.slice a1 d.nN c1, .slice a2 d.nF c2, .slice a3 d.nO c3, .slice a4 d.nW c4] 27 ∧ J (chL d s k) wr ∧ R wr) (fun _ wr => cnt (unm W.heap.size wr) d.nN)
  case atStart => exact ⟨0, rfl, ⟨fun j hj => absurd hj (Nat.not_lt_zero _), fun j hj => absurd hj (Nat.not_lt_zero _), fun i j _ hj => absurd hj (Nat.not_lt_zero _)⟩, by show -1 ≤ s; omega, g2, HM0.out, HRB.out, HJ0.out.1, HJ0.out.2⟩
  case round =>
    obtain ⟨k, rfl, hgo, q1, q2, hrow, hrb, hJ, hRw⟩ := hrel
    have HG : Hid (Going d s k) := hgo
    clear HM0 HRB HJ0 hcb hsb hgo
    by_cases hneg : it d s k = -1
    · have z : (it d s k != -1) = false := by rw [bne_eq_false_iff_eq]; exact hneg
      have hL : Hid (IsLen d s k) := ⟨HG.out, Or.inl hneg⟩
      clear hneg hrow hrb hnx
      gi_wp2
      go_end0
      exact ⟨⟨_, rfl⟩, Or.inl ⟨k, hL.out, hJ, hRw⟩⟩
    · have z : (it d s k != -1) = true := by rw [bne_iff_ne]; exact hneg
      have q3 : 0 ≤ it d s k := by omega
      have hnn : (it d s k).toNat < d.nN := by omega
      have hcell := hrow.cell hnn
      have hfz := hrow.frozen (it d s k).toNat
      clear hneg
      cases hmk2 : mk d s k (it d s k).toNat with
      | true =>
        rw [hmk2] at hcell
        have hL : Hid (IsLen d s k) := ⟨HG.out, Or.inr (by obtain ⟨j, hj, e⟩ := mk_true hmk2; exact ⟨j, hj, by omega⟩)⟩
        clear hmk2 hrow hrb hnx
        gi_wp2
        go_end0
        exact ⟨⟨_, rfl⟩, Or.inl ⟨k, hL.out, hJ, hRw⟩⟩
      | false =>
        rw [hmk2] at hcell
        have hne := mk_false hmk2
        have HG' : Hid (Going d s (k + 1)) := HG.out.succ q3 q2 (fun j hj e => hne j hj (by omega))
        have hkle := HG'.out.le
        have hJ1 := HJs.out _ _ _ _ _ (it d s k).toNat (.bool true) hJ hrow hwW
        have hR1 := HRs.out _ ⟨W.heap.size, (it d s k).toNat, none⟩ (.bool true) hRw
        have hrow1 := (hrow.set (it d s k).toNat (.bool true)).congr (g := fun i => .bool (mk d s (k + 1) i)) (fun i hi => by
          by_cases e : i = (it d s k).toNat
          · rw [if_pos e, mk_succ, show (it d s k == (i : Int)) = true by rw [beq_iff_eq]; omega]; simp
          · rw [if_neg e, mk_succ, show (it d s k == (i : Int)) = false by rw [beq_eq_false_iff_ne]; omega]; simp)
        have hrb1 := hrb.other (a := ⟨W.heap.size, (it d s k).toNat, none⟩) (by show rb ≠ W.heap.size; omega) (.bool true)
        have HC : Hid (cnt (unm W.heap.size wr) d.nN = cnt (fun i => !mk d s k i) d.nN) := cnt_congr _ (unm_row hrow)
        have hway := (HR.out.w (it d s k).toNat hnn).1
        obtain ⟨fn, tmps, assign, body, hy, hRd⟩ := HY.out k _ hJ1 hR1 HG'.out
        have HH : Hid (mk d s k (it d s k).toNat = false) := hmk2
        clear hne hmk2 hrow hrb hJ hRw hJ1 hR1
        gi_wp2
        refine ⟨fun h => (by cases h), hRd.mono ?_⟩
        rintro e W3 (⟨rfl, hJ3, hR3, hk3⟩ | ⟨rfl, hX⟩)
        case inr =>
          clear hRd hy hrow1 hrb1 hnx hcell hfz
          gi_wp2
          refine bodyPost_ret (results_none rfl _ _ _) rfl ?_
          exact ⟨⟨_, rfl⟩, Or.inr hX⟩
        have hrow3 := hk3.row hrow1 (by omega) (by decide)
        have hrb3 := hk3.blk hrb1 hbc (by decide)
        have hcb := hrb3.cell 0
        simp at hcb
        obtain ⟨b, o, rfl, hc⟩ := (hnx.keep (HJb.out _ _ hJ3)) (it d s k).toNat hnn
        have HM : Hid (cnt (unm W.heap.size W3) d.nN < cnt (fun i => !mk d s k i) d.nN) := by
          show _ < _
          rw [cnt_congr _ (unm_row hrow3)]
          refine cnt_lt _ (it d s k).toNat (fun i _ hi => ?_) hnn ?_ ?_
          · rw [mk_succ] at hi; simp at hi ⊢; exact hi.1
          · rw [mk_succ, show (it d s k == ((it d s k).toNat : Int)) = true by rw [beq_iff_eq]; omega]; simp
          · simp [HH.out]
        have HJ3 : Hid (J (chL d s (k + 1)) W3) := hJ3
        have HRow : Hid (W3.rowIs W.heap.size 4 d.nN (fun i => .bool (mk d s (k + 1) i))) := hrow3
        clear hRd hy hrow1 hrb1 hk3 hnx hcell hfz hJ3 hrow3
        gi_wp2
        go_roundw
        case rel => exact ⟨k + 1, rfl, HG'.out, hway.1, hway.2, HRow.out, hrb3, HJ3.out, hR3⟩
        case measure => rw [HC.out]; exact HM.out

set_option maxHeartbeats 2000000 in
/-- what is ranged over: both arguments are boxed; the function value captures the boxes -/
theorem onward_in (n : Nat) (v0 v1 v2 v3 : Value) (s : Int) (w : World) :
    CallsIn Fence.wide n Try.prog 57 #[.agg #[v0, v1, v2, v3], .int .i64 s] w fun e w' =>
      e = .returned (.func (.func 88) #[] #[.pointer (some ⟨w.heap.size, 0, none⟩), .pointer (some ⟨w.heap.size + 1, 0, none⟩)]) ∧ w' = (w.alloc (.cells #[v0, v1, v2, v3] 27)).alloc (.cells #[.int .i64 s] 3) := by
  refine callsIn_of_wp Try.func57 rfl trivial ?_ rfl
  simp only [Try.ntmps57, List.size_toArray, List.length_cons, List.length_nil, Nat.reduceAdd, Nat.reduceSub, Array.replicate_succ, Array.replicate_zero, List.push_toArray, List.append_toArray, List.nil_append, List.cons_append]
  gi_wp2
  go_ret
  exact ⟨rfl, rfl⟩

end Go.Proofs.Ytachkoledebanaa
