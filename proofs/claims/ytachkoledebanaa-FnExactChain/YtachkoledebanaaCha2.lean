/-
  Chain: the program's: an iterator that is ranged over.
-/
import Derived.Test.YtachkoledebanaaOnw
import Derived.Test.YtachkoledebanaaHas
import Derived.Test.YtachkoledebanaaCha
import Derived.RangeFuncBound
namespace Go.Proofs.Ytachkoledebanaa
open Go.RowKit Go.Shelf

attribute [local go_sem] Oper.semAt_some

/-- behind 'out = append(out, v)' -/
theorem Kept.appended {n0 Bc : Nat} {W w1 : World} {v v' : Value} {m : Nat} {xs : List Value} {tmp : Obj} (hrow : W.ownsRow n0 3 1 v m xs) (hg : (W.alloc tmp).grownBy w1 v.ownBlock) : Kept n0 Bc W (w1.setCell ⟨Bc, 0, none⟩ v') := by
  refine ⟨?_, fun k c t f h1 h2 h3 => ?_⟩
  · have := hg.size
    simp at this ⊢
    omega
  · have hk : k < W.heap.size := (Array.getElem?_eq_some_iff.1 h1).1
    refine (Below.heap_setCell w1 ⟨Bc, 0, none⟩ v' k h2).trans ((hg.block k (by simp; omega) (fun e => ?_)).trans ((Below.heap_alloc W tmp k hk).trans h1))
    rcases hrow.2 with ⟨rfl, _⟩ | ⟨g, cap, cur, rfl, hge, hgb, _⟩
    · simp [Value.ownBlock] at e
    · obtain rfl : k = g := by simpa [Value.ownBlock] using e
      rw [hgb] at h1
      cases h1
      rcases h3 with h3 | h3
      · omega
      · exact h3 rfl

/-- the loop's own state: the box holds what has come -/
def ColI (w : World) (Bc : Nat) (pre : List Int) (W : World) : Prop :=
  (∃ v, Boxed W Bc 23 v ∧ W.ownsRow w.heap.size 3 1 v pre.length (pre.map (Value.int .i64))) ∧ Below w.heap.size w W ∧ w.heap.size ≤ Bc

theorem ColI.alloc {w : World} {Bc : Nat} {pre : List Int} {W : World} (h : ColI w Bc pre W) (o : Obj) : ColI w Bc pre (W.alloc o) := by
  obtain ⟨⟨v, h1, h2⟩, h3, h4⟩ := h
  exact ⟨⟨v, h1.alloc o, h2.alloc o⟩, h3.alloc (by have := h1.lt; omega) o, h4⟩
theorem ColI.putObj {w : World} {Bc : Nat} {pre : List Int} {W : World} (h : ColI w Bc pre W) {r : Nat} {o : Obj} (o' : Obj) (hr : w.heap.size ≤ r) (hl : W.heap[r]? = some o) (hc : o.isCells = false) : ColI w Bc pre (W.putObj r o') := by
  obtain ⟨⟨v, h1, h2⟩, h3, h4⟩ := h
  have hne : Bc ≠ r := fun e => by subst e; rw [show W.heap[Bc]? = _ from h1] at hl; cases hl; cases hc
  exact ⟨⟨v, h1.kept (grownBy_putObj' W r o') (by simpa using hne), ownsRow_putObj h2 o' hl hc⟩, h3.grown (grownBy_putObj' W r o') (by have := h1.lt; omega) (fun k e => by cases e; exact hr), h4⟩
/-- a store of the iterator's into its own bools -/
theorem ColI.store {w : World} {Bc : Nat} {pre : List Int} {W : World} (h : ColI w Bc pre W) {b m : Nat} {g : Nat → Value} (hr : W.rowIs b 4 m g) (hb : w.heap.size ≤ b) (k : Nat) (v' : Value) : ColI w Bc pre (W.setCell ⟨b, k, none⟩ v') := by
  obtain ⟨⟨v, h1, h2⟩, h3, h4⟩ := h
  obtain ⟨c, hc, _⟩ := hr
  have hne : Bc ≠ b := fun e => by subst e; rw [show W.heap[Bc]? = _ from h1] at hc; cases hc
  refine ⟨⟨v, (Below.heap_setCell W ⟨b, k, none⟩ v' Bc hne).trans h1, ownsRow_setCell_other h2 (fun e => ?_) _⟩, h3.setCell hb _, h4⟩
  rcases h2.2 with ⟨rfl, _⟩ | ⟨g', cap, cur, rfl, _, hgb, _⟩
  · simp [Value.ownBlock] at e
  · obtain rfl : g' = b := by simpa [Value.ownBlock] using e
    rw [hgb] at hc; cases hc

set_option maxHeartbeats 2000000 in
theorem implChain_any (a1 a2 a3 a4 : Option Addr) (c1 c2 c3 c4 : Nat) (A : Nat → Option Addr) (C : Nat → Nat) (d : RD) (s : Int) (w : World) (hs : Small d) (h : RowAt w a1 a2 a3 a4 A C d) :
    Calls Try.prog 47 #[.agg #[.slice a1 d.nN c1, .slice a2 d.nF c2, .slice a3 d.nO c3, .slice a4 d.nW c4], .int .i64 s] w fun e w' =>
      (∃ xs, IsChain d s xs ∧ RetInts e w.heap.size w' xs) ∧ Below w.heap.size w w' := by
  obtain ⟨i0, hi, hz0, hz1, hz2⟩ := info_parts Try.iInt
  have bel : Below w.heap.size w (w.alloc (.cells #[.slice a1 d.nN c1, .slice a2 d.nF c2, .slice a3 d.nO c3, .slice a4 d.nW c4] 27)) := (Below.refl _ _).alloc (Nat.le_refl _) _
  have hk := h.keep bel
  have hbk := Blk.new w #[.slice a1 d.nN c1, .slice a2 d.nF c2, .slice a3 d.nO c3, .slice a4 d.nW c4] 27
  refine (callsIn_wide (n := 5)).1 ?_
  refine callsIn_of_wp_marks Try.func47 rfl trivial ?_ rfl
  simp only [Try.ntmps47, List.size_toArray, List.length_cons, List.length_nil, Nat.reduceAdd, Nat.reduceSub, Array.replicate_succ, Array.replicate_zero, List.push_toArray, List.append_toArray, List.nil_append, List.cons_append]
  gi_wp2_with fail
  generalize (w.alloc (.cells #[.slice a1 d.nN c1, .slice a2 d.nF c2, .slice a3 d.nO c3, .slice a4 d.nW c4] 27)) = W at *
  refine ⟨trivial, (callsIn_wide.2 (hasSignal_any a1 a2 a3 a4 c1 c2 c3 c4 A C d s W hs hk)).mono ?_⟩
  rintro e w1 ⟨⟨bb, rfl, hsay⟩, hb1⟩
  have bel1 : Below w.heap.size w w1 := chain bel hb1
  cases bb with
  | false =>
    have HB : Hid (IsChain d s []) := Or.inr ⟨(fun u => by have := hsay.2 u; cases this), rfl⟩
    clear hk hbk hb1 hsay hs h
    gi_wp2
    exact ⟨_, results_tmp rfl _ _ _, ⟨[], HB.out, .nil rfl⟩, bel1⟩
  | true =>
  have hR := hsay.1 rfl
  have HR : Hid (Right d ∧ 0 ≤ s ∧ s < d.nN) := hR
  have h60 := hR.1.s.nN
  obtain ⟨-, g1, g2⟩ := hR
  have hbr := hbk.keep hb1
  have b0 := hbr.cell 0
  have b1 := hbr.cell 1
  have b2 := hbr.cell 2
  have b3 := hbr.cell 3
  simp at b0 b1 b2 b3
  have hbs : w.heap.size < w1.heap.size := hbr.lt
  have hnx := h.nx
  clear hbk hk hb1 bel hbr hsay h
  gi_wp2_with fail
  refine ⟨trivial, (onward_in _ _ _ _ _ _ _).mono ?_⟩
  rintro e w2 ⟨rfl, hw2⟩
  have bO := Boxed.new w1 23 (.slice none 0 0)
  have hrb := (Blk.new (w1.alloc (.cells #[.slice none 0 0] 23)) #[.slice a1 d.nN c1, .slice a2 d.nF c2, .slice a3 d.nO c3, .slice a4 d.nW c4] 27).alloc (.cells #[.int .i64 s] 3)
  have hsb := (Blk.new ((w1.alloc (.cells #[.slice none 0 0] 23)).alloc (.cells #[.slice a1 d.nN c1, .slice a2 d.nF c2, .slice a3 d.nO c3, .slice a4 d.nW c4] 27)) #[.int .i64 s] 3).cell 0
  have hB2 : Below w1.heap.size w1 w2 := by rw [hw2]; exact (((Below.refl _ _).alloc (Nat.le_refl _) _).alloc (by simp) _).alloc (by simp; omega) _
  have bO2 : Boxed w2 w1.heap.size 23 (.slice none 0 0) := by rw [hw2]; exact (bO.alloc _).alloc _
  rw [← hw2] at hrb
  have hw2z : w2.heap.size = w1.heap.size + 3 := by rw [hw2]; simp
  simp only [World.size_alloc] at hrb hsb
  have hsb2 : w2.cell? ⟨w1.heap.size + 1 + 1, 0, none⟩ = some (.int .i64 s) := by rw [hw2]; simpa using hsb
  have h0 : ColI w w1.heap.size [] w2 := ⟨⟨_, bO2, World.ownsRow_nil _ _ _ _⟩, chain bel1 hB2, bel1.size⟩
  clear hw2 hsb bO b0 b1 b2 b3
  have hw1 := bel1.size
  gi_wp2_with fail
  refine range_all (encs := fun x : Int => #[.int .i64 x]) (Kp := Kept w.heap.size w1.heap.size) rfl (by omega) (gf := 88) (lb := #[.pointer (some ⟨w1.heap.size + 1, 0, none⟩), .pointer (some ⟨w1.heap.size + 1 + 1, 0, none⟩)]) rfl trivial (enters_of Try.func88 (by kernel_rfl) rfl)
    (fun _ => rfl) Kept.trans (fun W r o o' _ hl hc => Kept.putObj _ _ W r o o' hl hc) (ColI w w1.heap.size) (fun _ _ o hI => hI.alloc o) (fun _ _ r o o' hI hr hl hc => hI.putObj o' (by omega) hl hc) h0
    (fun x => { tmps := #[.agg #[Value.slice a1 d.nN c1, Value.slice a2 d.nF c2, Value.slice a3 d.nO c3, Value.slice a4 d.nW c4], .int .i64 s, .pointer (some ⟨w.heap.size, 0, none⟩), undef, .slice none 0 0, .pointer (some ⟨w1.heap.size, 0, none⟩), .int .i64 x, .agg #[Value.slice a1 d.nN c1, Value.slice a2 d.nF c2, Value.slice a3 d.nO c3, Value.slice a4 d.nW c4], .int .i64 s, .bool true, .bool false, .agg #[Value.slice a1 d.nN c1, Value.slice a2 d.nF c2, Value.slice a3 d.nO c3, Value.slice a4 d.nW c4], .int .i64 s,
      .func (.func 88) #[] #[.pointer (some ⟨w1.heap.size + 1, 0, none⟩), .pointer (some ⟨w1.heap.size + 1 + 1, 0, none⟩)], .int .i64 x, undef, undef, undef, undef, undef], defers := [] }) (IsChain d s) 60 ?assign ?body ?iter ?done
  case assign =>
    intro l x W K hK
    gi_wp2
    exact hK
  case body =>
    rintro l pre x W ⟨⟨v, hv, hrow⟩, hB, hle⟩ hlt
    have hc := hv.cell
    have hBz := hB.size
    gi_wp2_with (gi_at_builtin; refine wpListIn_append_own _ rfl _ _ 23 rfl w.heap.size 3 i0 (.int .i64 0) 1 8 Try.uInts hi hz0 hz1 hz2 rfl (by decide) _ _ _ rfl (hrow.alloc _) ⟨W.heap.size, 0, none⟩ 1 1 [.int .i64 x] rfl rfl (cell_one_new _ _ _) (by simp [Value.oneCell']) (by unfold maxLen; omega) (by omega) (by simp; omega) ?_; intro v' w3 hown' hgrow _; obtain ⟨g', cap', rfl⟩ := ownsRow_succ hown'; obtain ⟨hv1, hv2, hr2, hk2, hb2⟩ := hv.appended (by decide) hrow hBz hle hown' hgrow; have hc1 := hv1.cell; have hf1 := hv1.frozen)
    exact ⟨hk2, Kept.appended hrow hgrow, ⟨_, hv2, by simpa using hr2⟩, hB.trans hb2, hle⟩
  case iter =>
    intro l R W hRa hRs hY hBW hI hRW
    have hrbW := hrb.keep hBW
    have hsbW := (hBW.cell (p := ⟨w1.heap.size + 1 + 1, 0, none⟩) (by show w1.heap.size + 1 + 1 < w2.heap.size; omega)).trans hsb2
    refine (onward1_gen 4 l (w1.heap.size + 1) (w1.heap.size + 1 + 1) w1.heap.size a1 a2 a3 a4 c1 c2 c3 c4 d s w W (ColI w w1.heap.size) R (fun _ => False) HR.out.1 g1 g2 hnx (fun _ _ o h => h.alloc o) (fun _ _ _ _ _ k v' h hr hb => h.store hr hb k v') (fun _ _ h => h.2.1) hRa hRs
      (fun k W1 h1 h2 h3 => (hY _ (it d s k) W1 h1 h2 (by rw [chL_len]; have := h3.le; omega)).mono fun e W2 h4 => Or.inl (by rw [chL_snoc]; exact h4)) hrbW hsbW (by omega) hI hRW (by have := hBW.size; omega)).mono ?_
    rintro e W' ⟨he, ⟨m, hm, hc, hr⟩ | hF⟩
    · exact ⟨he, _, Or.inl ⟨HR.out.1, g1, g2, m, hm, rfl⟩, hc, hr⟩
    · exact hF.elim
  case done =>
    rintro D xs W hD hS hI hK
    have hP := hI.putObj (.deferred none) (by omega) hK rfl
    obtain ⟨⟨v, hv, hrow⟩, hB, hle⟩ := hI
    have HF : Hid ((∃ xs, IsChain d s xs ∧ RetInts (.returned v) w.heap.size (W.putObj D (.deferred none)) xs) ∧ Below w.heap.size w (W.putObj D (.deferred none))) :=
      ⟨⟨xs, hS, RetInts.ofOwns rfl (ownsRow_putObj hrow _ hK rfl)⟩, hP.2.1⟩
    have hc := hv.cell
    clear hP hrow hB hnx
    gi_wp2
    refine ⟨by simp, .inl ⟨_, _, rfl, run_takeDeferred hK, ?_⟩⟩
    exact ⟨_, results_tmp (t := 4) rfl _ _ _, HF.out⟩

end Go.Proofs.Ytachkoledebanaa
