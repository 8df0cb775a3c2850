/-
  Stop: the program's: a loop over an iterator, left by a return.
-/
import Derived.Test.YtachkoledebanabRm3
import Derived.Test.YtachkoledebanabOnw
import Derived.Test.YtachkoledebanabRngS
import Derived.RangeFuncBound
import Derived.RangeFuncNested
namespace Go.Proofs.Ytachkoledebanab
open Go.RowKit Go.Shelf

attribute [local go_sem] Oper.semAt_some

/-- how far it is behind k steps -/
def wy (d : RD) (s : Int) : Nat → Int
  | 0 => 0
  | k + 1 => wy d s k + d.fr (it d s k).toNat
theorem it_in {d : RD} {s : Int} {k : Nat} (h : Going d s (k + 1)) : 0 ≤ it d s k ∧ it d s k < d.nN := ⟨h.lo k (by omega), h.hi k (by omega)⟩
theorem wy_bd {d : RD} (hR : Right d) {s : Int} : ∀ k, Going d s k → 0 ≤ wy d s k ∧ wy d s k ≤ 1000000 * (k : Int)
  | 0, _ => by simp [wy]
  | k + 1, h => by
    have ih := wy_bd hR k ⟨fun j hj => h.lo j (by omega), fun j hj => h.hi j (by omega), fun i j a b => h.ne i j a (by omega)⟩
    have h1 := it_in h
    have h2 := (hR.w (it d s k).toNat (by omega)).2
    unfold wy
    omega

/-- the first k go on -/
def On (d : RD) (sh : Nat → Int) (s : Int) (k : Nat) : Prop := ∀ j, j < k → 0 < sh (it d s j).toNat ∧ d.nx (it d s j).toNat ≠ -1
theorem On.succ {d : RD} {sh : Nat → Int} {s : Int} {k : Nat} (h : On d sh s k) (h1 : 0 < sh (it d s k).toNat) (h2 : d.nx (it d s k).toNat ≠ -1) : On d sh s (k + 1) := fun j hj => by
  by_cases e : j = k
  · subst e; exact ⟨h1, h2⟩
  · exact h j (by omega)

theorem stp_on {d : RD} {sh : Nat → Int} {s : Int} (hlo : ∀ j, j < d.nN → -1 ≤ d.nx j) : ∀ (k m : Nat), Going d s k → On d sh s k → stp d sh (m + k) s.toNat 0 = stp d sh m (it d s k).toNat (wy d s k)
  | 0, m, _, _ => rfl
  | k + 1, m, hg, ho => by
    have ih := stp_on hlo k (m + 1) ⟨fun j hj => hg.lo j (by omega), fun j hj => hg.hi j (by omega), fun i j a b => hg.ne i j a (by omega)⟩ (fun j hj => ho j (by omega))
    have h1 := ho k (by omega)
    have h2 := it_in hg
    have h3 := hlo (it d s k).toNat (by omega)
    rw [show m + (k + 1) = m + 1 + k by omega, ih]
    show (if sh (it d s k).toNat ≤ 0 then _ else if d.nx (it d s k).toNat < 0 then _ else stp d sh m (d.nx (it d s k).toNat).toNat (wy d s k + d.fr (it d s k).toNat)) = _
    rw [if_neg (by omega), if_neg (by omega)]
    rfl

/-- in a ring: the same signals come again -/
theorem it_ring {d : RD} {s : Int} {m j : Nat} (hj : j < m) (he : it d s m = it d s j) : ∀ k, ∃ i, i < m ∧ it d s k = it d s i
  | 0 => ⟨0, by omega, rfl⟩
  | k + 1 => by
    obtain ⟨i, hi, e⟩ := it_ring hj he k
    have e1 : it d s (k + 1) = it d s (i + 1) := by show d.nx _ = d.nx _; rw [e]
    by_cases h : i + 1 < m
    · exact ⟨i + 1, h, e1⟩
    · obtain rfl : m = i + 1 := by omega
      exact ⟨j, hj, e1.trans he⟩
theorem stp_ring {d : RD} {sh : Nat → Int} {s : Int} (h : ∀ k, 0 < sh (it d s k).toNat ∧ 0 ≤ d.nx (it d s k).toNat) : ∀ (g k : Nat) (f : Int), stp d sh g (it d s k).toNat f = -2
  | 0, _, _ => rfl
  | g + 1, k, f => by
    have h1 := h k
    show (if sh (it d s k).toNat ≤ 0 then _ else if d.nx (it d s k).toNat < 0 then _ else stp d sh g (d.nx (it d s k).toNat).toNat (f + d.fr (it d s k).toNat)) = _
    rw [if_neg (by omega), if_neg (by omega)]
    exact stp_ring h g (k + 1) _
theorem stp_never {d : RD} {sh : Nat → Int} {s : Int} {m : Nat} (hlo : ∀ j, j < d.nN → -1 ≤ d.nx j) (hs : 0 ≤ s) (hl : IsLen d s m) (ho : On d sh s m) (g : Nat) : stp d sh g s.toNat 0 = -2 := by
  have hring : ∃ j, j < m ∧ it d s m = it d s j := by
    rcases hl.ends with e | e
    · cases m with
      | zero => have : s = -1 := e; omega
      | succ m => exact absurd e (ho m (by omega)).2
    · exact e
  obtain ⟨j, hj, he⟩ := hring
  exact stp_ring (fun k => by
    obtain ⟨i, hi, e⟩ := it_ring hj he k
    have h1 := ho i hi
    have h2 := hlo (it d s i).toNat (by have := hl.go.lo i hi; have := hl.go.hi i hi; omega)
    rw [e]
    exact ⟨h1.1, by omega⟩) g 0 0

/-- the loop's own state -/
structure StJ (w : World) (d : RD) (sh : Nat → Int) (s : Int) (Bs Bw : Nat) (sv : Value) (pre : List Int) (W : World) : Prop where
  ch : pre = chL d s pre.length
  on : On d sh s pre.length
  bs : Boxed W Bs 22 sv
  bw : Boxed W Bw 3 (.int .i64 (wy d s pre.length))
  bel : Below w.heap.size w W
theorem box_putObj {W : World} {B r : Nat} {t : TypeId} {v : Value} {o : Obj} (h : Boxed W B t v) (o' : Obj) (hl : W.heap[r]? = some o) (hc : o.isCells = false) : Boxed (W.putObj r o') B t v := by
  have hne : B ≠ r := fun e => by subst e; rw [show W.heap[B]? = _ from h] at hl; cases hl; cases hc
  exact h.kept (grownBy_putObj' W r o') (by simpa using hne)
theorem below_putObj {B : Nat} {w W : World} {r : Nat} {o : Obj} (h : Below B w W) (hB : B ≤ r) (o' : Obj) (hl : W.heap[r]? = some o) : Below B w (W.putObj r o') :=
  h.grown (grownBy_putObj' W r o') (by have := (Array.getElem?_eq_some_iff.1 hl).1; omega) (fun k e => by cases e; exact hB)
theorem StJ.alloc {w : World} {d : RD} {sh : Nat → Int} {s : Int} {Bs Bw : Nat} {sv : Value} {pre : List Int} {W : World} (h : StJ w d sh s Bs Bw sv pre W) (o : Obj) : StJ w d sh s Bs Bw sv pre (W.alloc o) :=
  ⟨h.ch, h.on, h.bs.alloc o, h.bw.alloc o, h.bel.alloc h.bel.size o⟩
theorem StJ.putObj {w : World} {d : RD} {sh : Nat → Int} {s : Int} {Bs Bw : Nat} {sv : Value} {pre : List Int} {W : World} (h : StJ w d sh s Bs Bw sv pre W) {r : Nat} {o : Obj} (o' : Obj) (hr : w.heap.size ≤ r) (hl : W.heap[r]? = some o) (hc : o.isCells = false) : StJ w d sh s Bs Bw sv pre (W.putObj r o') :=
  ⟨h.ch, h.on, box_putObj h.bs o' hl hc, box_putObj h.bw o' hl hc, below_putObj h.bel hr o' hl⟩
theorem StJ.store {w : World} {d : RD} {sh : Nat → Int} {s : Int} {Bs Bw : Nat} {sv : Value} {pre : List Int} {W : World} (h : StJ w d sh s Bs Bw sv pre W) {b m : Nat} {g : Nat → Value} (hr : W.rowIs b 4 m g) (hb : w.heap.size ≤ b) (k : Nat) (v' : Value) : StJ w d sh s Bs Bw sv pre (W.setCell ⟨b, k, none⟩ v') := by
  obtain ⟨c, hc, _⟩ := hr
  have n1 : Bs ≠ b := fun e => by subst e; rw [show W.heap[Bs]? = _ from h.bs] at hc; cases hc
  have n2 : Bw ≠ b := fun e => by subst e; rw [show W.heap[Bw]? = _ from h.bw] at hc; cases hc
  exact ⟨h.ch, h.on, (Below.heap_setCell W ⟨b, k, none⟩ v' Bs n1).trans h.bs, (Below.heap_setCell W ⟨b, k, none⟩ v' Bw n2).trans h.bw, h.bel.setCell hb _⟩
theorem Kept.box (n0 Bc : Nat) (W : World) (v : Value) : Kept n0 Bc W (W.setCell ⟨Bc, 0, none⟩ v) :=
  ⟨by simp, fun k c t f h1 h2 _ => (Below.heap_setCell W ⟨Bc, 0, none⟩ v k h2).trans h1⟩

theorem box_drew {W : World} {B : Nat} {t : TypeId} {v : Value} (h : Boxed W B t v) : Boxed W.drew B t v := h
theorem Kept.drew {n0 Bc : Nat} {W W' : World} (h : Kept n0 Bc W W') : Kept n0 Bc W W'.drew := ⟨h.size, h.same⟩

set_option maxHeartbeats 4000000 in
theorem implStop_any (a1 a2 a3 a4 : Option Addr) (c1 c2 c3 c4 : Nat) (A : Nat → Option Addr) (C : Nat → Nat) (d : RD) (s : Int) (w : World) (hs : Small d) (h : RowAt w a1 a2 a3 a4 A C d) :
    Calls Try.prog 22 #[.agg #[.slice a1 d.nN c1, .slice a2 d.nF c2, .slice a3 d.nO c3, .slice a4 d.nW c4], .int .i64 s] w fun e w' =>
      (∃ r, IsStop d s r ∧ e = .returned (.int .i64 r)) ∧ Below w.heap.size w w' := by
  have bel : Below w.heap.size w ((w.alloc (.cells #[.slice a1 d.nN c1, .slice a2 d.nF c2, .slice a3 d.nO c3, .slice a4 d.nW c4] 30)).alloc (.cells #[.int .i64 0] 3)) := ((Below.refl _ _).alloc (Nat.le_refl _) _).alloc (by simp) _
  have hk := h.keep bel
  have hbk := (Blk.new w #[.slice a1 d.nN c1, .slice a2 d.nF c2, .slice a3 d.nO c3, .slice a4 d.nW c4] 30).alloc (.cells #[.int .i64 0] 3)
  have hbo := Boxed.new (w.alloc (.cells #[.slice a1 d.nN c1, .slice a2 d.nF c2, .slice a3 d.nO c3, .slice a4 d.nW c4] 30)) 3 (.int .i64 0)
  rw [World.size_alloc] at hbo
  refine (callsIn_wide (n := 5)).1 ?_
  refine callsIn_of_wp_marks Try.func22 rfl trivial ?_ rfl
  simp only [Try.ntmps22, List.size_toArray, List.length_cons, List.length_nil, Nat.reduceAdd, Nat.reduceSub, Array.replicate_succ, Array.replicate_zero, List.push_toArray, List.append_toArray, List.nil_append, List.cons_append]
  gi_wp2_with fail
  generalize ((w.alloc (.cells #[.slice a1 d.nN c1, .slice a2 d.nF c2, .slice a3 d.nO c3, .slice a4 d.nW c4] 30)).alloc (.cells #[.int .i64 0] 3)) = W at *
  refine ⟨trivial, (callsIn_wide.2 (hasSignal_any a1 a2 a3 a4 c1 c2 c3 c4 A C d s W hs hk)).mono ?_⟩
  rintro e w1 ⟨⟨bb, rfl, hsay⟩, hb1⟩
  have bel1 : Below w.heap.size w w1 := chain bel hb1
  have hbo1 : Boxed w1 (w.heap.size + 1) 3 (.int .i64 0) := (show Blk W (w.heap.size + 1) #[.int .i64 0] 3 from hbo).keep hb1
  have hc4 := hbo1.cell
  have hf4 := hbo1.frozen
  cases bb with
  | false =>
    have HB : Hid (IsStop d s (-1)) := Or.inr ⟨(fun u => by have := hsay.2 u; cases this), rfl⟩
    have hset := (hbo1.set (.int .i64 (-1))).cell
    have hbel : Below w.heap.size w (w1.setCell ⟨w.heap.size + 1, 0, none⟩ (.int .i64 (-1))) := bel1.setCell (p := ⟨w.heap.size + 1, 0, none⟩) (by simp) _
    clear hk hbk hb1 hsay hs h
    gi_wp2
    refine ⟨.int .i64 (-1), ?_, ⟨-1, HB.out, rfl⟩, hbel⟩
    simp [results, Try.f22, go_sem, hset]
  | true =>
  have hR := hsay.1 rfl
  have HR : Hid (Right d ∧ 0 ≤ s ∧ s < d.nN) := hR
  have h60 := hR.1.s.nN
  obtain ⟨-, g1, g2⟩ := hR
  have hk1 := hk.keep hb1
  have hbr := hbk.keep hb1
  have b0 := hbr.cell 0
  have b1 := hbr.cell 1
  have b2 := hbr.cell 2
  have b3 := hbr.cell 3
  simp at b0 b1 b2 b3
  clear hbk hk hb1 bel hsay h hbo hf4 hc4
  gi_wp2_with fail
  refine ⟨trivial, (callsIn_wide.2 (shows_at a1 a2 a3 a4 c1 c2 c3 c4 A C d w1 hs HR.out.1 hk1)).mono ?_⟩
  rintro e w2 ⟨⟨wn, sh, hl, ao, cap, rfl, hsl⟩, hb2⟩
  have bel2 : Below w.heap.size w w2 := chain bel1 hb2
  have hk2 := hk1.keep hb2
  have hbr2 := hbr.keep hb2
  have hbo2 : Boxed w2 (w.heap.size + 1) 3 (.int .i64 0) := (show Blk w1 (w.heap.size + 1) #[.int .i64 0] 3 from hbo1).keep hb2
  clear b0 b1 b2 b3
  have hbr3 := (hbr2.alloc (.cells #[.slice ao d.nN cap] 22)).alloc (.cells #[.int .i64 0] 3)
  have b0 := hbr3.cell 0
  have b1 := hbr3.cell 1
  have b2 := hbr3.cell 2
  have b3 := hbr3.cell 3
  simp at b0 b1 b2 b3
  clear hk1 hbr hb2 bel1 hs hbo1
  gi_wp2_with fail
  refine ⟨trivial, (onward_in _ _ _ _ _ _ _).mono ?_⟩
  rintro e w4 ⟨rfl, hw4⟩
  have bS := (((Boxed.new w2 22 (.slice ao d.nN cap)).alloc (.cells #[.int .i64 0] 3)).alloc (.cells #[.slice a1 d.nN c1, .slice a2 d.nF c2, .slice a3 d.nO c3, .slice a4 d.nW c4] 30)).alloc (.cells #[.int .i64 s] 3)
  have bW := ((Boxed.new (w2.alloc (.cells #[.slice ao d.nN cap] 22)) 3 (.int .i64 0)).alloc (.cells #[.slice a1 d.nN c1, .slice a2 d.nF c2, .slice a3 d.nO c3, .slice a4 d.nW c4] 30)).alloc (.cells #[.int .i64 s] 3)
  have hrb := (Blk.new ((w2.alloc (.cells #[.slice ao d.nN cap] 22)).alloc (.cells #[.int .i64 0] 3)) #[.slice a1 d.nN c1, .slice a2 d.nF c2, .slice a3 d.nO c3, .slice a4 d.nW c4] 30).alloc (.cells #[.int .i64 s] 3)
  have hsb := (Blk.new (((w2.alloc (.cells #[.slice ao d.nN cap] 22)).alloc (.cells #[.int .i64 0] 3)).alloc (.cells #[.slice a1 d.nN c1, .slice a2 d.nF c2, .slice a3 d.nO c3, .slice a4 d.nW c4] 30)) #[.int .i64 s] 3).cell 0
  have hB4 : Below w2.heap.size w2 w4 := by rw [hw4]; exact ((((Below.refl _ _).alloc (Nat.le_refl _) _).alloc (by simp) _).alloc (by simp; omega) _).alloc (by simp; omega) _
  rw [← hw4] at bS bW hrb
  have hw4z : w4.heap.size = w2.heap.size + 4 := by rw [hw4]; simp
  simp only [World.size_alloc] at bW hrb hsb
  have hsb4 : w4.cell? ⟨w2.heap.size + 1 + 1 + 1, 0, none⟩ = some (.int .i64 s) := by rw [hw4]; simpa using hsb
  have h0 : StJ w2 d sh s w2.heap.size (w2.heap.size + 1) (.slice ao d.nN cap) [] w4 := ⟨rfl, fun j hj => absurd hj (Nat.not_lt_zero _), bS, bW, hB4⟩
  clear hw4 hsb b0 b1 b2 b3 hbr3 bS bW
  have hw2 := bel2.size
  have HI : Hid (∀ r, r = stp d sh (d.nN + 1) s.toNat 0 → IsStop d s r) := fun r e => Or.inl ⟨HR.out.1, g1, g2, wn, sh, hl, e⟩
  have hR8 : w.heap.size + 1 < w2.heap.size := hbo2.lt
  have HLO : Hid (∀ j, j < d.nN → -1 ≤ d.nx j) := fun j hj => (HR.out.1.w j hj).1.1
  have HF : Hid (d.nF = d.nN) := HR.out.1.s.nF
  clear hl
  gi_wp2_with fail
  refine range_some (encs := fun x : Int => #[.int .i64 x]) (Kp := Kept w2.heap.size (w2.heap.size + 1)) rfl (by omega) (gf := 62) (lb := #[.pointer (some ⟨w2.heap.size + 1 + 1, 0, none⟩), .pointer (some ⟨w2.heap.size + 1 + 1 + 1, 0, none⟩)]) rfl trivial (enters_of Try.func62 (by kernel_rfl) rfl)
    (fun _ => rfl) Kept.trans (fun W r o o' _ hl hc => Kept.putObj _ _ W r o o' hl hc) (StJ w2 d sh s w2.heap.size (w2.heap.size + 1) (.slice ao d.nN cap)) (fun _ _ o hI => hI.alloc o) (fun _ _ r o o' hI hr hl hc => hI.putObj o' (by omega) hl hc)
    (fun pre x => x = it d s pre.length ∧ Going d s (pre.length + 1)) (fun c _ W => c = .ret ∧ (∃ r, IsStop d s r ∧ Boxed W (w.heap.size + 1) 3 (.int .i64 r)) ∧ Below w.heap.size w W) ?leaves h0
    (fun x => { tmps := #[.agg #[Value.slice a1 d.nN c1, Value.slice a2 d.nF c2, Value.slice a3 d.nO c3, Value.slice a4 d.nW c4], .int .i64 s, .pointer (some ⟨w.heap.size, 0, none⟩), undef, .pointer (some ⟨w.heap.size + 1, 0, none⟩), .pointer (some ⟨w2.heap.size, 0, none⟩), .pointer (some ⟨w2.heap.size + 1, 0, none⟩), .int .i64 x, .agg #[Value.slice a1 d.nN c1, Value.slice a2 d.nF c2, Value.slice a3 d.nO c3, Value.slice a4 d.nW c4], .int .i64 s, .bool true, .bool false, .agg #[Value.slice a1 d.nN c1, Value.slice a2 d.nF c2, Value.slice a3 d.nO c3, Value.slice a4 d.nW c4], .slice ao d.nN cap, .agg #[Value.slice a1 d.nN c1, Value.slice a2 d.nF c2, Value.slice a3 d.nO c3, Value.slice a4 d.nW c4], .int .i64 s,
      .func (.func 62) #[] #[.pointer (some ⟨w2.heap.size + 1 + 1, 0, none⟩), .pointer (some ⟨w2.heap.size + 1 + 1 + 1, 0, none⟩)], .int .i64 x, undef, undef, undef, undef, undef, undef, undef, undef, undef, undef, undef, undef, undef, undef, undef, undef, undef, undef, undef, undef], defers := [] }) (fun xs => ∃ m, IsLen d s m ∧ xs = chL d s m) 60 ?assign ?body ?iter ?done ?stop
  case leaves =>
    rintro c pre W r o o' ⟨rfl, ⟨r', hi, hb⟩, hB⟩ hr hl hc
    exact ⟨rfl, ⟨r', hi, box_putObj hb o' hl hc⟩, below_putObj hB (by omega) o' hl⟩
  case assign =>
    intro l x W K hK
    gi_wp2
    exact hK
  case body =>
    rintro l pre x W hJ ⟨hx, hgo⟩ hlt
    have hin := it_in hgo
    rw [← hx] at hin
    obtain ⟨J, rfl⟩ : ∃ J : Nat, x = J := ⟨x.toNat, by omega⟩
    have hJN : J < d.nN := by omega
    have hxn : (it d s pre.length).toNat = J := by omega
    have hGk : Going d s pre.length := ⟨fun j hj => hgo.lo j (by omega), fun j hj => hgo.hi j (by omega), fun i j a b => hgo.ne i j a (by omega)⟩
    have hwb := wy_bd HR.out.1 pre.length hGk
    have hle := hgo.le
    have HST : Hid (stp d sh (d.nN + 1) s.toNat 0 = if sh J ≤ 0 then wy d s pre.length else if d.nx J < 0 then wy d s pre.length + d.fr J else stp d sh (d.nN - pre.length) (d.nx J).toNat (wy d s pre.length + d.fr J)) := by
      show _ = _
      rw [show d.nN + 1 = (d.nN - pre.length + 1) + pre.length by omega, stp_on HLO.out pre.length _ hGk hJ.on, hxn]
      rfl
    have HW1 : Hid (wy d s (pre.length + 1) = wy d s pre.length + d.fr J) := by
      show wy d s pre.length + d.fr (it d s pre.length).toNat = _
      rw [hxn]
    have HX : Hid ((it d s pre.length).toNat = J ∧ (J : Int) = it d s pre.length) := ⟨hxn, hx⟩
    obtain ⟨bo, oo, rfl, hcs⟩ := (hsl.keep hJ.bel) J hJN
    replace hcs : W.cell? ⟨bo, oo + J, none⟩ = some (.int .i64 (sh J)) := hcs
    obtain ⟨bx, ox, rfl, hcx2⟩ := hk2.nx J hJN
    replace hcx2 : w2.cell? ⟨bx, ox + J, none⟩ = some (.int .i64 (d.nx J)) := hcx2
    have hkW := hk2.keep hJ.bel
    obtain ⟨bf, of, rfl, hcf⟩ := hkW.fr J (by rw [HF.out]; exact hJN)
    have hfl : J < d.nF := by rw [HF.out]; exact hJN
    have hbW := hbr2.keep hJ.bel
    have y0 := hbW.cell 0
    have y1 := hbW.cell 1
    simp at y0 y1
    have hbR : Boxed W (w.heap.size + 1) 3 (.int .i64 0) := (show Blk w2 (w.heap.size + 1) #[.int .i64 0] 3 from hbo2).keep hJ.bel
    have hcR := hbR.cell
    have hfR := hbR.frozen
    have hcW := hJ.bw.cell
    have hfW := hJ.bw.frozen
    have hcS := hJ.bs.cell
    have belW : Below w.heap.size w W := chain bel2 hJ.bel
    have hw1 := (HR.out.1.w J hJN).1
    have hw2' := (HR.out.1.w J hJN).2
    clear hkW hx hxn
    by_cases e1 : sh J ≤ 0
    · have hfin : Boxed (W.setCell ⟨w.heap.size + 1, 0, none⟩ (.int .i64 (wy d s pre.length))) (w.heap.size + 1) 3 (.int .i64 (wy d s pre.length)) := hbR.set _
      gi_wp2
      exact ⟨KeepsOthers.setCell _ _ _, rfl, ⟨_, HI.out _ (by rw [HST.out, if_pos e1]), hfin⟩, belW.setCell (p := ⟨w.heap.size + 1, 0, none⟩) (by simp) _⟩
    have hB5 : Below w2.heap.size w2 (W.setCell ⟨w2.heap.size + 1, 0, none⟩ (.int .i64 (wy d s pre.length + d.fr J))) := hJ.bel.setCell (p := ⟨w2.heap.size + 1, 0, none⟩) (by simp) _
    have hcx5 := (hB5.cell (p := ⟨bx, ox + J, none⟩) (block_lt_of_cell hcx2)).trans hcx2
    have hb5 := hbr2.keep hB5
    have z0 := hb5.cell 0
    simp at z0
    have hbR5 : Boxed (W.setCell ⟨w2.heap.size + 1, 0, none⟩ (.int .i64 (wy d s pre.length + d.fr J))) (w.heap.size + 1) 3 (.int .i64 0) := (show Blk w2 (w.heap.size + 1) #[.int .i64 0] 3 from hbo2).keep hB5
    have hcR5 := hbR5.cell
    have hfR5 := hbR5.frozen
    have hbW5 := hJ.bw.set (.int .i64 (wy d s pre.length + d.fr J))
    have hcW5 := hbW5.cell
    have hbS5 : Boxed (W.setCell ⟨w2.heap.size + 1, 0, none⟩ (.int .i64 (wy d s pre.length + d.fr J))) w2.heap.size 22 _ := hJ.bs.other (by omega) _
    have bel5 : Below w.heap.size w (W.setCell ⟨w2.heap.size + 1, 0, none⟩ (.int .i64 (wy d s pre.length + d.fr J))) := chain bel2 hB5
    by_cases e2 : d.nx J = -1
    · have z : (d.nx J == -1) = true := by rw [beq_iff_eq]; exact e2
      have HV : Hid (wy d s pre.length + d.fr J = stp d sh (d.nN + 1) s.toNat 0) := by show _ = _; rw [HST.out, if_neg e1, if_pos (by omega)]
      clear e2
      gi_wp2
      gi_region
      all_goals
        gi_wp2
        exact ⟨((KeepsOthers.setCell _ _ _).trans (KeepsOthers.drew _)).trans (KeepsOthers.setCell _ _ _), rfl, ⟨_, HI.out _ HV.out, (box_drew hbR5).set _⟩, bel5.drew.setCell (p := ⟨w.heap.size + 1, 0, none⟩) (by simp) _⟩
    · have z : (d.nx J == -1) = false := by rw [beq_eq_false_iff_ne]; exact e2
      have HON : Hid (On d sh s (pre.length + 1)) := hJ.on.succ (by rw [HX.out.1]; omega) (by rw [HX.out.1]; exact e2)
      clear e2
      gi_wp2
      gi_region
      all_goals
        gi_wp2
        refine ⟨(KeepsOthers.setCell _ _ _).trans (KeepsOthers.drew _), (Kept.box _ _ W _).drew, ?_, ?_, hbS5, ?_, hB5.drew⟩
        · rw [List.length_append, List.length_singleton, chL_snoc, ← hJ.ch, HX.out.2]
        · rw [List.length_append, List.length_singleton]; exact HON.out
        · rw [List.length_append, List.length_singleton, HW1.out]; exact hbW5
  case iter =>
    intro l R X W hRa hRs hY hBW hI hRW
    have hrbW := hrb.keep hBW
    have hsbW := (hBW.cell (p := ⟨w2.heap.size + 1 + 1 + 1, 0, none⟩) (by show w2.heap.size + 1 + 1 + 1 < w4.heap.size; omega)).trans hsb4
    refine (onward1_gen 4 l (w2.heap.size + 1 + 1) (w2.heap.size + 1 + 1 + 1) (w2.heap.size + 1) a1 a2 a3 a4 c1 c2 c3 c4 d s w2 W (StJ w2 d sh s w2.heap.size (w2.heap.size + 1) (.slice ao d.nN cap)) R X HR.out.1 g1 g2 hk2.nx (fun _ _ o h => h.alloc o) (fun _ _ _ _ _ k v' h hr hb => h.store hr hb k v') (fun _ _ h => h.bel) hRa hRs
      (fun k W1 h1 h2 h3 => (hY _ (it d s k) W1 h1 h2 ⟨by rw [chL_len], by rw [chL_len]; exact h3⟩ (by rw [chL_len]; have := h3.le; omega)).mono fun e W2 h4 => by rw [chL_snoc]; exact h4) hrbW hsbW (by omega) hI hRW (by have := hBW.size; omega)).mono ?_
    rintro e W' ⟨he, ⟨m, hm, hc, hr⟩ | hX⟩
    · exact ⟨he, Or.inl ⟨_, ⟨m, hm, rfl⟩, hc, hr⟩⟩
    · exact ⟨he, Or.inr hX⟩
  case done =>
    rintro D xs W hD ⟨m, hm, rfl⟩ hJ hK
    have hon := hJ.on
    rw [chL_len] at hon
    have HV : Hid (-2 = stp d sh (d.nN + 1) s.toNat 0) := (stp_never HLO.out g1 hm hon _).symm
    have hbR : Boxed W (w.heap.size + 1) 3 (.int .i64 0) := (show Blk w2 (w.heap.size + 1) #[.int .i64 0] 3 from hbo2).keep hJ.bel
    have hcR := hbR.cell
    have hfR := hbR.frozen
    have belW : Below w.heap.size w W := chain bel2 hJ.bel
    have hK' := (KeepsOthers.setCell W ⟨w.heap.size + 1, 0, none⟩ (.int .i64 (-2))).same D _ hK rfl
    have hb9 := (box_putObj (hbR.set (.int .i64 (-2))) (.deferred none) hK' rfl).cell
    have hB9 : Below w.heap.size w ((W.setCell ⟨w.heap.size + 1, 0, none⟩ (.int .i64 (-2))).putObj D (.deferred none)) := below_putObj (belW.setCell (p := ⟨w.heap.size + 1, 0, none⟩) (by simp) _) (by omega) _ hK'
    clear hJ hm hon hsl hk2 hbr2
    gi_wp2
    refine ⟨by simp, .inl ⟨_, _, rfl, run_takeDeferred hK', ?_⟩⟩
    refine ⟨.int .i64 (-2), ?_, ⟨_, HI.out _ HV.out, rfl⟩, hB9⟩
    simp [results, Try.f22, go_sem, hb9]
  case stop =>
    rintro D c pre W hD ⟨rfl, ⟨r, hi, hb⟩, hB⟩ hK
    have hb9 := (box_putObj hb (.deferred none) hK rfl).cell
    have hB9 : Below w.heap.size w (W.putObj D (.deferred none)) := below_putObj hB (by omega) _ hK
    clear hsl hk2 hbr2
    gi_wp2
    refine ⟨by simp, .inl ⟨_, _, rfl, run_takeDeferred hK, ?_⟩⟩
    refine ⟨.int .i64 r, ?_, ⟨_, hi, rfl⟩, hB9⟩
    simp [results, Try.f22, go_sem, hb9]

end Go.Proofs.Ytachkoledebanab
