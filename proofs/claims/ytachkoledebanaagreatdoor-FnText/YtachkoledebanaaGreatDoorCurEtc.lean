import Derived.Test.YtachkoledebanaaGreatDoorBaseEtc
import Derived.Laws.BitsAllLaws
import Derived.Test.YtachkoledebanaaGreatDoorLam
import Derived.Test.YtachkoledebanaaGreatDoorWriEtc
namespace Go.Proofs.YtachkoledebanaaGreatDoor
open Go.RowKit

/-- where the cursor stands -/
structure Cu where
  pos : Nat
  seed : Int

/-- the seed behind a byte; behind the bytes' end -/
def mixA (s b : Int) : Int := IntKind.u64.wrap (IntKind.u64.wrap (IntKind.u64.wrap (s * 6364136223846793005) + b) + 1442695040888963407)
def mixB (s : Int) : Int := IntKind.u64.wrap (IntKind.u64.wrap (s * 6364136223846793005) + 1442695040888963407)
/-- what is drawn of a seed -/
def top (s : Int) : Int := wrap64 (bits .and .u64 (s / 1099511627776) 255)

theorem wrapU (n : Int) : 0 ≤ IntKind.u64.wrap n ∧ IntKind.u64.wrap n < 18446744073709551616 := by rw [IntKind.wrap_u64]; omega
theorem mixA_bd (s b : Int) : 0 ≤ mixA s b ∧ mixA s b < 18446744073709551616 := wrapU _
theorem mixB_bd (s : Int) : 0 ≤ mixB s ∧ mixB s < 18446744073709551616 := wrapU _
theorem top_bd {s : Int} (h0 : 0 ≤ s) (h1 : s < 18446744073709551616) : 0 ≤ top s ∧ top s ≤ 255 := by
  unfold top
  rw [u64_and _ 255 (by omega) (by omega) (by omega) (by omega)]
  have := Nat.and_le_right (n := (s / 1099511627776).toNat) (m := (255 : Int).toNat)
  have e : (255 : Int).toNat = 255 := rfl
  rw [e] at this ⊢
  unfold wrap64
  omega

/-- the bytes -/
structure Code where
  n : Nat
  b : Nat → Int

def Cu.step (k : Code) (c : Cu) : Cu := ⟨c.pos + 1, if c.pos < k.n then mixA c.seed (k.b c.pos) else mixB c.seed⟩
def Cu.val (k : Code) (c : Cu) : Int := if c.pos < k.n then k.b c.pos else top (mixB c.seed)

/-- the cursor lies in block X, its bytes elsewhere -/
structure CurAt (w : World) (X : Nat) (ca : Option Addr) (cc : Nat) (k : Code) (c : Cu) : Prop where
  bk : Blk w X #[.slice ca k.n cc, .int .i64 c.pos, .int .u64 c.seed] 39
  code : ∀ i, i < k.n → ∃ b o, ca = some ⟨b, o, none⟩ ∧ b ≠ X ∧ w.cell? ⟨b, o + i, none⟩ = some (.int .u8 (k.b i))
  lo : 0 ≤ c.seed
  hi : c.seed < 18446744073709551616
  bd : ∀ i, i < k.n → 0 ≤ k.b i ∧ k.b i ≤ 255

theorem CurAt.val_bd {w : World} {X cc : Nat} {ca : Option Addr} {k : Code} {c : Cu} (h : CurAt w X ca cc k c) : 0 ≤ c.val k ∧ c.val k ≤ 255 := by
  unfold Cu.val
  split
  · exact h.bd _ (by assumption)
  · exact top_bd (mixB_bd _).1 (mixB_bd _).2

theorem CurAt.only {w w' : World} {X Y cc : Nat} {ca : Option Addr} {k : Code} {c : Cu} (h : CurAt w X ca cc k c) (ho : Below Y w w') (hX : X < Y) (hc : ∀ b o, ca = some ⟨b, o, none⟩ → 0 < k.n → b < Y) : CurAt w' X ca cc k c :=
  ⟨h.bk.below ho hX, fun i hi => by
    obtain ⟨b, o, e, hne, hb⟩ := h.code i hi
    exact ⟨b, o, e, hne, (ho.cell (p := ⟨b, o + i, none⟩) (hc b o e (by omega))).trans hb⟩, h.lo, h.hi, h.bd⟩

/-- the cursor goes on: two stores into its own block -/
theorem CurAt.go {w w' : World} {X cc : Nat} {ca : Option Addr} {k : Code} {c c' : Cu} (h : CurAt w X ca cc k c) (ho : Only X (X + 1) w w') (hb : Blk w' X #[.slice ca k.n cc, .int .i64 c'.pos, .int .u64 c'.seed] 39) (h1 : 0 ≤ c'.seed) (h2 : c'.seed < 18446744073709551616) : CurAt w' X ca cc k c' :=
  ⟨hb, fun i hi => by
    obtain ⟨b, o, e, hne, hb⟩ := h.code i hi
    exact ⟨b, o, e, hne, ho.cell (p := ⟨b, o + i, none⟩) (by show b < X ∨ X + 1 ≤ b; omega) hb⟩, h1, h2, h.bd⟩

theorem Only.two {w : World} {X m : Nat} (a b : Nat) (u v : Value) : Only X (X + 1) w (((w.drewN m).setCell ⟨X, a, none⟩ u).setCell ⟨X, b, none⟩ v) :=
  ((Only.ofBelow (below_drewN (Below.refl _ _) m)).setCell (p := ⟨X, a, none⟩) (Nat.le_refl _) (Nat.lt_succ_self _) u).setCell (p := ⟨X, b, none⟩) (Nat.le_refl _) (Nat.lt_succ_self _) v

theorem Blk.two12 {w : World} {X t : Nat} {a b c : Value} (h : Blk w X #[a, b, c] t) (m : Nat) (u v : Value) : Blk (((w.drewN m).setCell ⟨X, 1, none⟩ u).setCell ⟨X, 2, none⟩ v) X #[a, u, v] t := by
  have := ((h.drewN m).set 1 u).set 2 v
  simpa using this
theorem Blk.two21 {w : World} {X t : Nat} {a b c : Value} (h : Blk w X #[a, b, c] t) (m : Nat) (u v : Value) : Blk (((w.drewN m).setCell ⟨X, 2, none⟩ v).setCell ⟨X, 1, none⟩ u) X #[a, u, v] t := by
  have := ((h.drewN m).set 2 v).set 1 u
  simpa using this

set_option maxHeartbeats 2000000 in
theorem next_any (X : Nat) (ca : Option Addr) (cc : Nat) (k : Code) (c : Cu) (w : World) (_hn : k.n ≤ 1048576) (hc : c.pos ≤ 1048576) (h : CurAt w X ca cc k c) :
    Calls Tryz.prog 31 #[.pointer (some ⟨X, 0, none⟩)] w fun e w' => e = .returned (.int .i64 (c.val k)) ∧ CurAt w' X ca cc k (c.step k) ∧ Only X (X + 1) w w' ∧ w'.heap.size = w.heap.size := by
  have x0 := h.bk.cell 0
  have x1 := h.bk.cell 1
  have x2 := h.bk.cell 2
  have f1 := h.bk.free 1
  have f2 := h.bk.free 2
  simp at x0 x1 x2
  have hlo := h.lo
  have hhi := h.hi
  go_enter Tryz.func31, Tryz.ntmps31
  by_cases hlt : c.pos < k.n
  · obtain ⟨b, o, rfl, hne, hb⟩ := h.code c.pos hlt
    have hbd := h.bd c.pos hlt
    have hlt' : (c.pos : Int) < (k.n : Int) := by omega
    have h0' : (0 : Int) ≤ (c.pos : Int) := by omega
    go_wp2_with fail
    go_quiet (fail)
    go_wp2_with fail
    go_quiet (fail)
    go_wp2
    have HV : Hid (c.val k = k.b c.pos ∧ c.step k = ⟨c.pos + 1, mixA c.seed (k.b c.pos)⟩) := ⟨by unfold Cu.val; rw [if_pos hlt], by unfold Cu.step; rw [if_pos hlt]⟩
    go_ret
    refine ⟨by rw [HV.out.1]; rfl, ?_, Only.two 1 2 _ _, by simp⟩
    rw [HV.out.2]
    refine h.go (Only.two 1 2 _ _) ?_ (mixA_bd _ _).1 (mixA_bd _ _).2
    exact h.bk.two12 _ _ _
  · have hlt' : ¬ (c.pos : Int) < (k.n : Int) := by omega
    have z : decide ((c.pos : Int) < (k.n : Int)) = false := by simp; omega
    go_wp2_with fail
    go_quiet (fail)
    go_wp2
    have HV : Hid (c.val k = top (mixB c.seed) ∧ c.step k = ⟨c.pos + 1, mixB c.seed⟩) := ⟨by unfold Cu.val; rw [if_neg hlt], by unfold Cu.step; rw [if_neg hlt]⟩
    go_ret
    refine ⟨by rw [HV.out.1]; rfl, ?_, Only.two 2 1 _ _, by simp⟩
    rw [HV.out.2]
    refine h.go (Only.two 2 1 _ _) ?_ (mixB_bd _).1 (mixB_bd _).2
    exact h.bk.two21 _ _ _

set_option maxHeartbeats 2000000 in
theorem pick_any (p : Int) (h2 : 2 ≤ p) (h200 : p ≤ 200) (X : Nat) (ca : Option Addr) (cc : Nat) (k : Code) (c : Cu) (w : World) (hn : k.n ≤ 1048576) (hc : c.pos ≤ 1048576) (h : CurAt w X ca cc k c) :
    Calls Tryz.prog 30 #[.pointer (some ⟨X, 0, none⟩), .int .i64 p] w fun e w' => e = .returned (.int .i64 (c.val k % p)) ∧ CurAt w' X ca cc k (c.step k) ∧ Only X (X + 1) w w' ∧ w'.heap.size = w.heap.size := by
  have hv := h.val_bd
  have hnx := next_any X ca cc k c w hn hc h
  clear h
  go_enter Tryz.func30, Tryz.ntmps30
  go_wp2_with fail
  refine hnx.mono ?_
  rintro e w1 ⟨rfl, h1⟩
  clear hnx
  obtain ⟨v, hcv⟩ : ∃ v, v = c.val k := ⟨_, rfl⟩
  rw [← hcv] at hv ⊢
  have HV : Hid (v = c.val k) := hcv
  clear hcv
  go_wp2
  go_ret
  exact ⟨by rw [← HV.out]; rfl, h1⟩

end Go.Proofs.YtachkoledebanaaGreatDoor

namespace Go.Proofs.YtachkoledebanaaGreatDoor
open Go.RowKit

/-- the cursor, m steps on -/
def st (k : Code) : Nat → Cu → Cu
  | 0, c => c
  | m + 1, c => (st k m c).step k
/-- drawn for signal i: its Next -/
def rMid (kd : Int) (i : Nat) (x : Int) : Int := if kd = 0 then (i : Int) - 1 else x - 1
def rNx (k : Code) (n : Nat) (kd : Int) (i : Nat) (c : Cu) : Int := if kd = 1 then ((i : Int) + 1) % n else rMid kd i (c.val k % ((n : Int) + 1))
/-- .. its Far, its way -/
def rFr (k : Code) (c : Cu) : Int := (st k 1 c).val k * (1 + (st k 2 c).val k % 9)
def rOp (k : Code) (c : Cu) : Bool := decide (0 < (st k 3 c).val k % 6)
/-- .. its lamps: one may be broken; two more may -/
def rC (k : Code) (c : Cu) : Cu := if (st k 4 c).val k % 4 = 0 then st k 6 c else st k 5 c
def rW1 (k : Code) (c : Cu) : Nat → Bool := if (st k 4 c).val k % 4 = 0 then less (fun _ => true) ((st k 5 c).val k % 4).toNat else fun _ => true
def rE (k : Code) (c : Cu) : Cu := if (rC k c).val k % 9 = 0 then st k 3 (rC k c) else st k 1 (rC k c)
def rW (k : Code) (c : Cu) : Nat → Bool := if (rC k c).val k % 9 = 0 then less (less (rW1 k c) ((st k 1 (rC k c)).val k % 4).toNat) ((st k 2 (rC k c)).val k % 4).toNat else rW1 k c
/-- the cursor ahead of signal i -/
def cAt (k : Code) : Nat → Cu
  | 0 => st k 2 ⟨0, 0⟩
  | i + 1 => rE k (cAt k i)

def dN (k : Code) : Nat := (1 + (⟨0, 0⟩ : Cu).val k % 9).toNat
def dK (k : Code) : Int := (st k 1 ⟨0, 0⟩).val k % 3
def drawn (k : Code) : RD := ⟨dN k, fun i => rNx k (dN k) (dK k) i (cAt k i), dN k, fun i => rFr k (cAt k i), dN k, fun i => rOp k (cAt k i), dN k, fun _ => 4, fun i => rW k (cAt k i)⟩

/-- bytes are bytes -/
def Bytes (k : Code) : Prop := ∀ i, i < k.n → 0 ≤ k.b i ∧ k.b i ≤ 255
theorem val_bd {k : Code} (h : Bytes k) (c : Cu) : 0 ≤ c.val k ∧ c.val k ≤ 255 := by
  unfold Cu.val
  split
  · exact h _ (by assumption)
  · exact top_bd (mixB_bd _).1 (mixB_bd _).2

theorem dN_bd {k : Code} (h : Bytes k) : 1 ≤ dN k ∧ dN k ≤ 9 := by
  have := val_bd h ⟨0, 0⟩
  unfold dN
  omega
theorem dN_eq {k : Code} (h : Bytes k) : (dN k : Int) = 1 + (⟨0, 0⟩ : Cu).val k % 9 := by
  have := val_bd h ⟨0, 0⟩
  unfold dN
  omega

theorem st_pos (k : Code) (c : Cu) : ∀ m, (st k m c).pos = c.pos + m
  | 0 => rfl
  | m + 1 => by
    show (st k m c).pos + 1 = _
    rw [st_pos k c m]; omega
theorem rC_pos (k : Code) (c : Cu) : (rC k c).pos ≤ c.pos + 6 := by unfold rC; split <;> rw [st_pos] <;> omega
theorem rE_pos (k : Code) (c : Cu) : (rE k c).pos ≤ c.pos + 9 := by
  have := rC_pos k c
  unfold rE; split <;> rw [st_pos] <;> omega
theorem cAt_pos (k : Code) : ∀ i, (cAt k i).pos ≤ 2 + 9 * i
  | 0 => by show (st k 2 ⟨0, 0⟩).pos ≤ _; rw [st_pos]; show 0 + 2 ≤ 2 + 9 * 0; omega
  | i + 1 => by
    have h1 := rE_pos k (cAt k i)
    have h2 := cAt_pos k i
    show (rE k (cAt k i)).pos ≤ _
    omega

theorem drawn_right {k : Code} (h : Bytes k) : Right (drawn k) := by
  have hn := dN_bd h
  refine ⟨⟨by show dN k ≤ 60; omega, rfl, rfl, rfl⟩, fun i hi => ?_, fun i _ => rfl⟩
  have hi' : i < dN k := hi
  refine ⟨?_, ?_⟩
  · show -1 ≤ rNx k (dN k) (dK k) i (cAt k i) ∧ rNx k (dN k) (dK k) i (cAt k i) < (dN k : Int)
    unfold rNx
    split
    · have h1 := Int.emod_nonneg ((i : Int) + 1) (show (dN k : Int) ≠ 0 by omega)
      have h2 := Int.emod_lt_of_pos ((i : Int) + 1) (show (0 : Int) < dN k by omega)
      omega
    · unfold rMid
      split
      · omega
      · have h1 := Int.emod_nonneg ((cAt k i).val k) (show (dN k : Int) + 1 ≠ 0 by omega)
        have h2 := Int.emod_lt_of_pos ((cAt k i).val k) (show (0 : Int) < (dN k : Int) + 1 by omega)
        omega
  · show 0 ≤ rFr k (cAt k i) ∧ rFr k (cAt k i) ≤ 1000000
    unfold rFr
    have h1 := val_bd h (st k 1 (cAt k i))
    have h2 := val_bd h (st k 2 (cAt k i))
    generalize (st k 1 (cAt k i)).val k = x at *
    generalize (st k 2 (cAt k i)).val k = y at *
    have h3 : 0 ≤ 1 + y % 9 ∧ 1 + y % 9 ≤ 9 := by omega
    generalize 1 + y % 9 = z at *
    refine ⟨Int.mul_nonneg h1.1 h3.1, ?_⟩
    have := Int.mul_le_mul h1.2 h3.2 h3.1 (by omega)
    omega

end Go.Proofs.YtachkoledebanaaGreatDoor

namespace Go.Proofs.YtachkoledebanaaGreatDoor
open Go.RowKit

/-- a row that was made: where its lists lie -/
structure Made (lo : Nat) (d : RD) (a1 a2 a3 a4 : Option Addr) (bI : Nat → Nat) (w : World) : Prop where
  nx : OwnT w lo w.heap.size a1 d.nN 3 (fun k => .int .i64 (d.nx k))
  fr : OwnT w lo w.heap.size a2 d.nF 3 (fun k => .int .i64 (d.fr k))
  op : OwnT w lo w.heap.size a3 d.nO 4 (fun k => .bool (d.op k))
  wk : OwnT w lo w.heap.size a4 d.nW 24 (fun k => .slice (some ⟨bI k, 0, none⟩) 4 4)
  lm : ∀ j, j < d.nW → w.rowIs (bI j) 4 4 (fun q => .bool (d.wk j q)) ∧ lo ≤ bI j ∧ ∀ b o, a3 = some ⟨b, o, none⟩ → b ≠ bI j
  mono : ∀ i j, i < j → j < d.nW → bI i < bI j

theorem OwnT.of_shape {w : World} {lo n t cap : Nat} {ao : Option Addr} {f : Nat → Value} (h : w.ownsRow lo t 1 (.slice ao n cap) n ((List.range n).map f)) : OwnT w lo w.heap.size ao n t f := by
  obtain ⟨ao', cap', e, ht⟩ := OwnT.ofOwns h
  injection e with e _ _
  rw [e]; exact ht
/-- a store below its lists -/
theorem Made.low {lo : Nat} {d : RD} {a1 a2 a3 a4 : Option Addr} {bI : Nat → Nat} {w : World} (h : Made lo d a1 a2 a3 a4 bI w) {p : Addr} (hp : p.block < lo) (v : Value) : Made lo d a1 a2 a3 a4 bI (w.setCell p v) := by
  have ho : ∀ {n t : Nat} {ao : Option Addr} {f : Nat → Value}, OwnT w lo w.heap.size ao n t f → OwnT (w.setCell p v) lo (w.setCell p v).heap.size ao n t f := fun hv => by
    have := hv.apart (p := p) (fun b _ _ hb _ _ => by omega) v
    simpa using this
  exact ⟨ho h.nx, ho h.fr, ho h.op, ho h.wk, fun j hj => by
    obtain ⟨i1, i2, i3⟩ := h.lm j hj
    exact ⟨i1.setOther (by omega) _, i2, i3⟩, h.mono⟩
theorem Made.wide {lo lo' : Nat} {d : RD} {a1 a2 a3 a4 : Option Addr} {bI : Nat → Nat} {w : World} (h : Made lo d a1 a2 a3 a4 bI w) (hl : lo' ≤ lo) : Made lo' d a1 a2 a3 a4 bI w :=
  ⟨h.nx.wide hl (Nat.le_refl _), h.fr.wide hl (Nat.le_refl _), h.op.wide hl (Nat.le_refl _), h.wk.wide hl (Nat.le_refl _), fun j hj => by
    obtain ⟨i1, i2, i3⟩ := h.lm j hj
    exact ⟨i1, by omega, i3⟩, h.mono⟩
theorem Made.keep {lo : Nat} {d : RD} {a1 a2 a3 a4 : Option Addr} {bI : Nat → Nat} {w w' : World} (h : Made lo d a1 a2 a3 a4 bI w) (hb : Below w.heap.size w w') : Made lo d a1 a2 a3 a4 bI w' :=
  ⟨(h.nx.keep hb (Nat.le_refl _)).wide (Nat.le_refl _) hb.size, (h.fr.keep hb (Nat.le_refl _)).wide (Nat.le_refl _) hb.size, (h.op.keep hb (Nat.le_refl _)).wide (Nat.le_refl _) hb.size, (h.wk.keep hb (Nat.le_refl _)).wide (Nat.le_refl _) hb.size, fun j hj => by
    obtain ⟨i1, i2, i3⟩ := h.lm j hj
    exact ⟨rowIs_below i1 hb i1.lt, i2, i3⟩, h.mono⟩
theorem Made.at {lo : Nat} {d : RD} {a1 a2 a3 a4 : Option Addr} {bI : Nat → Nat} {w : World} (hl : ∀ i, i < d.nW → d.L i = 4) (h : Made lo d a1 a2 a3 a4 bI w) : RowAt w a1 a2 a3 a4 (fun j => some ⟨bI j, 0, none⟩) (fun _ => 4) d :=
  ⟨h.nx.sl, h.fr.sl, h.op.sl, h.wk.sl.congr (fun j hj => by rw [hl j hj]), fun j hj => by rw [hl j hj]; exact .ofRow (h.lm j hj).1⟩

def RetRow (e : Ending) (lo : Nat) (d : RD) (w' : World) : Prop := ∃ a1 a2 a3 a4 c1 c2 c3 c4 bI, e = .returned (.agg #[.slice a1 d.nN c1, .slice a2 d.nF c2, .slice a3 d.nO c3, .slice a4 d.nW c4]) ∧ Made lo d a1 a2 a3 a4 bI w'

/-- what came before stays, behind an append and a store of the row's own -/
theorem bel_step {S R B : Nat} {wr w4 : World} {o : Obj} {row : Option Nat} {q : Nat} {v : Value} (hS : S ≤ R) (hSw : S ≤ wr.heap.size) (hSB : S ≤ B) (hg : (wr.alloc o).grownBy w4 row) (hrow : ∀ g, row = some g → B ≤ g) : Below S wr (w4.setCell ⟨R, q, none⟩ v) :=
  (((Below.refl S wr).alloc hSw o).grown hg (by simp; omega) (fun g e => Nat.le_trans hSB (hrow g e))).setCell hS v

/-- the cursor goes on beside the lists -/
theorem Mk.cur {w wr w' : World} {X R B : Nat} {d : RD} {bI : Nat → Nat} {n1 n2 n3 n4 : Nat} {v1 v2 v3 v4 : Value} (h : Mk w X R B d bI n1 n2 n3 n4 v1 v2 v3 v4 wr) (hXR : X < R) (hRB : R < B) (ho : Only X (X + 1) wr w') : Mk w X R B d bI n1 n2 n3 n4 v1 v2 v3 v4 w' := by
  have hg : wr.grownBy w' (some X) := ⟨ho.os, ho.tape, ho.output, ho.size, fun j hj hne => ho.block j hj (by have : j ≠ X := fun e => hne (by rw [e]); omega)⟩
  have hk : ∀ {e s n : Nat} {v : Value} {xs : List Value}, wr.ownsRow B e s v n xs → w'.ownsRow B e s v n xs := fun hv => hv.kept hg (Or.inr fun e => by have := (hv.lt X e).1; omega)
  exact ⟨h.on.trans ho, ho.blk h.bk (Or.inr (by omega)), hk h.o1, hk h.o2, hk h.o3, hk h.o4, h.ap, fun j hj => by
    obtain ⟨i1, i2, i3⟩ := h.inn j hj
    exact ⟨ho.rowIs i1 (Or.inr (by omega)), i2, i3⟩, h.mono⟩
theorem Mk.drew {w wr : World} {X R B : Nat} {d : RD} {bI : Nat → Nat} {n1 n2 n3 n4 : Nat} {v1 v2 v3 v4 : Value} (h : Mk w X R B d bI n1 n2 n3 n4 v1 v2 v3 v4 wr) : Mk w X R B d bI n1 n2 n3 n4 v1 v2 v3 v4 wr.drew :=
  ⟨h.on.trans (.ofBelow (Below.refl _ _).drew), h.bk, h.o1.drew, h.o2.drew, h.o3.drew, h.o4.drew, h.ap, fun j hj => by
    obtain ⟨i1, i2, i3⟩ := h.inn j hj
    exact ⟨i1.drew, i2, i3⟩, h.mono⟩

/-- at the end: the row is made -/
theorem Mk.made {w wr : World} {X R B n : Nat} {d : RD} {bI : Nat → Nat} {s1 s2 s3 s4 : Option Addr} {k1 k2 k3 k4 : Nat} (h : Mk w X R B d bI n n n n (.slice s1 n k1) (.slice s2 n k2) (.slice s3 n k3) (.slice s4 n k4) wr) (h1 : d.nN = n) (h2 : d.nF = n) (h3 : d.nO = n) (h4 : d.nW = n) : Made B d s1 s2 s3 s4 bI wr := by
  refine ⟨by rw [h1]; exact OwnT.of_shape h.o1, by rw [h2]; exact OwnT.of_shape h.o2, by rw [h3]; exact OwnT.of_shape h.o3, by rw [h4]; exact OwnT.of_shape h.o4, fun j hj => ?_, fun i j hij hj => h.mono i j hij (by omega)⟩
  obtain ⟨i1, i2, i3⟩ := h.inn j (by omega)
  refine ⟨i1, i2, fun b o e eb => i3 ?_⟩
  rw [e, ← eb]
  rcases h.o3.2 with ⟨hv, _⟩ | ⟨g, cap, cur, hv, _⟩
  · rw [e] at hv; cases hv
  · rw [e] at hv
    injection hv with hv _ _
    injection hv with hv
    injection hv with hv hv'
    subst hv'
    rfl

/-- .. and a list of lamps of its own, the youngest block, not in the row yet -/
structure MkB (w : World) (X R B : Nat) (d : RD) (bI : Nat → Nat) (n1 n2 n3 n4 : Nat) (v1 v2 v3 v4 : Value) (b : Nat) (f : Nat → Bool) (wr : World) : Prop where
  mm : Mk w X R B d bI n1 n2 n3 n4 v1 v2 v3 v4 wr
  row : wr.rowIs b 4 4 (fun q => .bool (f q))
  lo : B ≤ b
  f1 : ∀ g, v1.ownBlock = some g → g < b
  f2 : ∀ g, v2.ownBlock = some g → g < b
  f3 : ∀ g, v3.ownBlock = some g → g < b
  f4 : ∀ g, v4.ownBlock = some g → g < b
  fi : ∀ j, j < n4 → bI j < b

section
variable {w wr w' : World} {X R B : Nat} {d : RD} {bI : Nat → Nat} {n1 n2 n3 n4 : Nat} {v1 v2 v3 v4 : Value} {b : Nat} {f : Nat → Bool}

theorem Mk.alloc (h : Mk w X R B d bI n1 n2 n3 n4 v1 v2 v3 v4 wr) (o : Obj) : Mk w X R B d bI n1 n2 n3 n4 v1 v2 v3 v4 (wr.alloc o) :=
  ⟨h.on.trans (.ofBelow ((Below.refl _ _).alloc (Nat.le_refl _) _)), h.bk.alloc o, h.o1.alloc o, h.o2.alloc o, h.o3.alloc o, h.o4.alloc o, h.ap, fun j hj => by
    obtain ⟨i1, i2, i3⟩ := h.inn j hj
    exact ⟨i1.alloc o, i2, i3⟩, h.mono⟩

theorem MkB.new (h : Mk w X R B d bI n1 n2 n3 n4 v1 v2 v3 v4 wr) (hRB : B ≤ wr.heap.size) : MkB w X R B d bI n1 n2 n3 n4 v1 v2 v3 v4 wr.heap.size (fun _ => true) (wr.alloc (.cells #[.bool true, .bool true, .bool true, .bool true] 4)) :=
  ⟨h.alloc _, World.rowIs_alloc wr #[.bool true, .bool true, .bool true, .bool true] 4 (fun _ => .bool true) (fun i hi => by
      have hi' : i < 4 := hi
      match i, hi' with
      | 0, _ => rfl
      | 1, _ => rfl
      | 2, _ => rfl
      | 3, _ => rfl), hRB, fun g e => (h.o1.lt g e).2, fun g e => (h.o2.lt g e).2, fun g e => (h.o3.lt g e).2, fun g e => (h.o4.lt g e).2, fun j hj => (h.inn j hj).1.lt⟩

theorem MkB.cur (h : MkB w X R B d bI n1 n2 n3 n4 v1 v2 v3 v4 b f wr) (hXR : X < R) (hRB : R < B) (ho : Only X (X + 1) wr w') : MkB w X R B d bI n1 n2 n3 n4 v1 v2 v3 v4 b f w' :=
  ⟨h.mm.cur hXR hRB ho, ho.rowIs h.row (Or.inr (by have := h.lo; omega)), h.lo, h.f1, h.f2, h.f3, h.f4, h.fi⟩

theorem MkB.store (h : MkB w X R B d bI n1 n2 n3 n4 v1 v2 v3 v4 b f wr) (hw : w.heap.size ≤ R) (hRB : R < B) (j : Nat) : MkB w X R B d bI n1 n2 n3 n4 v1 v2 v3 v4 b (less f j) (wr.setCell ⟨b, j, none⟩ (.bool false)) := by
  have hlo := h.lo
  have ho : ∀ {e s n : Nat} {v : Value} {xs : List Value}, wr.ownsRow B e s v n xs → (∀ g, v.ownBlock = some g → g < b) → (wr.setCell ⟨b, j, none⟩ (.bool false)).ownsRow B e s v n xs := fun hv hf => ownsRow_setCell_other hv (fun e => by have := hf b e; omega) _
  refine ⟨⟨⟨h.mm.on.os, h.mm.on.tape, h.mm.on.output, by simpa using h.mm.on.size, fun q hq hne => (Below.heap_setCell wr ⟨b, j, none⟩ _ q (by show q ≠ b; omega)).trans (h.mm.on.block q hq hne)⟩, h.mm.bk.other (a := ⟨b, j, none⟩) (by show R ≠ b; omega) _, ho h.mm.o1 h.f1, ho h.mm.o2 h.f2, ho h.mm.o3 h.f3, ho h.mm.o4 h.f4, h.mm.ap, fun q hq => ?_, h.mm.mono⟩, ?_, hlo, h.f1, h.f2, h.f3, h.f4, h.fi⟩
  · obtain ⟨i1, i2, i3⟩ := h.mm.inn q hq
    exact ⟨i1.setOther (by show bI q ≠ b; have := h.fi q hq; omega) _, i2, i3⟩
  · refine (h.row.set j (.bool false)).congr fun q _ => ?_
    unfold less
    by_cases e : q = j <;> simp [e]

end

end Go.Proofs.YtachkoledebanaaGreatDoor
