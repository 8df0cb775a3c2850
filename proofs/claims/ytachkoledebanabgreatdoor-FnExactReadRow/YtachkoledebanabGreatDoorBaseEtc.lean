import Derived.Test.YtachkoledebanabGreatDoorRows
import Derived.WalkKit
import Derived.WalkSpells
import Derived.WalkLawsBesides
import Derived.Deep.OwnRows
import Derived.Deep.QuietTactic
import Derived.Deep.RegionWith
import Derived.BigQuiet
namespace Go.Proofs.YtachkoledebanabGreatDoor
open Go.RowKit

/-- the first n cells behind a slice's address hold f 0, f 1, .. -/
def SlAt (w : World) (ao : Option Addr) (n : Nat) (f : Nat → Value) : Prop :=
  ∀ k, k < n → ∃ b o, ao = some ⟨b, o, none⟩ ∧ w.cell? ⟨b, o + k, none⟩ = some (f k)

theorem SlAt.below {w w' : World} {ao : Option Addr} {n B : Nat} {f : Nat → Value} (h : SlAt w ao n f) (hb : Below B w w') (hB : w.heap.size ≤ B) : SlAt w' ao n f := by
  intro k hk
  obtain ⟨b, o, e, hc⟩ := h k hk
  have hlt := block_lt_of_cell hc
  exact ⟨b, o, e, (hb.cell (p := ⟨b, o + k, none⟩) (Nat.lt_of_lt_of_le hlt hB)).trans hc⟩

theorem SlAt.keep {w w' : World} {ao : Option Addr} {n : Nat} {f : Nat → Value} (h : SlAt w ao n f) (hb : Below w.heap.size w w') : SlAt w' ao n f := h.below hb (Nat.le_refl _)

theorem SlAt.congr {w : World} {ao : Option Addr} {n : Nat} {f g : Nat → Value} (h : SlAt w ao n f) (e : ∀ k, k < n → f k = g k) : SlAt w ao n g := by
  intro k hk
  obtain ⟨b, o, ea, hc⟩ := h k hk
  exact ⟨b, o, ea, by rw [hc, e k hk]⟩

theorem SlAt.ofRow {w : World} {b t n : Nat} {f : Nat → Value} (h : w.rowIs b t n f) : SlAt w (some ⟨b, 0, none⟩) n f :=
  fun k hk => ⟨b, 0, rfl, by rw [Nat.zero_add]; exact h.cell hk⟩

theorem rowIs_below {w w' : World} {B b t n : Nat} {f : Nat → Value} (h : w.rowIs b t n f) (hb : Below B w w') (hB : b < B) : w'.rowIs b t n f :=
  h.of_block (hb.block b hB)

theorem below_drewN {B : Nat} {a w : World} (h : Below B a w) (n : Nat) : Below B a (w.drewN n) := by
  induction n with
  | zero => exact h
  | succ n ih => exact ih.drew

theorem chain {w a b : World} (h : Below w.heap.size w a) (k : Below a.heap.size a b) : Below w.heap.size w b := h.trans (k.mono h.size)

theorem bcell {W w1 : World} (hb : Below W.heap.size W w1) : (∀ b o, b < W.heap.size → w1.cell? ⟨b, o, none⟩ = W.cell? ⟨b, o, none⟩) ∧ (∀ b o, b < W.heap.size → w1.frozen? ⟨b, o, none⟩ = W.frozen? ⟨b, o, none⟩) :=
  ⟨fun b o h => hb.cell (p := ⟨b, o, none⟩) h, fun b o h => hb.frozen (p := ⟨b, o, none⟩) h⟩

/-- block b is these cells, none frozen -/
def Blk (w : World) (b : Nat) (c : Array Value) (t : TypeId) : Prop := w.heap[b]? = some (.cells c t (0, 0))

theorem Blk.cell {w : World} {b t : Nat} {c : Array Value} (h : Blk w b c t) (i : Nat) : w.cell? ⟨b, i, none⟩ = c[i]? := by
  unfold Blk at h; simp [World.cell?, h]
theorem Blk.free {w : World} {b t : Nat} {c : Array Value} (h : Blk w b c t) (i : Nat) : w.frozen? ⟨b, i, none⟩ = false := by
  unfold Blk at h; simp [World.frozen?, h]
theorem Blk.lt {w : World} {b t : Nat} {c : Array Value} (h : Blk w b c t) : b < w.heap.size := by
  obtain ⟨hlt, _⟩ := Array.getElem?_eq_some_iff.1 h
  exact hlt
theorem Blk.below {w w' : World} {B b t : Nat} {c : Array Value} (h : Blk w b c t) (hb : Below B w w') (hB : b < B) : Blk w' b c t :=
  (hb.block b hB).trans h
theorem Blk.keep {w w' : World} {b t : Nat} {c : Array Value} (h : Blk w b c t) (hb : Below w.heap.size w w') : Blk w' b c t := h.below hb h.lt
theorem Blk.new (w : World) (c : Array Value) (t : TypeId) : Blk (w.alloc (.cells c t)) w.heap.size c t := by
  show (w.heap.push _)[w.heap.size]? = _
  simp
theorem Blk.alloc {w : World} {b t : Nat} {c : Array Value} (h : Blk w b c t) (o : Obj) : Blk (w.alloc o) b c t :=
  (Below.heap_alloc w o b h.lt).trans h
theorem Blk.set {w : World} {b t : Nat} {c : Array Value} (h : Blk w b c t) (i : Nat) (v : Value) : Blk (w.setCell ⟨b, i, none⟩ v) b (c.setIfInBounds i v) t := by
  unfold Blk at h ⊢
  simp [World.setCell, Array.getElem?_modify, h]
theorem Blk.other {w : World} {b t : Nat} {c : Array Value} (h : Blk w b c t) {a : Addr} (ha : b ≠ a.block) (v : Value) : Blk (w.setCell a v) b c t :=
  (Below.heap_setCell w a v b ha).trans h
theorem Blk.drew {w : World} {b t : Nat} {c : Array Value} (h : Blk w b c t) : Blk w.drew b c t := h
theorem Blk.drewN {w : World} {b t : Nat} {c : Array Value} (h : Blk w b c t) (n : Nat) : Blk (w.drewN n) b c t := h.keep (below_drewN (Below.refl _ _) n)

/-- a store into one's own memory: what lies in other blocks stays -/
theorem SlAt.other {w : World} {ao : Option Addr} {n : Nat} {f : Nat → Value} (h : SlAt w ao n f) {a : Addr} (ha : ∀ b o, ao = some ⟨b, o, none⟩ → b ≠ a.block) (v : Value) : SlAt (w.setCell a v) ao n f := by
  intro k hk
  obtain ⟨b, o, e, hc⟩ := h k hk
  exact ⟨b, o, e, (World.cell?_of_block (w := w) (Below.heap_setCell w a v b (ha b o e))).trans hc⟩

theorem ret_int {k : IntKind} {a b : Int} (h : a = b) : Ending.returned (.int k a) = .returned (.int k b) := by rw [h]
theorem ret_bool {a b : Bool} (h : a = b) : Ending.returned (.bool a) = .returned (.bool b) := by rw [h]

theorem Tryz.uInts : Tryz.prog.underlying 22 = some (.slice 3) := by kernel_rfl
theorem Tryz.uBools : Tryz.prog.underlying 23 = some (.slice 4) := by kernel_rfl
theorem Tryz.uBoolss : Tryz.prog.underlying 24 = some (.slice 23) := by kernel_rfl
theorem Tryz.iInt : (Tryz.prog.info? 3).map (fun i => (i.zero, i.size, i.bytes)) = some (some (.int .i64 0), 1, 8) := by kernel_rfl
theorem Tryz.iBool : (Tryz.prog.info? 4).map (fun i => (i.zero, i.size, i.bytes)) = some (some (.bool false), 1, 1) := by kernel_rfl
theorem Tryz.iBools : (Tryz.prog.info? 23).map (fun i => (i.zero, i.size, i.bytes)) = some (some (.slice none 0 0), 1, 24) := by kernel_rfl

end Go.Proofs.YtachkoledebanabGreatDoor

namespace Go.Proofs.YtachkoledebanabGreatDoor
open Go.RowKit

theorem row_step {w : World} {b t n k : Nat} {z : Value} {f : Nat → Value} (h : w.rowIs b t n (fun j => if j < k then f j else z)) : (w.setCell ⟨b, k, none⟩ (f k)).rowIs b t n (fun j => if j < k + 1 then f j else z) := by
  refine (h.set k (f k)).congr fun i _ => ?_
  by_cases e : i = k
  · subst e; simp
  · by_cases g : i < k
    · rw [if_neg e, if_pos g, if_pos (by omega)]
    · rw [if_neg e, if_neg g, if_neg (by omega)]

end Go.Proofs.YtachkoledebanabGreatDoor

namespace Go.Proofs.YtachkoledebanabGreatDoor
open Go.RowKit

/-- what a row reads as, by the index -/
structure RD where
  nN : Nat
  nx : Nat → Int
  nF : Nat
  fr : Nat → Int
  nO : Nat
  op : Nat → Bool
  nW : Nat
  L : Nat → Nat
  wk : Nat → Nat → Bool

/-- the row d lies behind the four slices' addresses -/
structure RowAt (w : World) (a1 a2 a3 a4 : Option Addr) (A : Nat → Option Addr) (C : Nat → Nat) (d : RD) : Prop where
  nx : SlAt w a1 d.nN (fun k => .int .i64 (d.nx k))
  fr : SlAt w a2 d.nF (fun k => .int .i64 (d.fr k))
  op : SlAt w a3 d.nO (fun k => .bool (d.op k))
  wk : SlAt w a4 d.nW (fun k => .slice (A k) (d.L k) (C k))
  lm : ∀ i, i < d.nW → SlAt w (A i) (d.L i) (fun j => .bool (d.wk i j))

theorem RowAt.keep {w w' : World} {a1 a2 a3 a4 : Option Addr} {A : Nat → Option Addr} {C : Nat → Nat} {d : RD} (h : RowAt w a1 a2 a3 a4 A C d) (hb : Below w.heap.size w w') : RowAt w' a1 a2 a3 a4 A C d :=
  ⟨h.nx.keep hb, h.fr.keep hb, h.op.keep hb, h.wk.keep hb, fun i hi => (h.lm i hi).keep hb⟩

theorem RowAt.drew {w : World} {a1 a2 a3 a4 : Option Addr} {A : Nat → Option Addr} {C : Nat → Nat} {d : RD} (h : RowAt w a1 a2 a3 a4 A C d) : RowAt w.drew a1 a2 a3 a4 A C d := h.keep (Below.refl _ _).drew

/-- no list of the row is longer than 2^20 -/
structure Small (d : RD) : Prop where
  nN : d.nN ≤ 1048576
  nF : d.nF ≤ 1048576
  nO : d.nO ≤ 1048576
  nW : d.nW ≤ 1048576
  L : ∀ i, i < d.nW → d.L i ≤ 1048576

/-- the row d lies in blocks of its own: from b on -/
structure RowOwn (w : World) (b : Nat) (d : RD) : Prop where
  nx : w.rowIs b 3 d.nN (fun k => .int .i64 (d.nx k))
  fr : w.rowIs (b + 1) 3 d.nF (fun k => .int .i64 (d.fr k))
  op : w.rowIs (b + 2) 4 d.nO (fun k => .bool (d.op k))
  wk : w.rowIs (b + 3) 23 d.nW (fun k => .slice (some ⟨b + 4 + k, 0, none⟩) (d.L k) (d.L k))
  lm : ∀ i, i < d.nW → w.rowIs (b + 4 + i) 4 (d.L i) (fun j => .bool (d.wk i j))

theorem RowOwn.at {w : World} {b : Nat} {d : RD} (h : RowOwn w b d) : RowAt w (some ⟨b, 0, none⟩) (some ⟨b + 1, 0, none⟩) (some ⟨b + 2, 0, none⟩) (some ⟨b + 3, 0, none⟩) (fun k => some ⟨b + 4 + k, 0, none⟩) d.L d :=
  ⟨.ofRow h.nx, .ofRow h.fr, .ofRow h.op, .ofRow h.wk, fun i hi => .ofRow (h.lm i hi)⟩

theorem RowOwn.keep {w w' : World} {b B : Nat} {d : RD} (h : RowOwn w b d) (hb : Below B w w') (hB : b + 4 + d.nW ≤ B) : RowOwn w' b d :=
  ⟨rowIs_below h.nx hb (by omega), rowIs_below h.fr hb (by omega), rowIs_below h.op hb (by omega), rowIs_below h.wk hb (by omega), fun i hi => rowIs_below (h.lm i hi) hb (by omega)⟩

theorem RowOwn.other {w : World} {b : Nat} {d : RD} (h : RowOwn w b d) {a : Addr} (ha : a.block < b) (v : Value) : RowOwn (w.setCell a v) b d :=
  ⟨h.nx.setOther (by omega) v, h.fr.setOther (by omega) v, h.op.setOther (by omega) v, h.wk.setOther (by omega) v, fun i hi => (h.lm i hi).setOther (by omega) v⟩

/-- a row as a value that lies in blocks of its own -/
def ownRow (b : Nat) (d : RD) : Value := .agg #[.slice (some ⟨b, 0, none⟩) d.nN d.nN, .slice (some ⟨b + 1, 0, none⟩) d.nF d.nF, .slice (some ⟨b + 2, 0, none⟩) d.nO d.nO, .slice (some ⟨b + 3, 0, none⟩) d.nW d.nW]

end Go.Proofs.YtachkoledebanabGreatDoor

namespace Go.Proofs.YtachkoledebanabGreatDoor
open Go.RowKit

structure OkSizes (d : RD) : Prop where
  nN : d.nN ≤ 60
  nF : d.nF = d.nN
  nO : d.nO = d.nN
  nW : d.nW = d.nN
def OkWay (d : RD) (i : Nat) : Prop := (-1 ≤ d.nx i ∧ d.nx i < d.nN) ∧ 0 ≤ d.fr i ∧ d.fr i ≤ 1000000
def OkWays (d : RD) : Prop := ∀ i, i < d.nN → OkWay d i
def OkLamps (d : RD) : Prop := ∀ i, i < d.nW → d.L i = 4

/-- what RowOk answers -/
def IsOk (d : RD) (r : Int) : Prop := (¬ OkSizes d ∧ r = 1) ∨ (OkSizes d ∧ ¬ OkWays d ∧ r = 2) ∨ (OkSizes d ∧ OkWays d ∧ ¬ OkLamps d ∧ r = 3) ∨ (OkSizes d ∧ OkWays d ∧ OkLamps d ∧ r = 0)
theorem IsOk.sizes {d : RD} (h : ¬ OkSizes d) : IsOk d 1 := Or.inl ⟨h, rfl⟩
theorem IsOk.ways {d : RD} (h : OkSizes d) (h2 : ¬ OkWays d) : IsOk d 2 := Or.inr (Or.inl ⟨h, h2, rfl⟩)
theorem IsOk.lamps {d : RD} (h : OkSizes d) (h2 : OkWays d) (h3 : ¬ OkLamps d) : IsOk d 3 := Or.inr (Or.inr (Or.inl ⟨h, h2, h3, rfl⟩))
theorem IsOk.right {d : RD} (h : OkSizes d) (h2 : OkWays d) (h3 : OkLamps d) : IsOk d 0 := Or.inr (Or.inr (Or.inr ⟨h, h2, h3, rfl⟩))

theorem IsOk.one {d : RD} {r s : Int} (h : IsOk d r) (k : IsOk d s) : r = s := by
  rcases h with ⟨a, rfl⟩ | ⟨a, b, rfl⟩ | ⟨a, b, c, rfl⟩ | ⟨a, b, c, rfl⟩ <;> rcases k with ⟨a', rfl⟩ | ⟨a', b', rfl⟩ | ⟨a', b', c', rfl⟩ | ⟨a', b', c', rfl⟩ <;> first | rfl | contradiction

set_option maxHeartbeats 1000000 in
theorem specRowOk_any (a1 a2 a3 a4 : Option Addr) (c1 c2 c3 c4 : Nat) (A : Nat → Option Addr) (C : Nat → Nat) (d : RD) (w : World) (hs : Small d) (h : RowAt w a1 a2 a3 a4 A C d) :
    Calls Tryz.prog 13 #[.agg #[.slice a1 d.nN c1, .slice a2 d.nF c2, .slice a3 d.nO c3, .slice a4 d.nW c4]] w fun e w' =>
      (∃ r, e = .returned (.int .i64 r) ∧ IsOk d r) ∧ Below w.heap.size w w' := by
  obtain ⟨s1, s2, s3, s4, _⟩ := hs
  have bel : Below w.heap.size w (w.alloc (.cells #[.slice a1 d.nN c1, .slice a2 d.nF c2, .slice a3 d.nO c3, .slice a4 d.nW c4] 26)) := (Below.refl _ _).alloc (Nat.le_refl _) _
  have hk := h.keep bel
  clear h
  by_cases h1 : d.nN ≤ 60
  case neg =>
    go_enter Tryz.func13, Tryz.ntmps13
    go_wp2
    go_ret
    exact ⟨⟨1, rfl, .sizes fun k => h1 k.nN⟩, bel⟩
  by_cases h2 : d.nF = d.nN
  case neg =>
    have g2 : ((d.nF : Int) != (d.nN : Int)) = true := by rw [bne_iff_ne]; omega
    go_enter Tryz.func13, Tryz.ntmps13
    go_wp2
    go_ret
    exact ⟨⟨1, rfl, .sizes fun k => h2 k.nF⟩, bel⟩
  have g2 : ((d.nF : Int) != (d.nN : Int)) = false := by rw [bne_eq_false_iff_eq]; omega
  by_cases h3 : d.nO = d.nN
  case neg =>
    have g3 : ((d.nO : Int) != (d.nN : Int)) = true := by rw [bne_iff_ne]; omega
    clear h2
    go_enter Tryz.func13, Tryz.ntmps13
    go_wp2
    go_ret
    exact ⟨⟨1, rfl, .sizes fun k => h3 k.nO⟩, bel⟩
  have g3 : ((d.nO : Int) != (d.nN : Int)) = false := by rw [bne_eq_false_iff_eq]; omega
  by_cases h4 : d.nW = d.nN
  case neg =>
    have g4 : ((d.nW : Int) != (d.nN : Int)) = true := by rw [bne_iff_ne]; omega
    clear h2 h3
    go_enter Tryz.func13, Tryz.ntmps13
    go_wp2
    go_ret
    exact ⟨⟨1, rfl, .sizes fun k => h4 k.nW⟩, bel⟩
  have g4 : ((d.nW : Int) != (d.nN : Int)) = false := by rw [bne_eq_false_iff_eq]; omega
  have hok : Hid (OkSizes d) := ⟨h1, h2, h3, h4⟩
  have H2 : Hid (d.nF = d.nN) := h2
  have H4 : Hid (d.nW = d.nN) := h4
  clear h2 h3 h4
  have g1 : decide ((60 : Int) < (d.nN : Int)) = false := by simp; omega
  go_enter Tryz.func13, Tryz.ntmps13
  go_wp2
  go_loop [37] (fun i => ∃ k : Nat, k ≤ d.nN ∧ i = .int .i64 k ∧ ∀ j, j < k → OkWay d j) (fun i => d.nN - (intOf i).toNat)
  case atStart => exact ⟨0, Nat.zero_le _, rfl, fun j hj => absurd hj (Nat.not_lt_zero _)⟩
  case round =>
    obtain ⟨k, hkn, rfl, hall⟩ := hrel
    have HA : Hid (∀ j, j < k → OkWay d j) := hall
    clear hall
    by_cases hlt : k < d.nN
    · obtain ⟨b, o, rfl, hc⟩ := hk.nx k hlt
      obtain ⟨b', o', rfl, hc'⟩ := hk.fr k (by rw [H2.out]; exact hlt)
      have hlF : k < d.nF := by rw [H2.out]; exact hlt
      clear hk
      by_cases q1 : -1 ≤ d.nx k ∧ d.nx k < d.nN
      · obtain ⟨q2, q3⟩ := q1
        by_cases q4 : 0 ≤ d.fr k ∧ d.fr k ≤ 1000000
        · obtain ⟨q5, q6⟩ := q4
          go_wp2
          go_round
          case rel => exact ⟨k + 1, by omega, by go_num, fun j hj => by
            by_cases e : j = k
            · subst e; exact ⟨⟨q2, q3⟩, q5, q6⟩
            · exact HA.out j (by omega)⟩
          case measure => simp [intOf]; omega
        · have hbad : Hid (IsOk d 2) := .ways hok.out fun u => q4 (u k hlt).2
          have q5 : d.fr k < 0 ∨ 1000000 < d.fr k := by omega
          clear q4
          rcases q5 with q5 | q5
          · go_wp2
            go_ret
            exact ⟨⟨2, rfl, hbad.out⟩, bel⟩
          · have z : decide (d.fr k ≤ 1000000) = false := by simp; omega
            go_wp2
            go_ret
            exact ⟨⟨2, rfl, hbad.out⟩, bel⟩
      · have hbad : Hid (IsOk d 2) := .ways hok.out fun u => q1 (u k hlt).1
        have q5 : d.nx k < -1 ∨ (d.nN : Int) ≤ d.nx k := by omega
        clear q1
        rcases q5 with q5 | q5
        · go_wp2
          go_ret
          exact ⟨⟨2, rfl, hbad.out⟩, bel⟩
        · go_wp2
          go_ret
          exact ⟨⟨2, rfl, hbad.out⟩, bel⟩
    · have hways : Hid (OkWays d) := fun j hj => HA.out j (by omega)
      clear HA
      go_wp2
      go_loop [60] (fun i => ∃ k : Nat, k ≤ d.nW ∧ i = .int .i64 k ∧ ∀ j, j < k → d.L j = 4) (fun i => d.nW - (intOf i).toNat)
      case atStart => exact ⟨0, Nat.zero_le _, rfl, fun j hj => absurd hj (Nat.not_lt_zero _)⟩
      case round =>
        obtain ⟨k, hkn, rfl, hall⟩ := hrel
        have HA : Hid (∀ j, j < k → d.L j = 4) := hall
        clear hall
        by_cases hlt : k < d.nW
        · obtain ⟨b, o, rfl, hc⟩ := hk.wk k hlt
          clear hk
          by_cases q : d.L k = 4
          · have q1 : ((d.L k : Int) != 4) = false := by rw [bne_eq_false_iff_eq]; omega
            have HQ : Hid (d.L k = 4) := q
            clear q
            go_wp2
            go_round
            case rel => exact ⟨k + 1, by omega, by go_num, fun j hj => by
              by_cases e : j = k
              · subst e; exact HQ.out
              · exact HA.out j (by omega)⟩
            case measure => simp [intOf]; omega
          · have q1 : ((d.L k : Int) != 4) = true := by rw [bne_iff_ne]; omega
            have hbad : Hid (IsOk d 3) := .lamps hok.out hways.out fun u => q (u k hlt)
            go_wp2
            go_ret
            exact ⟨⟨3, rfl, hbad.out⟩, bel⟩
        · have hbad : Hid (IsOk d 0) := .right hok.out hways.out fun j hj => HA.out j (by omega)
          go_wp2
          go_ret
          exact ⟨⟨0, rfl, hbad.out⟩, bel⟩

end Go.Proofs.YtachkoledebanabGreatDoor

namespace Go.Proofs.YtachkoledebanabGreatDoor
open Go.RowKit

/-- of what was there, the blocks from lo to hi alone may have turned -/
structure Only (lo hi : Nat) (w w' : World) : Prop where
  os : w'.os = w.os
  tape : w'.tape = w.tape
  output : w'.output = w.output
  size : w.heap.size ≤ w'.heap.size
  block : ∀ k, k < w.heap.size → (k < lo ∨ hi ≤ k) → w'.heap[k]? = w.heap[k]?

theorem Only.refl (lo hi : Nat) (w : World) : Only lo hi w w := ⟨rfl, rfl, rfl, Nat.le_refl _, fun _ _ _ => rfl⟩
theorem Only.trans {lo hi : Nat} {a b c : World} (h : Only lo hi a b) (k : Only lo hi b c) : Only lo hi a c :=
  ⟨k.os.trans h.os, k.tape.trans h.tape, k.output.trans h.output, Nat.le_trans h.size k.size, fun i hi' ho => (k.block i (Nat.lt_of_lt_of_le hi' h.size) ho).trans (h.block i hi' ho)⟩
theorem Only.wide {lo hi lo' hi' : Nat} {w w' : World} (h : Only lo hi w w') (h1 : lo' ≤ lo) (h2 : hi ≤ hi') : Only lo' hi' w w' :=
  ⟨h.os, h.tape, h.output, h.size, fun k hk ho => h.block k hk (by omega)⟩
theorem Only.ofBelow {lo hi : Nat} {w w' : World} (h : Below w.heap.size w w') : Only lo hi w w' :=
  ⟨h.os, h.tape, h.output, h.size, fun k hk _ => h.block k hk⟩
theorem Only.below {lo hi B : Nat} {w w' : World} (h : Only lo hi w w') (h1 : B ≤ lo) (h2 : B ≤ w.heap.size) : Below B w w' :=
  ⟨h.os, h.tape, h.output, h.size, fun k hk => h.block k (by omega) (Or.inl (by omega))⟩
theorem Only.setCell {lo hi : Nat} {a w : World} (h : Only lo hi a w) {p : Addr} (h1 : lo ≤ p.block) (h2 : p.block < hi) (v : Value) : Only lo hi a (w.setCell p v) :=
  h.trans ⟨rfl, rfl, rfl, by simp, fun k _ ho => Below.heap_setCell _ _ _ _ (by omega)⟩
theorem Only.cell {lo hi : Nat} {w w' : World} (h : Only lo hi w w') {p : Addr} (hp : p.block < lo ∨ hi ≤ p.block) {v : Value} (hc : w.cell? p = some v) : w'.cell? p = some v :=
  (World.cell?_of_block (w := w) (h.block p.block (block_lt_of_cell hc) hp)).trans hc
theorem Only.frozen {lo hi : Nat} {w w' : World} (h : Only lo hi w w') {p : Addr} (hp : p.block < lo ∨ hi ≤ p.block) (hs : p.block < w.heap.size) : w'.frozen? p = w.frozen? p :=
  World.frozen?_of_block (w := w) (h.block p.block hs hp)
theorem Only.rowIs {lo hi b t n : Nat} {f : Nat → Value} {w w' : World} (h : Only lo hi w w') (hr : w.rowIs b t n f) (hp : b < lo ∨ hi ≤ b) : w'.rowIs b t n f := hr.of_block (h.block b hr.lt hp)
theorem Only.blk {lo hi b t : Nat} {c : Array Value} {w w' : World} (h : Only lo hi w w') (hr : Blk w b c t) (hp : b < lo ∨ hi ≤ b) : Blk w' b c t := (h.block b hr.lt hp).trans hr

/-- the slice lies in a block from lo to hi, not frozen, its cells f 0, f 1, .. -/
def OwnS (w : World) (lo hi : Nat) (ao : Option Addr) (n : Nat) (f : Nat → Value) : Prop :=
  ∀ k, k < n → ∃ b, ao = some ⟨b, 0, none⟩ ∧ lo ≤ b ∧ b < hi ∧ w.cell? ⟨b, k, none⟩ = some (f k) ∧ w.frozen? ⟨b, k, none⟩ = false

theorem OwnS.sl {w : World} {lo hi n : Nat} {ao : Option Addr} {f : Nat → Value} (h : OwnS w lo hi ao n f) : SlAt w ao n f := fun k hk => by
  obtain ⟨b, e, _, _, hc, _⟩ := h k hk
  exact ⟨b, 0, e, by rw [Nat.zero_add]; exact hc⟩
theorem OwnS.only {w w' : World} {lo hi lo' hi' n : Nat} {ao : Option Addr} {f : Nat → Value} (h : OwnS w lo hi ao n f) (ho : Only lo' hi' w w') (hd : hi ≤ lo' ∨ hi' ≤ lo) : OwnS w' lo hi ao n f := fun k hk => by
  obtain ⟨b, e, h1, h2, hc, hf⟩ := h k hk
  exact ⟨b, e, h1, h2, ho.cell (p := ⟨b, k, none⟩) (by show b < lo' ∨ hi' ≤ b; omega) hc, (ho.frozen (p := ⟨b, k, none⟩) (by show b < lo' ∨ hi' ≤ b; omega) (block_lt_of_cell hc)).trans hf⟩
theorem OwnS.keep {w w' : World} {lo hi n : Nat} {ao : Option Addr} {f : Nat → Value} (h : OwnS w lo hi ao n f) (hb : Below w.heap.size w w') : OwnS w' lo hi ao n f :=
  h.only (lo' := hi) (hi' := hi) (.ofBelow hb) (Or.inl (Nat.le_refl _))
theorem OwnS.ofRow {w : World} {lo hi b t n : Nat} {f : Nat → Value} (h : w.rowIs b t n f) (h1 : lo ≤ b) (h2 : b < hi) : OwnS w lo hi (some ⟨b, 0, none⟩) n f := fun k hk => ⟨b, rfl, h1, h2, h.cell hk, h.frozen k⟩
theorem OwnS.wide {w : World} {lo hi lo' hi' n : Nat} {ao : Option Addr} {f : Nat → Value} (h : OwnS w lo hi ao n f) (h1 : lo' ≤ lo) (h2 : hi ≤ hi') : OwnS w lo' hi' ao n f := fun k hk => by
  obtain ⟨b, e, q1, q2, hc, hf⟩ := h k hk
  exact ⟨b, e, by omega, by omega, hc, hf⟩
theorem OwnS.congr {w : World} {lo hi n : Nat} {ao : Option Addr} {f g : Nat → Value} (h : OwnS w lo hi ao n f) (e : ∀ k, k < n → f k = g k) : OwnS w lo hi ao n g := fun k hk => by
  obtain ⟨b, ea, q1, q2, hc, hf⟩ := h k hk
  exact ⟨b, ea, q1, q2, by rw [hc, e k hk], hf⟩
/-- a store into one of its cells -/
theorem OwnS.store {w : World} {lo hi n b k : Nat} {f : Nat → Value} (h : OwnS w lo hi (some ⟨b, 0, none⟩) n f) (v : Value) : OwnS (w.setCell ⟨b, k, none⟩ v) lo hi (some ⟨b, 0, none⟩) n (fun j => if j = k then v else f j) := fun j hj => by
  obtain ⟨b', e, q1, q2, hc, hf⟩ := h j hj
  obtain rfl : b = b' := by simpa using e
  refine ⟨b, rfl, q1, q2, ?_, ?_⟩
  · show _ = some (if j = k then v else f j)
    by_cases ej : j = k
    · subst ej
      rw [if_pos rfl]
      exact World.cell?_setCell_same _ _ _ hc
    · rw [if_neg ej]
      exact (World.cell?_setCell_other w ⟨b, k, none⟩ ⟨b, j, none⟩ v (fun e => ej (by cases e; rfl))).trans hc
  · rw [World.frozen?_setCell]
    exact hf

set_option maxHeartbeats 400000 in
theorem markIntS_any (ao : Option Addr) (n cap lo hi : Nat) (f : Nat → Int) (k0 : Int) (w : World) (hn : n ≤ 1048576) (hk0 : 0 ≤ k0) (hk1 : k0 ≤ 4611686018427387904) (h : OwnS w lo hi ao n (fun k => .int .i64 (f k))) :
    Calls Tryz.prog 43 #[.slice ao n cap, .int .i64 k0] w fun e w' => e = .returned (.int .i64 (k0 + n)) ∧ OwnS w' lo hi ao n (fun j => .int .i64 (k0 + j)) ∧ Only lo hi w w' ∧ w'.heap.size = w.heap.size := by
  go_enter Tryz.func43, Tryz.ntmps43
  go_wp2
  go_loopw [1, 5] (fun q i wr => ∃ k : Nat, k ≤ n ∧ i = .int .i64 k ∧ q = .int .i64 (k0 + k) ∧ OwnS wr lo hi ao n (fun j => if j < k then .int .i64 (k0 + j) else .int .i64 (f j)) ∧ Only lo hi w wr ∧ wr.heap.size = w.heap.size) (fun _ i _ => n - (intOf i).toNat)
  case atStart => exact ⟨0, Nat.zero_le _, rfl, by simp, h.congr (fun j _ => by simp), .refl _ _ _, rfl⟩
  case round =>
    obtain ⟨k, hk, rfl, rfl, ho, hon, hsz⟩ := hrel
    by_cases hlt : k < n
    · obtain ⟨b, rfl, q1, q2, hc, hf⟩ := ho k hlt
      have HR : Hid (OwnS (wr.setCell ⟨b, k, none⟩ (.int .i64 (k0 + k))) lo hi (some ⟨b, 0, none⟩) n (fun j => if j < k + 1 then .int .i64 (k0 + j) else .int .i64 (f j))) :=
        (ho.store (k := k) (.int .i64 (k0 + k))).congr (fun j _ => by
          by_cases e : j = k
          · subst e; simp
          · by_cases g : j < k
            · rw [if_neg e, if_pos g, if_pos (by omega)]
            · rw [if_neg e, if_neg g, if_neg (by omega)])
      have HO : Hid (Only lo hi w (wr.setCell ⟨b, k, none⟩ (.int .i64 (k0 + k)))) := hon.setCell q1 q2 _
      have HS : Hid (wr.heap.size = w.heap.size) := hsz
      clear ho hon hsz h
      go_wp2
      go_roundw
      case rel => exact ⟨k + 1, by omega, by go_num, by go_num, HR.out, HO.out, by simpa using HS.out⟩
      case measure => simp [intOf]; omega
    · obtain rfl : k = n := by omega
      have HR : Hid (OwnS wr lo hi ao k (fun j => .int .i64 (k0 + j))) := ho.congr (fun j hj => by rw [if_pos hj])
      clear ho h
      go_wp2
      go_ret
      exact ⟨rfl, HR.out, hon, hsz⟩

set_option maxHeartbeats 400000 in
theorem markBoolS_any (ao : Option Addr) (n cap lo hi : Nat) (f : Nat → Bool) (k0 : Int) (w : World) (hn : n ≤ 1048576) (hk0 : 0 ≤ k0) (hk1 : k0 ≤ 4611686018427387904) (h : OwnS w lo hi ao n (fun k => .bool (f k))) :
    Calls Tryz.prog 44 #[.slice ao n cap, .int .i64 k0] w fun e w' => e = .returned (.int .i64 (k0 + n)) ∧ OwnS w' lo hi ao n (fun j => .bool ((k0 + j) % 3 == 0)) ∧ Only lo hi w w' ∧ w'.heap.size = w.heap.size := by
  go_enter Tryz.func44, Tryz.ntmps44
  go_wp2
  go_loopw [1, 5] (fun q i wr => ∃ k : Nat, k ≤ n ∧ i = .int .i64 k ∧ q = .int .i64 (k0 + k) ∧ OwnS wr lo hi ao n (fun j => if j < k then .bool ((k0 + j) % 3 == 0) else .bool (f j)) ∧ Only lo hi w wr ∧ wr.heap.size = w.heap.size) (fun _ i _ => n - (intOf i).toNat)
  case atStart => exact ⟨0, Nat.zero_le _, rfl, by simp, h.congr (fun j _ => by simp), .refl _ _ _, rfl⟩
  case round =>
    obtain ⟨k, hk, rfl, rfl, ho, hon, hsz⟩ := hrel
    by_cases hlt : k < n
    · obtain ⟨b, rfl, q1, q2, hc, hf⟩ := ho k hlt
      have HR : Hid (OwnS (wr.setCell ⟨b, k, none⟩ (.bool ((k0 + k) % 3 == 0))) lo hi (some ⟨b, 0, none⟩) n (fun j => if j < k + 1 then .bool ((k0 + j) % 3 == 0) else .bool (f j))) :=
        (ho.store (k := k) (.bool ((k0 + k) % 3 == 0))).congr (fun j _ => by
          by_cases e : j = k
          · subst e; simp
          · by_cases g : j < k
            · rw [if_neg e, if_pos g, if_pos (by omega)]
            · rw [if_neg e, if_neg g, if_neg (by omega)])
      have HO : Hid (Only lo hi w (wr.setCell ⟨b, k, none⟩ (.bool ((k0 + k) % 3 == 0)))) := hon.setCell q1 q2 _
      have HS : Hid (wr.heap.size = w.heap.size) := hsz
      clear ho hon hsz h
      go_wp2
      go_roundw
      case rel => exact ⟨k + 1, by omega, by go_num, by go_num, HR.out, HO.out, by simpa using HS.out⟩
      case measure => simp [intOf]; omega
    · obtain rfl : k = n := by omega
      have HR : Hid (OwnS wr lo hi ao k (fun j => .bool ((k0 + j) % 3 == 0))) := ho.congr (fun j hj => by rw [if_pos hj])
      clear ho h
      go_wp2
      go_ret
      exact ⟨rfl, HR.out, hon, hsz⟩

set_option maxHeartbeats 400000 in
theorem markBoolSS_own (n b : Nat) (L : Nat → Nat) (g : Nat → Nat → Bool) (k0 : Int) (w : World) (hn : n ≤ 1048576) (hL : ∀ i, i < n → L i ≤ 1048576) (hk0 : 0 ≤ k0) (hk1 : k0 ≤ 4194304)
    (h : w.rowIs b 23 n (fun k => .slice (some ⟨b + 1 + k, 0, none⟩) (L k) (L k))) (hr : ∀ i, i < n → w.rowIs (b + 1 + i) 4 (L i) (fun j => .bool (g i j))) :
    Calls Tryz.prog 45 #[.slice (some ⟨b, 0, none⟩) n n, .int .i64 k0] w fun e w' => (∃ r : Int, e = .returned (.int .i64 r) ∧ 0 ≤ r) ∧ Only (b + 1) (b + 1 + n) w w' ∧ w'.heap.size = w.heap.size := by
  go_enter Tryz.func45, Tryz.ntmps45
  go_wp2
  go_loopw [1, 5] (fun q i wr => ∃ (k : Nat) (r : Int), k ≤ n ∧ i = .int .i64 k ∧ q = .int .i64 r ∧ 0 ≤ r ∧ r ≤ k0 + 1048576 * k ∧ Only (b + 1) (b + 1 + k) w wr ∧ wr.heap.size = w.heap.size) (fun _ i _ => n - (intOf i).toNat)
  case atStart => exact ⟨0, k0, Nat.zero_le _, rfl, rfl, hk0, by omega, .refl _ _ _, rfl⟩
  case round =>
    obtain ⟨k, r, hk, rfl, rfl, hr0, hr1, hon, hsz⟩ := hrel
    by_cases hlt : k < n
    · have hc := (hon.rowIs h (Or.inl (by omega))).cell hlt
      have hin := OwnS.ofRow (lo := b + 1 + k) (hi := b + 1 + k + 1) (hon.rowIs (hr k hlt) (Or.inr (by omega))) (Nat.le_refl _) (by omega)
      have hLk := hL k hlt
      clear h hr hL
      go_wp2_with fail
      refine (markBoolS_any (some ⟨b + 1 + k, 0, none⟩) (L k) (L k) (b + 1 + k) (b + 1 + k + 1) (g k) r wr hLk hr0 (by omega) hin).mono ?_
      rintro e w1 ⟨rfl, -, ho1, hs1⟩
      have HO : Hid (Only (b + 1) (b + 1 + (k + 1)) w w1) := (hon.wide (Nat.le_refl _) (by omega)).trans (ho1.wide (by omega) (by omega))
      have HS : Hid (w1.heap.size = w.heap.size) := hs1.trans hsz
      clear hon hsz hin hc ho1 hs1
      go_wp2
      go_roundw
      case rel => exact ⟨k + 1, _, by omega, by go_num, rfl, by omega, by omega, HO.out, HS.out⟩
      case measure => simp [intOf]; omega
    · obtain rfl : k = n := by omega
      clear h hr hL
      go_wp2
      go_ret
      exact ⟨⟨r, rfl, hr0⟩, hon, hsz⟩

set_option maxHeartbeats 1000000 in
theorem markRow_own (b : Nat) (d : RD) (k0 : Int) (w : World) (hs : Small d) (hk0 : 0 ≤ k0) (hk1 : k0 ≤ 1048576) (h : RowOwn w b d) :
    Calls Tryz.prog 18 #[.agg #[.slice (some ⟨b, 0, none⟩) d.nN d.nN, .slice (some ⟨b + 1, 0, none⟩) d.nF d.nF, .slice (some ⟨b + 2, 0, none⟩) d.nO d.nO, .slice (some ⟨b + 3, 0, none⟩) d.nW d.nW], .int .i64 k0] w fun e w' =>
      (∃ r : Int, e = .returned (.int .i64 r) ∧ 0 ≤ r) ∧ Only b (b + 4 + d.nW) w w' := by
  obtain ⟨s1, s2, s3, s4, s5⟩ := hs
  have hbk := Blk.new w #[.slice (some ⟨b, 0, none⟩) d.nN d.nN, .slice (some ⟨b + 1, 0, none⟩) d.nF d.nF, .slice (some ⟨b + 2, 0, none⟩) d.nO d.nO, .slice (some ⟨b + 3, 0, none⟩) d.nW d.nW] 26
  have hal : Only b (b + 4 + d.nW) w (w.alloc (.cells #[.slice (some ⟨b, 0, none⟩) d.nN d.nN, .slice (some ⟨b + 1, 0, none⟩) d.nF d.nF, .slice (some ⟨b + 2, 0, none⟩) d.nO d.nO, .slice (some ⟨b + 3, 0, none⟩) d.nW d.nW] 26)) := .ofBelow ((Below.refl _ _).alloc (Nat.le_refl _) _)
  have hlt : b + 4 + d.nW ≤ w.heap.size := by
    by_cases e : d.nW = 0
    · have := h.wk.lt; omega
    · have := (h.lm (d.nW - 1) (by omega)).lt; omega
  have hin : RowOwn (w.alloc (.cells #[.slice (some ⟨b, 0, none⟩) d.nN d.nN, .slice (some ⟨b + 1, 0, none⟩) d.nF d.nF, .slice (some ⟨b + 2, 0, none⟩) d.nO d.nO, .slice (some ⟨b + 3, 0, none⟩) d.nW d.nW] 26)) b d := h.keep ((Below.refl w.heap.size w).alloc (Nat.le_refl _) _) hlt
  clear h
  go_enter Tryz.func18, Tryz.ntmps18
  go_wp2_with fail
  generalize (w.alloc (.cells #[.slice (some ⟨b, 0, none⟩) d.nN d.nN, .slice (some ⟨b + 1, 0, none⟩) d.nF d.nF, .slice (some ⟨b + 2, 0, none⟩) d.nO d.nO, .slice (some ⟨b + 3, 0, none⟩) d.nW d.nW] 26)) = W at *
  refine (markIntS_any (some ⟨b, 0, none⟩) d.nN d.nN b (b + 1) d.nx k0 W s1 hk0 (by omega) (.ofRow hin.nx (Nat.le_refl _) (by omega))).mono ?_
  rintro e w1 ⟨rfl, -, o1, -⟩
  have hb1 := o1.blk hbk (Or.inr (by omega))
  have h2 := OwnS.ofRow (lo := b + 1) (hi := b + 2) (o1.rowIs hin.fr (Or.inr (by omega))) (Nat.le_refl _) (by omega)
  have h3 := o1.rowIs hin.op (Or.inr (by omega))
  have h4 := o1.rowIs hin.wk (Or.inr (by omega))
  have h5 : ∀ i, i < d.nW → w1.rowIs (b + 4 + i) _ _ _ := fun i hi => o1.rowIs (hin.lm i hi) (Or.inr (by omega))
  have O1 := hal.trans (o1.wide (Nat.le_refl _) (by omega))
  have c1 := hb1.cell 1
  simp at c1
  clear hbk hin o1 hal
  go_wp2_with fail
  refine (markIntS_any (some ⟨b + 1, 0, none⟩) d.nF d.nF (b + 1) (b + 2) d.fr _ w1 s2 (by omega) (by omega) h2).mono ?_
  rintro e w2 ⟨rfl, -, o2, -⟩
  have hb2 := o2.blk hb1 (Or.inr (by omega))
  have h3' := OwnS.ofRow (lo := b + 2) (hi := b + 3) (o2.rowIs h3 (Or.inr (by omega))) (Nat.le_refl _) (by omega)
  have h4' := o2.rowIs h4 (Or.inr (by omega))
  have h5' : ∀ i, i < d.nW → w2.rowIs (b + 4 + i) _ _ _ := fun i hi => o2.rowIs (h5 i hi) (Or.inr (by omega))
  have O2 := O1.trans (o2.wide (by omega) (by omega))
  have c2 := hb2.cell 2
  simp at c2
  clear hb1 o2 O1 c1 h2 h3 h4 h5
  go_wp2_with fail
  refine (markBoolS_any (some ⟨b + 2, 0, none⟩) d.nO d.nO (b + 2) (b + 3) d.op _ w2 s3 (by omega) (by omega) h3').mono ?_
  rintro e w3 ⟨rfl, -, o3, -⟩
  have hb3 := o3.blk hb2 (Or.inr (by omega))
  have h4 := o3.rowIs h4' (Or.inr (by omega))
  have h5 : ∀ i, i < d.nW → w3.rowIs (b + 3 + 1 + i) _ _ _ := fun i hi => o3.rowIs (h5' i hi) (Or.inr (by omega))
  have O3 := O2.trans (o3.wide (by omega) (by omega))
  have c3 := hb3.cell 3
  simp at c3
  clear hb2 o3 O2 c2 h3' h4' h5'
  go_wp2_with fail
  refine (markBoolSS_own d.nW (b + 3) d.L d.wk _ w3 s4 s5 (by omega) (by omega) (h4.congr fun i _ => by rw [show b + 4 + i = b + 3 + 1 + i by omega]) h5).mono ?_
  rintro e w4 ⟨⟨r, rfl, hr⟩, o4, -⟩
  have O4 := O3.trans (o4.wide (by omega) (by omega))
  clear hb3 o4 O3 c3 h4 h5 s5
  go_wp2
  go_ret
  exact ⟨⟨r, rfl, hr⟩, O4⟩

end Go.Proofs.YtachkoledebanabGreatDoor

namespace Go.Proofs.YtachkoledebanabGreatDoor
open Go.RowKit

structure Right (d : RD) : Prop where
  s : OkSizes d
  w : OkWays d
  l : OkLamps d
theorem IsOk.zero {d : RD} {r : Int} (h : IsOk d r) (k : Right d) : r = 0 := h.one (.right k.s k.w k.l)
theorem IsOk.rt {d : RD} (h : IsOk d 0) : Right d := by
  rcases h with ⟨_, e⟩ | ⟨_, _, e⟩ | ⟨_, _, _, e⟩ | ⟨a, b, c, _⟩
  · omega
  · omega
  · omega
  · exact ⟨a, b, c⟩

/-- the call returns the list xs, in new memory -/
def RetInts (e : Ending) (lo : Nat) (w' : World) (xs : List Int) : Prop :=
  ∃ ao cap, e = .returned (.slice ao xs.length cap) ∧ OwnS w' lo w'.heap.size ao xs.length (fun k => .int .i64 (xs.getD k 0))

theorem RetInts.ofOwns {e : Ending} {w' : World} {lo : Nat} {v : Value} {xs : List Int} (he : e = .returned v) (h : w'.ownsRow lo 3 1 v xs.length (xs.map (Value.int .i64))) : RetInts e lo w' xs := by
  obtain ⟨h1, ⟨hv, hn⟩ | ⟨g, cap, cur, hv, hg, hh, hcap, _, hcs, htk⟩⟩ := h
  · refine ⟨none, 0, by rw [he, hv, hn], fun k hk => absurd hk (by omega)⟩
  · refine ⟨some ⟨g, 0, none⟩, cap, by rw [he, hv], fun k hk => ⟨g, rfl, hg, (Array.getElem?_eq_some_iff.1 hh).1, ?_, ?_⟩⟩
    · have e1 : cur.toList[k]? = (xs.map (Value.int .i64))[k]? := by
        rw [← htk, List.getElem?_take, if_pos (by omega)]
      simp only [World.cell?, hh]
      simp only [Array.getElem?_toList] at e1
      simp only [Option.isSome_none, Bool.false_eq_true, if_false]
      rw [e1]
      simp [hk]
    · simp [World.frozen?, hh]

theorem RetInts.wide {e : Ending} {w' : World} {lo lo' : Nat} {xs : List Int} (h : RetInts e lo w' xs) (hl : lo' ≤ lo) : RetInts e lo' w' xs := by
  obtain ⟨ao, cap, he, ho⟩ := h
  exact ⟨ao, cap, he, ho.wide hl (Nat.le_refl _)⟩

theorem RetInts.nil {e : Ending} {w' : World} {lo : Nat} (he : e = .returned (.slice none 0 0)) : RetInts e lo w' [] :=
  ⟨none, 0, he, fun _ hk => absurd hk (Nat.not_lt_zero _)⟩

/-- behind an append onto what the call itself has made -/
theorem app_below {B e size n : Nat} {w wr w2 : World} {v : Value} {xs : List Value} {o : Obj} (hb : Below B w wr) (hB : B ≤ wr.heap.size) (hown : wr.ownsRow B e size v n xs) (hg : (wr.alloc o).grownBy w2 v.ownBlock) : Below B w w2 :=
  (hb.alloc hB o).grown hg (by simp; omega) (fun j hj => (hown.lt j hj).1)

theorem own_form {w : World} {lo : Nat} {v : Value} {xs : List Int} (h : w.ownsRow lo 3 1 v xs.length (xs.map (Value.int .i64))) : ∃ ao cap, v = .slice ao xs.length cap ∧ SlAt w ao xs.length (fun k => .int .i64 (xs.getD k 0)) := by
  obtain ⟨ao, cap, he, ho⟩ := RetInts.ofOwns (e := .returned v) rfl h
  exact ⟨ao, cap, by injection he, ho.sl⟩

/-- a slice's length -/
def lenOf : Value → Nat | .slice _ n _ => n | _ => 0
theorem lenOf_owns {w : World} {base e size n : Nat} {v : Value} {xs : List Value} (h : w.ownsRow base e size v n xs) : lenOf v = n := by
  rcases h.2 with ⟨rfl, rfl⟩ | ⟨g, cap, cur, rfl, _⟩ <;> rfl

/-- the first j of f, as a list -/
def lst (f : Nat → Int) (j : Nat) : List Int := (List.range j).map f
theorem lst_len (f : Nat → Int) (j : Nat) : (lst f j).length = j := by simp [lst]
theorem lst_snoc (f : Nat → Int) (j : Nat) : lst f (j + 1) = lst f j ++ [f j] := by simp [lst, List.range_succ]
theorem lst_get (f : Nat → Int) (j k : Nat) (h : k < j) : (lst f j).getD k 0 = f k := by simp [lst, h]

theorem own_lst {w : World} {lo j : Nat} {v : Value} {f : Nat → Int} (h : w.ownsRow lo 3 1 v (lst f j).length ((lst f j).map (Value.int .i64))) : ∃ ao cap, v = .slice ao j cap ∧ OwnS w lo w.heap.size ao j (fun k => .int .i64 (f k)) := by
  obtain ⟨ao, cap, he, ho⟩ := RetInts.ofOwns (e := .returned v) rfl h
  rw [lst_len] at he ho
  exact ⟨ao, cap, by injection he, ho.congr fun k hk => by rw [lst_get f j k hk]⟩

theorem lst_congr {f g : Nat → Int} {n : Nat} (h : ∀ i, i < n → f i = g i) : lst f n = lst g n := List.map_congr_left fun i hi => h i (List.mem_range.1 hi)

theorem RetInts.lst {w' : World} {lo n cap : Nat} {ao : Option Addr} {f : Nat → Int} {e : Ending} (he : e = .returned (.slice ao n cap)) (h : OwnS w' lo w'.heap.size ao n (fun k => .int .i64 (f k))) : RetInts e lo w' (lst f n) :=
  ⟨ao, cap, by rw [lst_len]; exact he, by rw [lst_len]; exact h.congr fun k hk => by rw [lst_get f n k hk]⟩

end Go.Proofs.YtachkoledebanabGreatDoor
