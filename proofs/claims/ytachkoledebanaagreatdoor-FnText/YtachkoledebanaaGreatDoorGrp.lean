/-
  behindEach: the program's: a map of lists.
-/
import Derived.Test.YtachkoledebanaaGreatDoorBh
import Derived.Maps.OwnRows
import Derived.Maps.OwnOps
import Derived.Maps.Views
namespace Go.Proofs.YtachkoledebanaaGreatDoor
open Go.RowKit Go.WideMaps Go.Maps
open Go.ChangeShapes (lits)

/-- what the map reads as behind k signals -/
def Dm (d : RD) : Nat → DataW Unit
  | 0 => .map []
  | k + 1 => if d.nx k = -1 then Dm d k else (Dm d k).put (.int .i64 (d.nx k)) (.slice (lits .i64 (bh d (d.nx k) (k + 1))) [])

theorem Dm_map (d : RD) : ∀ k, IsMap (Dm d k)
  | 0 => ⟨[], rfl⟩
  | k + 1 => by
    obtain ⟨es, he⟩ := Dm_map d k
    unfold Dm
    split
    · exact ⟨es, he⟩
    · rw [he]; exact ⟨_, rfl⟩

theorem Dm_at (d : RD) (s : Int) (hs : s ≠ -1) : ∀ k, (Dm d k).atKey (.int .i64 s) .nil = if bh d s k = [] then .nil else .slice (lits .i64 (bh d s k)) []
  | 0 => rfl
  | k + 1 => by
    have ih := Dm_at d s hs k
    unfold Dm
    by_cases h1 : d.nx k = -1
    · rw [if_pos h1, ih, bh_no (by rw [beq_eq_false_iff_ne]; omega)]
    · rw [if_neg h1]
      by_cases h2 : d.nx k = s
      · rw [h2, atKey_put_same (Dm_map d k) (by trivial), bh_yes (by rw [beq_iff_eq]; exact h2), if_neg (by simp)]
      · rw [atKey_put_other (by intro e; exact h2 (by injection e with _ e; exact e.symm)), ih, bh_no (by rw [beq_eq_false_iff_ne]; exact h2)]

/-- what the look-up has found -/
theorem Dm_found {d : RD} {s : Int} {k base e : Nat} {w : World} {v : Value} {zs : List Int} (hs : s ≠ -1) (hat : (Dm d k).atKey (.int .i64 s) .nil = rowDatum .i64 v zs) (ho : w.ownsInts base e .i64 v zs) : zs = bh d s k := by
  rw [Dm_at d s hs k] at hat
  rcases ho.datum (H := Unit) with ⟨h1, h2⟩ | h1
  · rw [h1] at hat
    by_cases hb : bh d s k = []
    · rw [h2, hb]
    · rw [if_neg hb] at hat; cases hat
  · rw [h1] at hat
    by_cases hb : bh d s k = []
    · rw [if_pos hb] at hat; cases hat
    · rw [if_neg hb] at hat
      injection hat with h3
      have inj : ∀ (a b : List Int), lits (H := Unit) .i64 a = lits .i64 b → a = b := by
        intro a
        induction a with
        | nil => intro b hh; cases b with
          | nil => rfl
          | cons x t => simp [lits] at hh
        | cons x t ih => intro b hh; cases b with
          | nil => simp [lits] at hh
          | cons y u =>
            simp only [lits, List.map_cons, List.cons.injEq] at hh
            obtain ⟨h5, h6⟩ := hh
            injection h5 with h5
            injection h5 with _ h5
            rw [h5, ih u h6]
      exact (inj _ _ h3).symm

theorem groups_mono {w : World} {P : Program} {k base e b n m : Nat} {q : IntKind} {D : DataW Unit} (h : w.ownsGroups P k base e q b n D) (hm : n ≤ m) : w.ownsGroups P k base e q b m D := by
  obtain ⟨es, clock, h1, h2, h3, h4, h5, h6, h7⟩ := h
  exact ⟨es, clock, h1, h2, Nat.le_trans h3 hm, h4, h5, fun x hx zs hz => Nat.le_trans (h6 x hx zs hz) hm, h7⟩

theorem lawInt : Keyed Tryz.prog 3 := int_keyed Tryz.underlying3
theorem zeroInts (w : World) : (zeroValue 23).run Tryz.prog w = .ok (.slice none 0 0) w := by kernel_rfl

set_option maxHeartbeats 2000000 in
set_option maxRecDepth 100000 in
theorem behindEach_any (a1 a2 a3 a4 : Option Addr) (c1 c2 c3 c4 : Nat) (A : Nat → Option Addr) (C : Nat → Nat) (d : RD) (w : World) (h : RowAt w a1 a2 a3 a4 A C d) (hR : Right d) :
    Calls Tryz.prog 59 #[.agg #[.slice a1 d.nN c1, .slice a2 d.nF c2, .slice a3 d.nO c3, .slice a4 d.nW c4]] w fun e w' =>
      e = .returned (.map (some (w.heap.size + 1))) ∧ w'.ownsGroups Tryz.prog 3 (w.heap.size + 1 + 1) 3 .i64 (w.heap.size + 1) d.nN (Dm d d.nN) ∧ Below w.heap.size w w' := by
  have hmm := @run_makeMap Tryz.prog
  obtain ⟨i0, hi, hz0, hz1, hz2⟩ := info_parts Tryz.iInt
  have bel : Below w.heap.size w (w.alloc (.cells #[.slice a1 d.nN c1, .slice a2 d.nF c2, .slice a3 d.nO c3, .slice a4 d.nW c4] 27)) := (Below.refl _ _).alloc (Nat.le_refl _) _
  have hnx := (h.keep bel).nx
  have hsz : (w.alloc (.cells #[.slice a1 d.nN c1, .slice a2 d.nF c2, .slice a3 d.nO c3, .slice a4 d.nW c4] 27)).heap.size = w.heap.size + 1 := by simp
  have HR : Hid (Right d) := hR
  have h60 := hR.s.nN
  have h0 : World.ownsGroups (H := Unit) ((w.alloc (.cells #[.slice a1 d.nN c1, .slice a2 d.nF c2, .slice a3 d.nO c3, .slice a4 d.nW c4] 27)).alloc (.map #[] 0)) Tryz.prog 3 (w.heap.size + 1 + 1) 3 .i64 (w.heap.size + 1) 0 (.map []) := by
    have := World.ownsGroups_made (H := Unit) (w.alloc (.cells #[.slice a1 d.nN c1, .slice a2 d.nF c2, .slice a3 d.nO c3, .slice a4 d.nW c4] 27)) Tryz.prog 3 3 .i64
    rwa [hsz] at this
  clear h hR
  go_enter Tryz.func59, Tryz.ntmps59
  go_wp2
  go_loopw [10] (fun i wr => ∃ k : Nat, k ≤ d.nN ∧ i = .int .i64 k ∧ wr.ownsGroups Tryz.prog 3 (w.heap.size + 1 + 1) 3 .i64 (w.heap.size + 1) k (Dm d k) ∧
      Below (w.heap.size + 1) (w.alloc (.cells #[.slice a1 d.nN c1, .slice a2 d.nF c2, .slice a3 d.nO c3, .slice a4 d.nW c4] 27)) wr ∧ w.heap.size + 1 + 1 ≤ wr.heap.size)
    (fun i _ => d.nN - (intOf i).toNat)
  case atStart => exact ⟨0, Nat.zero_le _, rfl, h0, (Below.refl _ _).alloc (by omega) _, by simp⟩
  case round =>
    obtain ⟨k, hkn, rfl, hown, hb, hws⟩ := hrel
    by_cases hlt : k < d.nN
    · obtain ⟨b, o, rfl, hc⟩ := (hnx.below hb (by omega)) k hlt
      have hway := (HR.out.w k hlt).1
      clear hnx h0 bel hsz
      by_cases q : d.nx k = -1
      · have q1 : (d.nx k != -1) = false := by rw [bne_eq_false_iff_eq]; exact q
        have HD : Hid (Dm d (k + 1) = Dm d k) := by show Dm d (k + 1) = Dm d k; unfold Dm; rw [if_pos q]; cases k <;> rfl
        clear q hway
        go_wp2
        go_roundw
        case rel => exact ⟨k + 1, by omega, by go_num, by rw [HD.out]; exact groups_mono hown (Nat.le_succ _), hb, hws⟩
        case measure => simp [intOf]; omega
      · have q1 : (d.nx k != -1) = true := by rw [bne_iff_ne]; exact q
        have hkey : keyOf Tryz.prog 3 (.int .i64 (d.nx k)) = some (.int .i64 (d.nx k)) := keyOf_int_mk Tryz.underlying3 (WalkArith.wf_i64 (by omega))
        go_wp2_with (first
          | (at_lookup; refine wpList_lookup_groups _ rfl _ _ 89 rfl 3 23 3 .i64 lawInt Tryz.underlying89 (zeroInts _) (w.heap.size + 1 + 1) (w.heap.size + 1) k _ rfl hown (by unfold maxLen; omega) _ _ rfl hkey ?_; intro v zs hat hoi hzl hback)
          | (at_builtin; refine wpList_append_own_at _ rfl _ _ 23 rfl (w.heap.size + 1 + 1) 3 i0 (.int .i64 0) 1 8 Tryz.uInts hi hz0 hz1 hz2 rfl (by decide) _ _ _ rfl (hoi.1.alloc _) ⟨wr.heap.size, 0, none⟩ 1 1 [.int .i64 k] rfl rfl (cell_one_new _ _ _) (ints_oneCell .i64 [(k : Int)]) (by unfold maxLen; omega) (by omega) (by simp; omega) ?_; intro v' w1 hown' hgrow hnil hloc)
          | (at_mapUpdate; refine wpList_mapUpdate_back _ rfl _ _ _ 89 rfl hback rfl rfl rfl ((World.grownBy_alloc _ _ _).trans hgrow) (hoi.appended hown' (WalkArith.wf_i64 (by omega))) (by simp; omega) (hloc.imp id (fun h => ⟨_, h, by simp⟩)) ?_; intro w2 hown2 hgrow2))
        have hall := (World.grownBy_alloc wr _ _).trans hgrow
        have hzs := Dm_found q hat hoi
        have HD : Hid (Dm d (k + 1) = (Dm d k).put (.int .i64 (d.nx k)) (.slice (lits .i64 (zs ++ [(k : Int)])) [])) := by
          show Dm d (k + 1) = _
          rw [hzs, ← bh_yes (show (d.nx k == d.nx k) = true by simp)]
          conv => lhs; unfold Dm
          rw [if_neg q]
        have HW : Hid (w2.ownsGroups Tryz.prog 3 (w.heap.size + 1 + 1) 3 .i64 (w.heap.size + 1) (k + 1) (Dm d (k + 1))) := by
          show World.ownsGroups _ _ _ _ _ _ _ _ _
          rw [HD.out, ← (hoi.appended hown' (WalkArith.wf_i64 (by omega))).datum_pos (by simp)]
          exact hown2
        have hbw : w.heap.size + 1 ≤ wr.heap.size := by omega
        have HBl := hb.groups hoi hall hgrow2 hbw (Nat.le_succ _) (Nat.le_refl _)
        have HZ : w.heap.size + 1 + 1 ≤ w2.heap.size := Nat.le_trans hws (Nat.le_trans hall.size hgrow2.size)
        go_roundw
        case rel => exact ⟨k + 1, by omega, by go_num, HW.out, HBl, HZ⟩
        case measure => simp [intOf]; omega
    · obtain rfl : k = d.nN := by omega
      have HBl : Below w.heap.size w wr := bel.trans (hb.mono (by omega))
      have HW : Hid (wr.ownsGroups Tryz.prog 3 (w.heap.size + 1 + 1) 3 .i64 (w.heap.size + 1) d.nN (Dm d d.nN)) := hown
      clear hnx h0 bel hsz hb hown
      go_wp2
      go_ret
      exact ⟨rfl, HW.out, HBl⟩

end Go.Proofs.YtachkoledebanaaGreatDoor
