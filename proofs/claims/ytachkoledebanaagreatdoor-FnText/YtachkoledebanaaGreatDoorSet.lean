/-
  settle: the program's.
-/
import Derived.Test.YtachkoledebanaaGreatDoorDrn
import Derived.Deep.DeepCutAuto
namespace Go.Proofs.YtachkoledebanaaGreatDoor
open Go.RowKit Go.WideMaps Go.Maps

/-- shown at first, of the first k -/
def first (d : RD) (k : Nat) : Nat → Int := fun j => if j < k then lamp (d.wk j) 0 else 0
theorem first_next (d : RD) (k : Nat) : raise (first d k) k (lamp (d.wk k) 0) = first d (k + 1) := by
  funext j
  unfold raise first
  by_cases e : j = k
  · subst e; simp
  · rw [if_neg e]
    by_cases g : j < k
    · rw [if_pos g, if_pos (by omega)]
    · rw [if_neg g, if_neg (by omega)]
/-- the first k numbers -/
def upto (k : Nat) : List Int := lst Int.ofNat k
theorem upto_len (k : Nat) : (upto k).length = k := lst_len _ _
theorem upto_next (k : Nat) : upto k ++ [(k : Int)] = upto (k + 1) := (lst_snoc _ _).symm
theorem upto_mem {k i : Nat} (h : i < k) : (i : Int) ∈ upto k := by
  unfold upto lst
  exact List.mem_map.2 ⟨i, List.mem_range.2 h, rfl⟩
theorem upto_in {k : Nat} {x : Int} (h : x ∈ upto k) : 0 ≤ x ∧ x < k := by
  unfold upto lst at h
  obtain ⟨j, hj, rfl⟩ := List.mem_map.1 h
  have := List.mem_range.1 hj
  show (0 : Int) ≤ (j : Int) ∧ (j : Int) < k
  omega

theorem Bd.sh_congr {w0 w : World} {X : Nat} {A : BA} {d : RD} {sh sh' : Nat → Int} {q : List Int} (h : Bd w0 X A d sh q w) (e : ∀ i, i < d.nN → sh i = sh' i) : Bd w0 X A d sh' q w :=
  ⟨h.on, h.bk, h.sh.congr fun i hi => by rw [e i hi]⟩

theorem Bd.start {w : World} {X : Nat} {A : BA} {d : RD} {sv : Value} (h : Blk w X (bcells A d.nN sv (.slice none 0 0)) 94) :
    Bd w X A d (first d 0) [] ((w.setCell ⟨X, 4, none⟩ (.slice (some ⟨w.heap.size, 0, none⟩) d.nN d.nN)).alloc (.cells (madeCells #[.int .i64 0] d.nN) 3)) := by
  have hX := h.lt
  refine ⟨?_, ⟨.slice none 0 0, ?_, Or.inl ⟨rfl, rfl⟩⟩, ?_⟩
  · exact ((Only.refl X (X + 1) w).setCell (p := ⟨X, 4, none⟩) (Nat.le_refl _) (Nat.lt_succ_self _) _).trans (Only.ofBelow ((Below.refl _ _).alloc (Nat.le_refl _) _))
  · have := (h.set 4 (.slice (some ⟨w.heap.size, 0, none⟩) d.nN d.nN)).alloc (.cells (madeCells #[.int .i64 0] d.nN) 3)
    simpa [bcells] using this
  · have hr := World.rowIs_made (w.setCell ⟨X, 4, none⟩ (.slice (some ⟨w.heap.size, 0, none⟩) d.nN d.nN)) (.int .i64 0) d.nN 3
    rw [show (w.setCell ⟨X, 4, none⟩ (.slice (some ⟨w.heap.size, 0, none⟩) d.nN d.nN)).heap.size = w.heap.size by simp] at hr
    exact hr.congr fun i hi => by simp [first]

set_option maxHeartbeats 2000000 in
set_option maxRecDepth 100000 in
theorem settle_any (X : Nat) (A : BA) (d : RD) (w : World) (hn : d.nN ≤ 60) (hin : ∀ i, i < d.nN → -1 ≤ d.nx i ∧ d.nx i < d.nN) (hbk : Blk w X (bcells A d.nN (.slice none 0 0) (.slice none 0 0)) 94) (hs : Stat w X A d) :
    Calls Tryz.prog 47 #[.pointer (some ⟨X, 0, none⟩)] w fun e w' => e = .returned (.tuple #[]) ∧ Settled w X A d w' := by
  have hXl := hbk.lt
  have HS : Hid (Blk w X (bcells A d.nN (.slice none 0 0) (.slice none 0 0)) 94 ∧ Stat w X A d) := ⟨hbk, hs⟩
  have HN : Hid (∀ i, i < d.nN → -1 ≤ d.nx i ∧ d.nx i < d.nN) := hin
  have hmk := run_make_row' (P := Tryz.prog) 23 3 (.int .i64 0) 8 Tryz.uInts Tryz.iInt rfl .i64 .i64 d.nN (by omega) (by omega)
  have HB : Hid (Bd w X A d (first d 0) [] ((w.setCell ⟨X, 4, none⟩ (.slice (some ⟨w.heap.size, 0, none⟩) d.nN d.nN)).alloc (.cells (madeCells #[.int .i64 0] d.nN) 3))) := Bd.start hbk
  have x3 := hbk.cell 3
  have x4 := hbk.cell 4
  have f4 := hbk.free 4
  unfold bcells at x3 x4
  simp at x3 x4
  clear hbk hs hin
  go_enter Tryz.func47, Tryz.ntmps47
  go_wp2
  clear hmk x3 x4 f4
  generalize ((w.setCell ⟨X, 4, none⟩ (.slice (some ⟨w.heap.size, 0, none⟩) d.nN d.nN)).alloc (.cells (madeCells #[.int .i64 0] d.nN) 3)) = W1 at *
  generalize hal : A.al = al at *
  go_loopg [18] d.nN (fun g t wr => ∃ k : Nat, k + g = d.nN ∧ t = .int .i64 k ∧ Bd w X A d (first d k) (upto k) wr)
  case atStart => exact ⟨0, Nat.zero_add _, rfl, HB.out⟩
  case round =>
    obtain ⟨k, hk, rfl, hB⟩ := hrel
    have HK : Hid (Bd w X A d (first d k) (upto k) wr) := hB
    have HAL : Hid (A.al = al) := hal
    clear HB hal
    by_cases hlt : k < d.nN
    · obtain ⟨b, o, e, -, hc⟩ := (HS.out.2.lm.only hB.on) k hlt
      rw [HAL.out] at e
      subst e
      replace hc : wr.cell? ⟨b, o + k, none⟩ = some (.int .u8 (enc (d.wk k))) := hc
      obtain ⟨qv, hbk, -⟩ := hB.bk
      have x4 := hbk.cell 4
      unfold bcells at x4
      simp at x4
      have hck := hB.sh.cell hlt
      have hfk := hB.sh.frozen k
      have hgt := greatestUpTo_any (d.wk k) 0 (by omega) (by omega)
      have HR : Hid (∀ W, Bd w X A d (first d k) (upto k) W → Bd w X A d (first d (k + 1)) (upto k) (W.setCell ⟨w.heap.size, k, none⟩ (.int .i64 (lamp (d.wk k) 0)))) := fun W hW => by
        have := hW.raised hXl hlt (lamp (d.wk k) 0)
        rwa [first_next] at this
      clear hB hbk
      go_upto_region 4 with fail
      go_cut [29] (fun _ wc => Bd w X A d (first d (k + 1)) (upto k) wc)
      case first =>
        go_region_with (go_at_call 62; refine (hgt _).mono ?_; rintro e w2 ⟨rfl, rfl⟩)
        all_goals
          go_wp2_with fail
          go_meet
          exact HR.out _ (HK.out.keep (Below.refl _ _).drew)
      case rest =>
        have HB2 : Hid (Bd w X A d (first d (k + 1)) (upto k) wc) := hcut
        have hadd := add_any w X A d (first d (k + 1)) (upto k) k wc hXl (by rw [upto_len]; omega) hcut
        clear hcut hck hfk x4 hc hgt HR
        go_wp2_with fail
        refine hadd.mono ?_
        rintro e w3 ⟨rfl, hB3⟩
        rw [upto_next] at hB3
        have HB3 : Hid (Bd w X A d (first d (k + 1)) (upto (k + 1)) w3) := hB3
        clear hB3 hadd
        go_wp2
        go_roundg (d.nN - (k + 1))
        case measure => omega
        case rel => exact ⟨k + 1, by omega, by go_num, HB3.out⟩
    · obtain rfl : k = d.nN := by omega
      have hdr := drain_any w X A d (fun i => lamp (d.wk i) 0) (upto d.nN) wr hn HN.out (by rw [upto_len]; exact hn) (Wl.start (fun i hi => (HN.out i hi).2) (fun i hi => upto_mem hi) (fun x hx => upto_in hx)) _ HS.out.1 HS.out.2 (hB.sh_congr fun i hi => by simp [first, hi])
      clear hB
      go_wp2_with fail
      refine hdr.mono ?_
      rintro e w3 ⟨rfl, hE⟩
      have HE : Hid (Settled w X A d w3) := hE
      clear hE hdr
      go_wp2
      go_end0
      exact ⟨rfl, HE.out⟩

end Go.Proofs.YtachkoledebanaaGreatDoor
