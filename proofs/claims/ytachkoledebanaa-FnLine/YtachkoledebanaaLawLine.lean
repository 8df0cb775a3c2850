/-
  FnLine: at whatever bytes: true.
-/
import Derived.Test.YtachkoledebanaaMkC
import Derived.Test.YtachkoledebanaaSho2
namespace Go.Proofs.Ytachkoledebanaa
open Go.RowKit

theorem line_small {n : Nat} (h : n ≤ 20) : Small (lineD n) :=
  ⟨by show n ≤ _; omega, by show n ≤ _; omega, by show n ≤ _; omega, by show n ≤ _; omega, fun i _ => by show 4 ≤ _; omega⟩
theorem closed_small {d : RD} (h : Small d) (s : Nat) : Small (closed d s) := ⟨h.nN, h.nF, h.nO, h.nW, h.L⟩

/-- what is shown on a line; with one closed -/
def fA (i : Nat) : Int := up3 ((i : Int) + 1)
def fB (K i : Nat) : Int := if i < K then up3 ((i : Int) + 1) else up3 ((i : Int) - K)
theorem shows_line {n : Nat} {xs : List Int} (hn : n ≤ 20) (h : IsShows (lineD n) xs) : xs = lst fA n := by
  rcases h with ⟨_, wn, sh, hl, rfl⟩ | ⟨h, _⟩
  · exact lst_congr fun i hi => line_shows hl.ag i hi
  · exact absurd (line_right hn) h
theorem shows_closed {n K : Nat} {xs : List Int} (hn : n ≤ 20) (h : IsShows (closed (lineD n) K) xs) : xs = lst (fB K) n := by
  rcases h with ⟨_, wn, sh, hl, rfl⟩ | ⟨h, _⟩
  · exact lst_congr fun i hi => line_closed hl.ag i hi
  · exact absurd ((line_right hn).closed K) h

theorem ret_lst {e : Ending} {lo n : Nat} {w' : World} {f : Nat → Int} (h : RetInts e lo w' (lst f n)) : ∃ ao cap, e = .returned (.slice ao n cap) ∧ OwnS w' lo w'.heap.size ao n (fun k => .int .i64 (f k)) := by
  obtain ⟨ao, cap, he, ho⟩ := h
  rw [lst_len] at he ho
  exact ⟨ao, cap, he, ho.congr fun k hk => by rw [lst_get f n k hk]⟩

set_option maxHeartbeats 4000000 in
theorem lawLine (ca : Option Addr) (cc : Nat) (k : Code) (w : World) (hk : Bytes k) (h : CodeAt w ca k) (hn63 : k.n ≤ 9223372036854775807) :
    Calls Try.prog 8 #[.slice ca k.n cc] w fun e w' => e = .returned (.bool true) ∧ Below w.heap.size w w' := by
  have HK : Hid (Bytes k) := hk
  have HH : Hid (CodeAt w ca k) := h
  clear h hk
  go_enter Try.func8, Try.ntmps8
  by_cases hn : k.n ≤ 1048576
  case neg =>
    have z : decide ((1048576 : Int) < (k.n : Int)) = true := by simp; omega
    go_wp2
    go_ret
    exact ⟨rfl, Below.refl _ _⟩
  go_wp2_with fail
  refine (wByte_any ca cc k 0 w hn (by omega) HK.out HH.out).mono ?_
  rintro e w0 ⟨rfl, rfl⟩
  have hy0 := wb_bd HK.out 0
  have hy1 := wb_bd HK.out 1
  obtain ⟨N, hN⟩ : ∃ N : Nat, wb k 0 % 20 = (N : Int) - 1 := ⟨(wb k 0 % 20 + 1).toNat, by omega⟩
  have hN1 : 1 ≤ N ∧ N ≤ 20 := by omega
  obtain ⟨y0, hy⟩ : ∃ y0, y0 = wb k 0 := ⟨_, rfl⟩
  rw [← hy] at hN hy0 ⊢
  have he : (1 : Int) + y0 % 20 = N := by omega
  clear hy hN
  go_wp2_with fail
  refine (wByte_any ca cc k 1 w0 hn (by omega) HK.out HH.out).mono ?_
  rintro e w1 ⟨rfl, rfl⟩
  obtain ⟨K, hK⟩ : ∃ K : Nat, wb k 1 % (N : Int) = K := ⟨(wb k 1 % (N : Int)).toNat, by have := Int.emod_nonneg (wb k 1) (show (N : Int) ≠ 0 by omega); omega⟩
  have hKN : K < N := by have := Int.emod_lt_of_pos (wb k 1) (show (0 : Int) < N by omega); omega
  obtain ⟨y1, hy⟩ : ∃ y1, y1 = wb k 1 := ⟨_, rfl⟩
  rw [← hy] at hK hy1 ⊢
  clear hy
  go_wp2_with fail
  rw [hK]
  clear hy0 hy1 he hK
  refine (madeLine_any N hN1.2 w1).mono ?_
  rintro e w2 ⟨⟨a1, a2, a3, a4, c1, c2, c3, c4, bI, rfl, hM⟩, hb2⟩
  have P2 := Blk.new w2 #[.slice a1 (lineD N).nN c1, .slice a2 (lineD N).nF c2, .slice a3 (lineD N).nO c3, .slice a4 (lineD N).nW c4] 27
  have bW : Below w2.heap.size w2 (w2.alloc (.cells #[.slice a1 (lineD N).nN c1, .slice a2 (lineD N).nF c2, .slice a3 (lineD N).nO c3, .slice a4 (lineD N).nW c4] 27)) := (Below.refl _ _).alloc (Nat.le_refl _) _
  have hM3 := hM.keep bW
  have hlo : w1.heap.size ≤ w2.heap.size := hb2.size
  have B3 := chain hb2 bW
  have x0 := P2.cell 0
  have x1 := P2.cell 1
  have x2 := P2.cell 2
  have x3 := P2.cell 3
  simp only [List.getElem?_toArray, List.getElem?_cons_succ, List.getElem?_cons_zero] at x0 x1 x2 x3
  clear hM hb2 bW
  go_wp2_with fail
  generalize (w2.alloc (.cells #[.slice a1 (lineD N).nN c1, .slice a2 (lineD N).nF c2, .slice a3 (lineD N).nO c3, .slice a4 (lineD N).nW c4] 27)) = W at *
  have HM3 : Hid (Made w1.heap.size (lineD N) a1 a2 a3 a4 bI W) := hM3
  have HSM := line_small hN1.2
  refine (implShows_any a1 a2 a3 a4 c1 c2 c3 c4 _ _ (lineD N) W HSM (HM3.out.at (fun i _ => rfl))).mono ?_
  rintro e w3 ⟨⟨xs, hxs, hret⟩, hb3⟩
  obtain rfl := shows_line hN1.2 hxs
  obtain ⟨sa, cA, rfl, hoA⟩ := ret_lst hret
  have P3 := P2.keep hb3
  have y0 := P3.cell 0
  have y1 := P3.cell 1
  have y2 := P3.cell 2
  have y3 := P3.cell 3
  simp at y0 y1 y2 y3
  obtain ⟨b, rfl, hb, hbl, hcb, hfb, hrow⟩ := (HM3.out.keep hb3).close (fun i _ => rfl) (s := K) (show K < N from hKN)
  replace hcb : w3.cell? ⟨b, K, none⟩ = some (.bool true) := hcb
  have hlW : w2.heap.size < W.heap.size := P2.lt
  have hbW : b < W.heap.size := by
    obtain ⟨b', e', _, h2, _⟩ := HM3.out.close (fun i _ => rfl) (s := K) (show K < N from hKN)
    have e1 : b = b' := by simpa using e'
    omega
  have HRW : Hid (RowAt (w3.setCell ⟨b, K, none⟩ (.bool false)) a1 a2 (some ⟨b, 0, none⟩) a4 (fun j => some ⟨bI j, 0, none⟩) (fun _ => 4) (closed (lineD N) K)) := hrow
  have hne : b ≠ w2.heap.size := by
    intro e
    subst e
    obtain ⟨b', c', e', _, _, h3, _⟩ := HM3.out.op K (show K < N from hKN)
    have e1 : w2.heap.size = b' := by simpa using e'
    subst e1
    have := P2
    unfold Blk at this
    rw [h3] at this
    injection this with this
    injection this with _ this _
    exact absurd this (by decide)
  have P4 := P3.other (a := ⟨b, K, none⟩) (Ne.symm hne) (.bool false)
  have z0 := P4.cell 0
  have z1 := P4.cell 1
  have z2 := P4.cell 2
  have z3 := P4.cell 3
  simp only [List.getElem?_toArray, List.getElem?_cons_succ, List.getElem?_cons_zero] at z0 z1 z2 z3
  have HO4 : Hid (OwnS (w3.setCell ⟨b, K, none⟩ (.bool false)) W.heap.size w3.heap.size sa N (fun k => .int .i64 (fA k))) := hoA.only (lo' := b) (hi' := b + 1) ((Only.refl b (b + 1) w3).setCell (p := ⟨b, K, none⟩) (Nat.le_refl _) (Nat.lt_succ_self _) _) (Or.inr (by omega))
  have B4 : Below w1.heap.size w1 (w3.setCell ⟨b, K, none⟩ (.bool false)) := (chain B3 hb3).setCell hb _
  clear hM3 hret hxs hoA hrow P2 hb3 x0 x1 x2 x3
  go_wp2_with fail
  generalize hV : (w3.setCell ⟨b, K, none⟩ (.bool false)) = V at *
  have HVS : Hid (w3.heap.size = V.heap.size) := by subst hV; show w3.heap.size = _; simp
  refine (implShows_any a1 a2 (some ⟨b, 0, none⟩) a4 c1 c2 c3 c4 _ _ (closed (lineD N) K) V (closed_small HSM K) HRW.out).mono ?_
  rintro e w5 ⟨⟨ys, hys, hret⟩, hb5⟩
  obtain rfl := shows_closed hN1.2 hys
  obtain ⟨sb, cB, rfl, hoB⟩ := ret_lst hret
  have HA5 : Hid (SlAt w5 sa N (fun k => .int .i64 (fA k))) := (HO4.out.keep hb5).sl
  have HB5 : Hid (SlAt w5 sb N (fun k => .int .i64 (fB K k))) := hoB.sl
  have B5 : Below w1.heap.size w1 w5 := chain B4 hb5
  have hzn : ((N : Int) != (N : Int)) = false := by simp
  clear hys hret hoB hb5 B4 HO4 z0 z1 z2 z3 y0 y1 y2 y3 P3 P4 hcb hfb HRW hV
  go_wp2
  go_loopw [8] (fun t wr => ∃ q : Nat, q ≤ N ∧ t = .int .i64 q ∧ wr = w5) (fun t _ => N - (intOf t).toNat)
  case atStart => exact ⟨0, Nat.zero_le _, rfl, rfl⟩
  case round =>
    obtain ⟨q, hq, rfl, rfl⟩ := hrel
    by_cases hlt : q < N
    · obtain ⟨ba, oa, rfl, hca⟩ := HA5.out q hlt
      obtain ⟨bb, ob, rfl, hcb⟩ := HB5.out q hlt
      replace hca : wr.cell? ⟨ba, oa + q, none⟩ = some (.int .i64 (fA q)) := hca
      replace hcb : wr.cell? ⟨bb, ob + q, none⟩ = some (.int .i64 (fB K q)) := hcb
      by_cases q1 : 3 < (q : Int) + 1
      · have e1 : fA q = 3 := by unfold fA up3; rw [if_pos q1]
        by_cases q2 : q < K
        · have e2 : fB K q = 3 := by unfold fB up3; rw [if_pos q2, if_pos q1]
          rw [e1] at hca
          rw [e2] at hcb
          have q3 : ¬ (K : Int) ≤ (q : Int) := by omega
          clear e1 e2
          go_wp2
          go_roundw
          case rel => exact ⟨q + 1, by omega, by go_num, trivial⟩
          case measure => simp [intOf]; omega
        · have q3 : (K : Int) ≤ (q : Int) := by omega
          by_cases q4 : 3 < (q : Int) - K
          · have e2 : fB K q = 3 := by unfold fB up3; rw [if_neg q2, if_pos q4]
            rw [e1] at hca
            rw [e2] at hcb
            clear e1 e2
            go_wp2
            go_roundw
            case rel => exact ⟨q + 1, by omega, by go_num, trivial⟩
            case measure => simp [intOf]; omega
          · have e2 : fB K q = (q : Int) - K := by unfold fB up3; rw [if_neg q2, if_neg q4]
            rw [e1] at hca
            rw [e2] at hcb
            clear e1 e2
            go_wp2
            go_roundw
            case rel => exact ⟨q + 1, by omega, by go_num, trivial⟩
            case measure => simp [intOf]; omega
      · have e1 : fA q = (q : Int) + 1 := by unfold fA up3; rw [if_neg q1]
        by_cases q2 : q < K
        · have e2 : fB K q = (q : Int) + 1 := by unfold fB up3; rw [if_pos q2, if_neg q1]
          rw [e1] at hca
          rw [e2] at hcb
          have q3 : ¬ (K : Int) ≤ (q : Int) := by omega
          clear e1 e2
          go_wp2
          go_roundw
          case rel => exact ⟨q + 1, by omega, by go_num, trivial⟩
          case measure => simp [intOf]; omega
        · have q3 : (K : Int) ≤ (q : Int) := by omega
          have q4 : ¬ 3 < (q : Int) - K := by omega
          have e2 : fB K q = (q : Int) - K := by unfold fB up3; rw [if_neg q2, if_neg q4]
          rw [e1] at hca
          rw [e2] at hcb
          clear e1 e2
          go_wp2
          go_roundw
          case rel => exact ⟨q + 1, by omega, by go_num, trivial⟩
          case measure => simp [intOf]; omega
    · go_wp2
      go_ret
      exact ⟨rfl, B5⟩

end Go.Proofs.Ytachkoledebanaa
