import Derived.Test.YtachkoledebanaaGreatDoorBaseEtc
namespace Go.Proofs.YtachkoledebanaaGreatDoor
open Go.RowKit

theorem SlAt.drewN {w : World} {ao : Option Addr} {n : Nat} {f : Nat → Value} (h : SlAt w ao n f) (m : Nat) : SlAt (w.drewN m) ao n f := h.keep (below_drewN (Below.refl _ _) m)
theorem RowAt.drewN {w : World} {a1 a2 a3 a4 : Option Addr} {A : Nat → Option Addr} {C : Nat → Nat} {d : RD} (h : RowAt w a1 a2 a3 a4 A C d) (m : Nat) : RowAt (w.drewN m) a1 a2 a3 a4 A C d := h.keep (below_drewN (Below.refl _ _) m)

end Go.Proofs.YtachkoledebanaaGreatDoor

namespace Go.Proofs.YtachkoledebanaaGreatDoor
open Go.RowKit

set_option maxHeartbeats 400000 in
theorem wInts_same (ao bo : Option Addr) (n ca cb : Nat) (f : Nat → Int) (w : World) (hn : n ≤ 1048576) (ha : SlAt w ao n (fun k => .int .i64 (f k))) (hb : SlAt w bo n (fun k => .int .i64 (f k))) :
    Calls Tryz.prog 23 #[.slice ao n ca, .slice bo n cb] w fun e w' => e = .returned (.bool true) ∧ ∃ m, w' = w.drewN m := by
  have h0 : ((n : Int) != (n : Int)) = false := by simp
  go_enter Tryz.func23, Tryz.ntmps23
  go_wp2
  go_loopw [13] (fun i wr => ∃ k m : Nat, k ≤ n ∧ i = .int .i64 k ∧ wr = w.drewN m) (fun i _ => n - (intOf i).toNat)
  case atStart => exact ⟨0, 0, Nat.zero_le _, rfl, rfl⟩
  case round =>
    obtain ⟨k, m, hk, rfl, rfl⟩ := hrel
    by_cases hlt : k < n
    · obtain ⟨b, o, rfl, hc⟩ := ha k hlt
      obtain ⟨b', o', rfl, hc'⟩ := hb k hlt
      have hlt' : (k : Int) < (n : Int) := by omega
      clear ha hb
      go_wp2_with fail
      go_quiet (fail)
      go_wp2
      go_roundw
      case rel => exact ⟨k + 1, _, by omega, by go_num, rfl⟩
      case measure => simp [intOf]; omega
    · go_wp2
      go_ret
      exact ⟨rfl, m, rfl⟩

set_option maxHeartbeats 4000000 in
theorem wRow_same (a1 a2 a3 a4 b1 b2 b3 b4 : Option Addr) (c1 c2 c3 c4 e1 e2 e3 e4 : Nat) (A B : Nat → Option Addr) (C D : Nat → Nat) (d : RD) (w : World) (hs : Small d) (ha : RowAt w a1 a2 a3 a4 A C d) (hb : RowAt w b1 b2 b3 b4 B D d) :
    Calls Tryz.prog 8 #[.agg #[.slice a1 d.nN c1, .slice a2 d.nF c2, .slice a3 d.nO c3, .slice a4 d.nW c4], .agg #[.slice b1 d.nN e1, .slice b2 d.nF e2, .slice b3 d.nO e3, .slice b4 d.nW e4]] w fun e w' =>
      e = .returned (.bool true) ∧ Below w.heap.size w w' := by
  have bel : Below w.heap.size w ((w.alloc (.cells #[.slice a1 d.nN c1, .slice a2 d.nF c2, .slice a3 d.nO c3, .slice a4 d.nW c4] 27)).alloc (.cells #[.slice b1 d.nN e1, .slice b2 d.nF e2, .slice b3 d.nO e3, .slice b4 d.nW e4] 27)) := ((Below.refl _ _).alloc (Nat.le_refl _) _).alloc (by simp) _
  have ha' := ha.keep bel
  have hb' := hb.keep bel
  have p0 := (Blk.new w #[.slice a1 d.nN c1, .slice a2 d.nF c2, .slice a3 d.nO c3, .slice a4 d.nW c4] 27).alloc (.cells #[.slice b1 d.nN e1, .slice b2 d.nF e2, .slice b3 d.nO e3, .slice b4 d.nW e4] 27)
  have q0 := Blk.new (w.alloc (.cells #[.slice a1 d.nN c1, .slice a2 d.nF c2, .slice a3 d.nO c3, .slice a4 d.nW c4] 27)) #[.slice b1 d.nN e1, .slice b2 d.nF e2, .slice b3 d.nO e3, .slice b4 d.nW e4] 27
  rw [World.size_alloc] at q0
  have HS : Hid (Small d) := hs
  have hN := hs.nN
  have hF := hs.nF
  have hO := hs.nO
  have hW := hs.nW
  have hz1 : ((d.nO : Int) != (d.nO : Int)) = false := by simp
  have hz2 : ((d.nW : Int) != (d.nW : Int)) = false := by simp
  clear ha hb hs
  go_enter Tryz.func8, Tryz.ntmps8
  go_wp2_with fail
  generalize ((w.alloc (.cells #[.slice a1 d.nN c1, .slice a2 d.nF c2, .slice a3 d.nO c3, .slice a4 d.nW c4] 27)).alloc (.cells #[.slice b1 d.nN e1, .slice b2 d.nF e2, .slice b3 d.nO e3, .slice b4 d.nW e4] 27)) = W at *
  have x0 := p0.cell 0
  have x1 := p0.cell 1
  have x2 := p0.cell 2
  have x3 := p0.cell 3
  have y0 := q0.cell 0
  have y1 := q0.cell 1
  have y2 := q0.cell 2
  have y3 := q0.cell 3
  simp at x0 x1 x2 x3 y0 y1 y2 y3
  clear p0 q0
  refine (wInts_same a1 b1 d.nN c1 e1 d.nx W hN ha'.nx hb'.nx).mono ?_
  rintro e w1 ⟨rfl, m1, rfl⟩
  go_wp2_with fail
  refine (wInts_same a2 b2 d.nF c2 e2 d.fr _ hF (ha'.fr.drewN _) (hb'.fr.drewN _)).mono ?_
  rintro e w2 ⟨rfl, m2, rfl⟩
  go_wp2
  go_loopw [43] (fun i wr => ∃ k m : Nat, k ≤ d.nO ∧ i = .int .i64 k ∧ wr = W.drewN m) (fun i _ => d.nO - (intOf i).toNat)
  case atStart => exact ⟨0, m1 + m2, Nat.zero_le _, rfl, rfl⟩
  case round =>
    obtain ⟨k, m, hk, rfl, rfl⟩ := hrel
    by_cases hlt : k < d.nO
    · obtain ⟨b, o, rfl, hc⟩ := ha'.op k hlt
      obtain ⟨b', o', rfl, hc'⟩ := hb'.op k hlt
      have hlt' : (k : Int) < (d.nO : Int) := by omega
      clear ha' hb'
      go_wp2_with fail
      go_quiet (fail)
      go_wp2
      go_roundw
      case rel => exact ⟨k + 1, _, by omega, by go_num, rfl⟩
      case measure => simp [intOf]; omega
    · go_wp2
      go_loopw [61] (fun i wr => ∃ k m : Nat, k ≤ d.nW ∧ i = .int .i64 k ∧ wr = W.drewN m) (fun i _ => d.nW - (intOf i).toNat)
      case atStart => exact ⟨0, m, Nat.zero_le _, rfl, rfl⟩
      case round =>
        obtain ⟨k, m, hk, rfl, rfl⟩ := hrel
        by_cases hlt : k < d.nW
        · obtain ⟨b, o, rfl, hc⟩ := ha'.wk k hlt
          obtain ⟨b', o', rfl, hc'⟩ := hb'.wk k hlt
          have hA := ha'.lm k hlt
          have hB := hb'.lm k hlt
          have hL := HS.out.L k hlt
          have hlt' : (k : Int) < (d.nW : Int) := by omega
          have hz3 : ((d.L k : Int) != (d.L k : Int)) = false := by simp
          replace hc : W.cell? ⟨b, o + k, none⟩ = some (.slice (A k) (d.L k) (C k)) := hc
          replace hc' : W.cell? ⟨b', o' + k, none⟩ = some (.slice (B k) (d.L k) (D k)) := hc'
          clear ha' hb'
          generalize A k = Ak at hc hA
          generalize B k = Bk at hc' hB
          go_wp2_with fail
          go_quiet (fail)
          go_wp2
          go_loopw [83] (fun i wr => ∃ j m : Nat, j ≤ d.L k ∧ i = .int .i64 j ∧ wr = W.drewN m) (fun i _ => d.L k - (intOf i).toNat)
          case atStart => exact ⟨0, _, Nat.zero_le _, rfl, rfl⟩
          case round =>
            obtain ⟨j, m, hj, rfl, rfl⟩ := hrel
            by_cases hjl : j < d.L k
            · obtain ⟨p, r, rfl, hcp⟩ := hA j hjl
              obtain ⟨p', r', rfl, hcp'⟩ := hB j hjl
              have hjl' : (j : Int) < (d.L k : Int) := by omega
              clear hA hB
              go_wp2_with fail
              go_quiet (fail)
              go_wp2
              go_roundw
              case rel => exact ⟨j + 1, _, by omega, by go_num, rfl⟩
              case measure => simp [intOf]; omega
            · go_wp2
              go_roundw
              case rel => exact ⟨k + 1, _, by omega, by go_num, rfl⟩
              case measure => simp [intOf]; omega
        · go_wp2
          go_ret
          exact ⟨rfl, chain bel (below_drewN (Below.refl _ _) _)⟩

end Go.Proofs.YtachkoledebanaaGreatDoor
