/-
  FnRoom: at whatever bytes: true.
-/
import Derived.Test.YtachkoledebanaaMkC
import Derived.Test.YtachkoledebanaaRm2
import Derived.Test.YtachkoledebanaaStp2
import Derived.Test.YtachkoledebanaaRmD
import Derived.Test.YtachkoledebanaaWS
import Derived.Test.YtachkoledebanaaWI
import Derived.Deep.DeepCutAuto
import Derived.Deep.LoopGhost
namespace Go.Proofs.Ytachkoledebanaa
open Go.RowKit

theorem drawn_small4 {k : Code} (h : Bytes k) : Small (drawn k) := by
  have := dN_bd h
  exact ⟨by show dN k ≤ _; omega, by show dN k ≤ _; omega, by show dN k ≤ _; omega, by show dN k ≤ _; omega, fun i _ => by show 4 ≤ _; omega⟩
theorem shows_lst4 {d : RD} {xs : List Int} (hR : Right d) (h : IsShows d xs) : ∃ wn sh, Least d d.nN wn sh ∧ xs = lst sh d.nN := by
  rcases h with ⟨_, wn, sh, hl, rfl⟩ | ⟨h, _⟩
  · exact ⟨wn, sh, hl, rfl⟩
  · exact absurd hR h
theorem ret_lst4 {e : Ending} {lo n : Nat} {w' : World} {f : Nat → Int} (h : RetInts e lo w' (lst f n)) : ∃ ao cap, e = .returned (.slice ao n cap) ∧ OwnS w' lo w'.heap.size ao n (fun k => .int .i64 (f k)) := by
  obtain ⟨ao, cap, he, ho⟩ := h
  rw [lst_len] at he ho
  exact ⟨ao, cap, he, ho.congr fun k hk => by rw [lst_get f n k hk]⟩

/-- what is told of a signal of a right row -/
theorem IsRoom.of {d : RD} {i : Nat} {r : Int} {wn sh : Nat → Int} (hR : Right d) (hi : i < d.nN) (hl : Least d d.nN wn sh) (h : IsRoom d i r) : r = rm d (sh i).toNat i :=
  h.one (Or.inl ⟨hR, by omega, by omega, wn, sh, hl, by simp⟩)
theorem IsStop.of {d : RD} {i : Nat} {r : Int} {wn sh : Nat → Int} (hR : Right d) (hi : i < d.nN) (hl : Least d d.nN wn sh) (h : IsStop d i r) : r = stp d sh (d.nN + 1) i 0 :=
  h.one (Or.inl ⟨hR, by omega, by omega, wn, sh, hl, by simp⟩)

structure RS (d : RD) (sh : Nat → Int) (i : Nat) (room stop : Int) : Prop where
  r0 : 0 ≤ room
  rs : stop = -2 ∨ room ≤ stop
  z : sh i ≤ 0 → room = 0 ∧ stop = 0
theorem RS.of {d : RD} {i : Nat} {room stop : Int} {wn sh : Nat → Int} (hR : Right d) (hi : i < d.nN) (hl : Least d d.nN wn sh) (h1 : IsRoom d i room) (h2 : IsStop d i stop) : RS d sh i room stop := by
  have e1 := h1.of hR hi hl
  have e2 := h2.of hR hi hl
  refine ⟨?_, ?_, fun hz => ?_⟩
  · rw [e1]; exact (rm_bd hR _ _ (by omega) (by omega)).1
  · have := room_le_stop hR hl (d.nN + 1) i (sh i).toNat 0 hi (by omega)
    rw [e1, e2]
    omega
  · rw [e1, e2, show (sh i).toNat = 0 by omega]
    refine ⟨rfl, ?_⟩
    show (if sh i ≤ 0 then (0 : Int) else _) = 0
    rw [if_pos hz]

set_option maxHeartbeats 8000000 in
set_option maxRecDepth 100000 in
theorem lawRoom (ca : Option Addr) (cc : Nat) (k : Code) (w : World) (hk : Bytes k) (h : CodeAt w ca k) (hn63 : k.n ≤ 9223372036854775807) :
    Calls Try.prog 6 #[.slice ca k.n cc] w fun e w' => e = .returned (.bool true) ∧ Below w.heap.size w w' := by
  have HK : Hid (Bytes k) := hk
  have HH : Hid (CodeAt w ca k) := h
  clear h hk
  go_enter Try.func6, Try.ntmps6
  by_cases hn : k.n ≤ 1048576
  case neg =>
    have z : decide ((1048576 : Int) < (k.n : Int)) = true := by simp; omega
    go_wp2
    go_ret
    exact ⟨rfl, Below.refl _ _⟩
  go_wp2_with fail
  refine (rows_any ca cc k w hn HK.out HH.out).mono ?_
  rintro e w1 ⟨⟨a1, a2, a3, a4, c1, c2, c3, c4, bI, rfl, hM1⟩, hb1⟩
  have P1 := Blk.new w1 #[.slice a1 (drawn k).nN c1, .slice a2 (drawn k).nF c2, .slice a3 (drawn k).nO c3, .slice a4 (drawn k).nW c4] 27
  have bW1 : Below w1.heap.size w1 (w1.alloc (.cells #[.slice a1 (drawn k).nN c1, .slice a2 (drawn k).nF c2, .slice a3 (drawn k).nO c3, .slice a4 (drawn k).nW c4] 27)) := (Below.refl _ _).alloc (Nat.le_refl _) _
  have HA1 : Hid (RowAt (w1.alloc (.cells #[.slice a1 (drawn k).nN c1, .slice a2 (drawn k).nF c2, .slice a3 (drawn k).nO c3, .slice a4 (drawn k).nW c4] 27)) a1 a2 a3 a4 (fun j => some ⟨bI j, 0, none⟩) (fun _ => 4) (drawn k)) := (hM1.at (fun i _ => rfl)).keep bW1
  have B1 := chain hb1 bW1
  have HSM : Hid (Small (drawn k) ∧ Right (drawn k)) := ⟨drawn_small4 HK.out, drawn_right HK.out⟩
  have hdn : 1 ≤ (drawn k).nN ∧ (drawn k).nN ≤ 9 := dN_bd HK.out
  generalize drawn k = d at *
  clear hM1 hb1 bW1
  go_wp2_with fail
  generalize (w1.alloc (.cells #[.slice a1 d.nN c1, .slice a2 d.nF c2, .slice a3 d.nO c3, .slice a4 d.nW c4] 27)) = W1 at *
  have x0 := P1.cell 0
  have x1 := P1.cell 1
  have x2 := P1.cell 2
  have x3 := P1.cell 3
  simp at x0 x1 x2 x3
  go_wp2_with fail
  refine (implShows_any a1 a2 a3 a4 c1 c2 c3 c4 _ _ d W1 HSM.out.1 HA1.out).mono ?_
  rintro e w2 ⟨⟨xs, hxs, hret⟩, hb2⟩
  obtain ⟨wn, sh, hl, rfl⟩ := shows_lst4 HSM.out.2 hxs
  obtain ⟨sa, cA, rfl, hoA⟩ := ret_lst4 hret
  have HL : Hid (Least d d.nN wn sh) := hl
  have HXS : Hid (IsShows d (lst sh d.nN)) := hxs
  have P2 := P1.keep hb2
  have HA2 : Hid (RowAt w2 a1 a2 a3 a4 (fun j => some ⟨bI j, 0, none⟩) (fun _ => 4) d) := HA1.out.keep hb2
  have HO2 : Hid (SlAt w2 sa d.nN (fun k => .int .i64 (sh k))) := hoA.sl
  have B2 := chain B1 hb2
  clear x0 x1 x2 x3 hxs hret hoA hl P1 HA1 hb2 B1
  have x0 := P2.cell 0
  have x1 := P2.cell 1
  have x2 := P2.cell 2
  have x3 := P2.cell 3
  simp at x0 x1 x2 x3
  go_wp2_with fail
  refine (specShows_any a1 a2 a3 a4 c1 c2 c3 c4 _ _ d w2 HSM.out.1 HA2.out).mono ?_
  rintro e w3 ⟨⟨ys, hys, hret⟩, hb3⟩
  obtain rfl := HXS.out.one hys
  obtain ⟨ss, cS, rfl, hoS⟩ := ret_lst4 hret
  have P3 := P2.keep hb3
  have HA3 : Hid (RowAt w3 a1 a2 a3 a4 (fun j => some ⟨bI j, 0, none⟩) (fun _ => 4) d) := HA2.out.keep hb3
  have HO3 : Hid (SlAt w3 sa d.nN (fun k => .int .i64 (sh k))) := HO2.out.keep hb3
  have HO3' : Hid (SlAt w3 ss d.nN (fun k => .int .i64 (sh k))) := hoS.sl
  have B3 := chain B2 hb3
  clear x0 x1 x2 x3 hys hret hoS P2 HA2 HO2 hb3 B2
  go_wp2_with fail
  refine (wInts_same sa ss d.nN cA cS sh w3 (by omega) HO3.out HO3'.out).mono ?_
  rintro e w4 ⟨rfl, m4, hm4⟩
  have hb4 : Below w3.heap.size w3 w4 := by rw [hm4]; exact below_drewN (Below.refl _ _) _
  have HP4 : Hid (Blk w4 w1.heap.size #[.slice a1 d.nN c1, .slice a2 d.nF c2, .slice a3 d.nO c3, .slice a4 d.nW c4] 27) := P3.keep hb4
  have HA4 : Hid (RowAt w4 a1 a2 a3 a4 (fun j => some ⟨bI j, 0, none⟩) (fun _ => 4) d) := HA3.out.keep hb4
  have HO4 : Hid (SlAt w4 sa d.nN (fun k => .int .i64 (sh k))) := HO3.out.keep hb4
  have B4 := chain B3 hb4
  clear hm4 hb4 P3 HA3 HO3 HO3' B3
  have x0 := HP4.out.cell 0
  simp at x0
  go_wp2
  go_loopg [25] d.nN (fun g t wr => ∃ i : Nat, i + g = d.nN ∧ t = .int .i64 i ∧ Below w4.heap.size w4 wr)
  case atStart => exact ⟨0, Nat.zero_add _, rfl, Below.refl _ _⟩
  case round =>
    obtain ⟨i, hig, rfl, hbr⟩ := hrel
    clear x0
    by_cases hilt : i < d.nN
    · have P := HP4.out.keep hbr
      have x0 := P.cell 0
      have x1 := P.cell 1
      have x2 := P.cell 2
      have x3 := P.cell 3
      simp at x0 x1 x2 x3
      have HAr : Hid (RowAt wr a1 a2 a3 a4 (fun j => some ⟨bI j, 0, none⟩) (fun _ => 4) d) := HA4.out.keep hbr
      go_wp2_with fail
      refine (implRoom_any a1 a2 a3 a4 c1 c2 c3 c4 _ _ d i wr HSM.out.1 HAr.out).mono ?_
      rintro e v1 ⟨⟨room, hroom, rfl⟩, hv1⟩
      have V1 : Below w4.heap.size w4 v1 := chain hbr hv1
      clear x0 x1 x2 x3 P HAr
      have P := HP4.out.keep V1
      have x0 := P.cell 0
      have x1 := P.cell 1
      have x2 := P.cell 2
      have x3 := P.cell 3
      simp at x0 x1 x2 x3
      go_wp2_with fail
      refine (implStop_any a1 a2 a3 a4 c1 c2 c3 c4 _ _ d i v1 HSM.out.1 (HA4.out.keep V1)).mono ?_
      rintro e v2 ⟨⟨stop, hstop, rfl⟩, hv2⟩
      have V2 : Below w4.heap.size w4 v2 := chain V1 hv2
      have HRS : Hid (RS d sh i room stop) := RS.of HSM.out.2 hilt HL.out hroom hstop
      have HIR : Hid (IsRoom d i room) := hroom
      have HIS : Hid (IsStop d i stop) := hstop
      clear x0 x1 x2 x3 P hroom hstop
      have P := HP4.out.keep V2
      have x0 := P.cell 0
      have x1 := P.cell 1
      have x2 := P.cell 2
      have x3 := P.cell 3
      simp at x0 x1 x2 x3
      have z1 : decide (room < 0) = false := by have := HRS.out.r0; simp; omega
      go_wp2_with fail
      refine (specRoom_any a1 a2 a3 a4 c1 c2 c3 c4 _ _ d i v2 HSM.out.1 (HA4.out.keep V2)).mono ?_
      rintro e v3 ⟨⟨r3, hr3, rfl⟩, hv3⟩
      have hx3 : (room != r3) = false := by rw [bne_eq_false_iff_eq]; exact HIR.out.one hr3
      have V3 : Below w4.heap.size w4 v3 := chain V2 hv3
      clear x0 x1 x2 x3 P hr3
      have P := HP4.out.keep V3
      have x0 := P.cell 0
      have x1 := P.cell 1
      have x2 := P.cell 2
      have x3 := P.cell 3
      simp at x0 x1 x2 x3
      go_wp2_with fail
      refine (specStop_any a1 a2 a3 a4 c1 c2 c3 c4 _ _ d i v3 HSM.out.1 (HA4.out.keep V3)).mono ?_
      rintro e v4 ⟨⟨r4, hr4, rfl⟩, hv4⟩
      have hx4 : (stop != r4) = false := by rw [bne_eq_false_iff_eq]; exact HIS.out.one hr4
      have V4 : Below w4.heap.size w4 v4 := chain V3 hv4
      clear x0 x1 x2 x3 P hr4
      have P := HP4.out.keep V4
      have x0 := P.cell 0
      simp at x0
      have HAv : Hid (RowAt v4 a1 a2 a3 a4 (fun j => some ⟨bI j, 0, none⟩) (fun _ => 4) d) := HA4.out.keep V4
      have HOv : Hid (SlAt v4 sa d.nN (fun k => .int .i64 (sh k))) := HO4.out.keep V4
      obtain ⟨bs, os, hsa, hcs⟩ := HOv.out i hilt
      subst hsa
      replace hcs : v4.cell? ⟨bs, os + i, none⟩ = some (.int .i64 (sh i)) := hcs
      have hbi := HL.out.bd HSM.out.2.inside i hilt
      have hcase : (sh i ≤ 0 ∧ room = 0 ∧ stop = 0 ∧ (stop != -2) = true ∧ decide (stop < room) = false) ∨ (¬ sh i ≤ 0 ∧ (stop != -2) = true ∧ decide (stop < room) = false) ∨ (¬ sh i ≤ 0 ∧ stop = -2 ∧ (stop != -2) = false) := by
        have q1 := HRS.out.r0
        have q2 := HRS.out.rs
        have q3 := HRS.out.z
        by_cases e1 : sh i ≤ 0
        · obtain ⟨rfl, rfl⟩ := q3 e1
          exact Or.inl ⟨e1, rfl, rfl, by decide, by decide⟩
        · by_cases e2 : stop = -2
          · exact Or.inr (Or.inr ⟨e1, e2, by rw [bne_eq_false_iff_eq]; exact e2⟩)
          · exact Or.inr (Or.inl ⟨e1, by rw [bne_iff_ne]; exact e2, by simp; omega⟩)
      clear HIR HIS hv1 hv2 hv3 hv4 V1 V2 V3
      rcases hcase with ⟨e1, hr0, hs0, e2, e3⟩ | ⟨e1, e2, e3⟩ | ⟨e1, -, e2⟩
      case inl =>
        have y1 : (room != 0) = false := by rw [hr0]; decide
        have y2 : (stop != 0) = false := by rw [hs0]; decide
        clear hr0 hs0
        go_wp2
        go_loopw [8, 9] (fun _ a wr => a = .int .i64 (sh i) ∧ wr = v4) (fun _ _ _ => 0)
        case atStart => exact ⟨rfl, rfl⟩
        case round =>
          obtain ⟨rfl, rfl⟩ := hrel
          have z9 : decide (0 < sh i) = false := by simp; omega
          go_wp2
          go_roundg (d.nN - (i + 1))
          case measure => omega
          case rel => exact ⟨i + 1, by omega, by go_num, V4⟩
      all_goals
        go_wp2
        clear hx3 hx4 z1 HRS
        go_loopg [8, 9] (sh i).toNat (fun g t a wr => ∃ (T aa : Int), t = .int .i64 T ∧ a = .int .i64 aa ∧ aa.toNat = g ∧ aa ≤ 3 ∧ 0 ≤ aa ∧ T < d.nN ∧ (0 < aa → 0 ≤ T ∧ aa ≤ sh T.toNat) ∧ wr = v4)
        case atStart => exact ⟨i, sh i, rfl, rfl, rfl, by omega, by omega, by omega, fun _ => ⟨by omega, by rw [Int.toNat_natCast]; omega⟩, rfl⟩
        case round =>
          obtain ⟨T, aa, rfl, rfl, hg, q1, q2, q3, q4, rfl⟩ := hrel
          by_cases ha : 0 < aa
          · obtain ⟨t0, t1⟩ := q4 ha
            obtain ⟨J, rfl⟩ : ∃ J : Nat, T = J := ⟨T.toNat, by omega⟩
            rw [Int.toNat_natCast] at t1
            have hJ : J < d.nN := by omega
            obtain ⟨bx, ox, rfl, hcx⟩ := HAv.out.nx J hJ
            obtain ⟨b', o', hsa', hcj⟩ := HOv.out J hJ
            have hEQ : b' = bs ∧ o' = os := by injection hsa' with hsa'; injection hsa' with q5 q6; exact ⟨q5.symm, q6.symm⟩
            obtain ⟨rfl, rfl⟩ := hEQ
            replace hcj : wr.cell? ⟨b', o' + J, none⟩ = some (.int .i64 (sh J)) := hcj
            have hah := HL.out.ahead HSM.out.2.inside hJ (by omega)
            have hnx := (HSM.out.2.w J hJ).1
            have z8 : decide (sh J < aa) = false := by simp; omega
            have HN : Hid (0 < aa - 1 → 0 ≤ d.nx J ∧ aa - 1 ≤ sh (d.nx J).toNat) := fun h9 => by
              by_cases q : d.nx J < 0
              · have := hah.1 q; omega
              · exact ⟨by omega, by have := hah.2 (by omega); omega⟩
            clear hah q4 hcs hsa' t1
            go_wp2
            go_roundg (aa - 1).toNat
            case measure => omega
            case rel => exact ⟨d.nx J, aa - 1, rfl, rfl, rfl, by omega, by omega, hnx.2, HN.out, rfl⟩
          · clear q4
            go_wp2
            go_roundg (d.nN - (i + 1))
            case measure => omega
            case rel => exact ⟨i + 1, by omega, by go_num, V4⟩
    · have hi2 : i = d.nN := by omega
      subst hi2
      have BF : Below w.heap.size w wr := chain B4 hbr
      go_wp2
      go_ret
      exact ⟨rfl, BF⟩

end Go.Proofs.Ytachkoledebanaa
