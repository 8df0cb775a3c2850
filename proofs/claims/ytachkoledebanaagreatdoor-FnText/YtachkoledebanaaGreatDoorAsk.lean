/-
  ask: the program's.
-/
import Derived.Test.YtachkoledebanaaGreatDoorBrd
namespace Go.Proofs.YtachkoledebanaaGreatDoor
open Go.RowKit Go.WideMaps Go.Maps

theorem drewN_zero (w : World) : w = w.drewN 0 := rfl

theorem groups_shun {H : Type} {P : Program} {k base e b n : Nat} {q : IntKind} {D : DataW H} {w : World} (h : w.ownsGroups P k base e q b n D) : w.Shuns b (fun g => w.heap.size ≤ g) :=
  World.Shuns.reno (No := fun _ => False) (fun _ _ _ _ _ _ _ hf => hf) h (fun _ hg => Or.inr hg)

/-- a store of one shown -/
theorem Bd.raised {w0 w : World} {X : Nat} {A : BA} {d : RD} {sh : Nat → Int} {q : List Int} {i : Nat} (hX : X < w0.heap.size) (h : Bd w0 X A d sh q w) (_hi : i < d.nN) (v : Int) : Bd w0 X A d (raise sh i v) q (w.setCell ⟨w0.heap.size, i, none⟩ (.int .i64 v)) := by
  obtain ⟨on, ⟨qv, h1, h2⟩, h3⟩ := h
  refine ⟨⟨on.os, on.tape, on.output, by simpa using on.size, fun k hk ho => (Below.heap_setCell w ⟨w0.heap.size, i, none⟩ _ k (by show k ≠ w0.heap.size; omega)).trans (on.block k hk ho)⟩, ⟨qv, h1.other (a := ⟨w0.heap.size, i, none⟩) (by show X ≠ w0.heap.size; omega) _, ?_⟩, ?_⟩
  · exact h2.only (lo' := w0.heap.size) (hi' := w0.heap.size + 1) ((Only.refl w0.heap.size (w0.heap.size + 1) w).setCell (p := ⟨w0.heap.size, i, none⟩) (Nat.le_refl _) (Nat.lt_succ_self _) _) (Nat.le_refl _)
  · refine (h3.set i (.int .i64 v)).congr fun k _ => ?_
    unfold raise
    by_cases e : k = i <;> simp [e]

/-- a list of the map's was there from the first, and lies apart -/
theorem list_home {w0 w2 : World} {X base : Nat} {c : Array Value} {v : Value} {zs : List Int} (on : Only X (X + 1) w0 w2) (hX : Blk w2 X c 94) (hoi : w2.ownsInts base 3 .i64 v zs) (hlt : ∀ g, v.ownBlock = some g → g < w0.heap.size) :
    ∃ ao cap, v = .slice ao zs.length cap ∧ SlN w0 X ao zs.length (fun k => .int .i64 (zs.getD k 0)) := by
  obtain ⟨ao, cap, he, ho⟩ := RetInts.ofOwns (e := .returned v) rfl hoi.1
  injection he with he
  refine ⟨ao, cap, he, fun k hk => ?_⟩
  obtain ⟨b, rfl, _, _, hc, _⟩ := ho k hk
  have hb := hlt b (by rw [he]; rfl)
  have hne : b ≠ X := fun e1 => by
    subst e1
    rcases hoi.1.2 with ⟨hv, _⟩ | ⟨g', cap', cur, hv, _, hg, _⟩
    · rw [hv] at he; cases he
    · rw [hv] at he
      injection he with he _ _
      injection he with he
      injection he with he _
      subst he
      unfold Blk at hX
      rw [hX] at hg
      injection hg with hg
      injection hg with _ hg _
      exact absurd hg (by decide)
  refine ⟨b, 0, rfl, hne, ?_⟩
  rw [Nat.zero_add]
  exact (World.cell?_of_block (w := w2) (a := ⟨b, k, none⟩) (on.block b hb (by omega)).symm).trans hc

/-- how an ask ends -/
def Asked (w0 : World) (X : Nat) (A : BA) (d : RD) (sh : Nat → Int) (q : List Int) (i : Nat) (w' : World) : Prop :=
  (sh i = lamp (d.wk i) (wish d sh i) ∧ Bd w0 X A d sh q w') ∨ (lamp (d.wk i) (wish d sh i) ≠ sh i ∧ Bd w0 X A d (raise sh i (lamp (d.wk i) (wish d sh i))) (q ++ bh d i d.nN) w')

theorem take_snoc (zs : List Int) {k : Nat} (h : k < zs.length) : zs.take (k + 1) = zs.take k ++ [zs.getD k 0] := by
  rw [List.take_add_one]
  simp [List.getD, List.getElem?_eq_getElem h]

set_option maxHeartbeats 2000000 in
set_option maxRecDepth 100000 in
theorem ask_any (w0 : World) (X : Nat) (A : BA) (d : RD) (sh : Nat → Int) (q : List Int) (w : World) (i : Nat) (hi : i < d.nN) (hn : d.nN ≤ 60) (hin : ∀ i, i < d.nN → -1 ≤ d.nx i ∧ d.nx i < d.nN) (hsh : ∀ i, i < d.nN → -1 ≤ sh i ∧ sh i ≤ 3) (hq : q.length ≤ 50000) (c : Array Value) (hX : Blk w0 X c 94) (hs : Stat w0 X A d) (h : Bd w0 X A d sh q w) :
    Calls Tryz.prog 65 #[.pointer (some ⟨X, 0, none⟩), .int .i64 i] w fun e w' => e = .returned (.tuple #[]) ∧ Asked w0 X A d sh q i w' := by
  have hXl := hX.lt
  have HS : Hid (Blk w0 X c 94 ∧ Stat w0 X A d) := ⟨hX, hs⟩
  have HH : Hid (Bd w0 X A d sh q w) := h
  have HN : Hid (∀ i, i < d.nN → -1 ≤ d.nx i ∧ d.nx i < d.nN) := hin
  have HI : Hid (∀ i, i < d.nN → -1 ≤ sh i ∧ sh i ≤ 3) := hsh
  have st := hs.only hX h.on
  obtain ⟨qv, hbk, -⟩ := h.bk
  obtain ⟨b3, o3, e3, -, h3⟩ := st.lm i hi
  have x3 := hbk.cell 3
  unfold bcells at x3
  rw [e3] at x3
  simp at x3
  have hw0 : 0 ≤ wish d sh i := wish_at_lo (fun i hi => (hin i hi).2) (fun i hi => (hsh i hi).1) hi
  have hw3 := wish_hi d sh i
  clear st hbk hs h hin hsh hX
  go_enter Tryz.func65, Tryz.ntmps65
  go_wp2_with fail
  go_quiet (first
    | (go_at_call 48; exact Calls.quiet_of ((wants_any w0 X A d sh q _ i hi hn HN.out HI.out c HS.out.1 HS.out.2 (HH.out.keep (below_drewN (Below.refl _ _) _))).mono fun e w' hh => ⟨hh.1, 0, hh.2⟩))
    | (go_at_call 62; exact Calls.quiet_of ((greatestUpTo_any (d.wk i) (wish d sh i) hw0 hw3 _).mono fun e w' hh => ⟨hh.1, 0, hh.2⟩)))
  have HB : Hid (Bd w0 X A d sh q (w.drewN nq)) := HH.out.keep (below_drewN (Below.refl _ _) _)
  clear HH x3 h3
  generalize w.drewN nq = w1 at *
  obtain ⟨qv1, hbk1, -⟩ := HB.out.bk
  have hrow := HB.out.sh
  have x4 := hbk1.cell 4
  have x1 := hbk1.cell 1
  unfold bcells at x4 x1
  simp at x4 x1
  have hc4 := hrow.cell hi
  have f4 := hrow.frozen i
  clear hbk1 hrow
  by_cases hz : lamp (d.wk i) (wish d sh i) = sh i
  · have z : (lamp (d.wk i) (wish d sh i) == sh i) = true := by rw [beq_iff_eq]; exact hz
    have HA : Hid (Asked w0 X A d sh q i w1) := Or.inl ⟨hz.symm, HB.out⟩
    clear hz
    go_wp2
    exact bodyPost_ret (v := .tuple #[]) (by simp [results, Tryz.results65, go_sem]) rfl ⟨rfl, HA.out⟩
  have z : (lamp (d.wk i) (wish d sh i) == sh i) = false := by rw [beq_eq_false_iff_ne]; exact hz
  have HD : Hid (lamp (d.wk i) (wish d sh i) ≠ sh i) := hz
  have HR : Hid (Bd w0 X A d (raise sh i (lamp (d.wk i) (wish d sh i))) q (w1.setCell ⟨w0.heap.size, i, none⟩ (.int .i64 (lamp (d.wk i) (wish d sh i))))) := HB.out.raised hXl hi _
  have st1 := HS.out.2.only HS.out.1 HR.out.on
  have hsn : (w1.setCell ⟨w0.heap.size, i, none⟩ (.int .i64 (lamp (d.wk i) (wish d sh i)))).Shuns A.bm (fun g => w0.heap.size ≤ g) := by
    obtain ⟨es, clock, hb, _⟩ := HS.out.2.gr
    exact (groups_shun HS.out.2.gr).kept (row := some X) ⟨HR.out.on.os, HR.out.on.tape, HR.out.on.output, HR.out.on.size, fun j hj hne => HR.out.on.block j hj (by have : j ≠ X := fun e => hne (by rw [e]); omega)⟩ ((Array.getElem?_eq_some_iff.1 hb).1) (fun e1 => by
      injection e1 with e1
      rw [e1] at hb
      have := HS.out.1
      unfold Blk at this
      rw [this] at hb; cases hb)
  have HG : Hid ((w1.setCell ⟨w0.heap.size, i, none⟩ (.int .i64 (lamp (d.wk i) (wish d sh i)))).Shuns A.bm (fun g => w0.heap.size ≤ g)) := hsn
  have hgr := st1.gr
  have hkey : keyOf Tryz.prog 3 (.int .i64 (i : Int)) = some (.int .i64 (i : Int)) := keyOf_int_mk Tryz.underlying3 (WalkArith.wf_i64 (by omega))
  clear st1 hsn hz
  go_wp2_with (at_lookup; refine wpList_lookup_groups_shuns _ rfl _ _ 89 rfl 3 23 3 .i64 lawInt Tryz.underlying89 (zeroInts _) A.base A.bm d.nN _ rfl hgr (by unfold maxLen; omega) _ _ rfl hkey ?_; intro v zs hat hoi hzl hback hshun; obtain ⟨ao, cap, hv, hl⟩ := list_home HR.out.on HR.out.bk.choose_spec.1 hoi (fun g hg => Nat.lt_of_not_le (hshun _ HG.out g hg)); have hzs := Dm_found (by omega) hat hoi; have HZ : Hid (zs = bh d i d.nN) := hzs; have hzl' : zs.length ≤ 60 := (by omega); clear hzs; subst hv; clear hat hoi hback hshun)
  generalize hv : lamp (d.wk i) (wish d sh i) = lv at *
  generalize (w1.setCell ⟨w0.heap.size, i, none⟩ (.int .i64 lv)) = W2 at *
  have HL : Hid (SlN w0 X ao zs.length (fun k => .int .i64 (zs.getD k 0))) := hl
  have HV : Hid (lamp (d.wk i) (wish d sh i) = lv) := hv
  clear hgr hkey x1 x4 hc4 f4 z hl HG hv hw0 hw3
  go_loopw [41] (fun t wr => ∃ k : Nat, k ≤ zs.length ∧ t = .int .i64 k ∧ Bd w0 X A d (raise sh i lv) (q ++ zs.take k) wr) (fun t _ => zs.length - (intOf t).toNat)
  case atStart => exact ⟨0, Nat.zero_le _, rfl, by simpa using HR.out⟩
  case round =>
    obtain ⟨k, hk, rfl, hB⟩ := hrel
    have HK : Hid (Bd w0 X A d (raise sh i lv) (q ++ zs.take k) wr) := hB
    by_cases hlt : k < zs.length
    · obtain ⟨b, o, rfl, -, hc⟩ := (HL.out.only hB.on) k hlt
      have HT : Hid (zs.take (k + 1) = zs.take k ++ [zs.getD k 0]) := take_snoc zs hlt
      replace hc : wr.cell? ⟨b, o + k, none⟩ = some (.int .i64 (zs.getD k 0)) := hc
      generalize zs.getD k 0 = zk at hc HT
      have hadd := add_any w0 X A d (raise sh i lv) (q ++ zs.take k) zk wr hXl (by simp; omega) hB
      clear hB
      go_wp2_with fail
      refine hadd.mono ?_
      rintro e w3 ⟨rfl, hB3⟩
      have HB3 : Hid (Bd w0 X A d (raise sh i lv) (q ++ zs.take (k + 1)) w3) := by
        show Bd _ _ _ _ _ _ _
        rw [HT.out, ← List.append_assoc]
        exact hB3
      clear hB3 hadd hc
      go_wp2
      go_roundw
      case rel => exact ⟨k + 1, by omega, by go_num, HB3.out⟩
      case measure => simp [intOf]; omega
    · obtain rfl : k = zs.length := by omega
      have HA : Hid (Asked w0 X A d sh q i wr) := Or.inr ⟨by rw [HV.out]; exact HD.out, by
        have := HK.out
        rw [List.take_length, HZ.out] at this
        rw [HV.out]
        exact this⟩
      clear hB
      go_wp2
      go_end0
      exact ⟨rfl, HA.out⟩

end Go.Proofs.YtachkoledebanaaGreatDoor
