/-
  The statement on ReadRow, its listed variables tied.
-/
import Derived.Test.YtachkoledebanabGreatDoorLawRd
import Derived.Test.YtachkoledebanabGreatDoorLof
namespace Go.Proofs.YtachkoledebanabGreatDoor
open Go.ChangeShapes Go.WideShapes Go.ChangeAt Go.RowKit Go.ChangeMaps

set_option maxRecDepth 100000 in
theorem readRow_contract (H : Type) (enc : TypeId × Value → H) (W : World) (base : Nat) (args : Array Value) (ds gs : List (DataW H)) (before : List MemPlace)
    (hval : ∀ (j : Nat) t v, Tryz.f3.params[j]? = some t → args[j]? = some v → Value.okWide Tryz.prog W .any base t v)
    (hW : DataW.Whole enc Tryz.prog Tryz.f3.params.toList Rows.fnExactReadRowSpec.vars false W args.toList ds gs before) (hL : laidMetH Tryz.prog Rows.fnExactReadRowRow.laid W) (hS : W.ShapedOpen Tryz.prog) :
    Calls Tryz.prog 3 args W fun e W' => ∃ v, e = .returned v ∧ Rows.fnExactReadRowSpec.post enc Tryz.prog Tryz.f3 false true false false W args v W' := by
  have hW' := hW
  obtain ⟨p, q, hA0, hV, rfl, hfz, hnd⟩ := hW
  have hA : DataW.TrodAll enc Tryz.prog W 0 (fun _ => true) true Tryz.f3.params.toList args.toList ds p := hA0
  rw [Tryz.params3] at hA hval
  obtain ⟨v0, vs0, d0, ds0, p0, q0, hargs, rfl, rfl, h0, r0⟩ := trodAll_cons hA
  obtain ⟨rfl, rfl, rfl⟩ := trodAll_nil r0
  obtain rfl : args = #[v0] := by cases args; simp_all
  have k0 := h0
  have lt0 : ∀ x ∈ p0, x.block < W.heap.size := by obtain ⟨m, hm⟩ := k0; exact DataW.trod_lt m _ _ _ hm
  obtain ⟨s, rfl, rfl, rfl, hs⟩ := open_string Tryz.underlying9 (hval 0 9 v0 rfl rfl) h0
  obtain ⟨xs, rfl⟩ : ∃ xs, s = bs xs := ⟨s.data.toList, by cases s; simp [bs]⟩
  have h' : laidMet Tryz.prog _ W ∧ handlesMet Tryz.prog _ W := hL
  have hLd : Laid W := laid_of h'.1 h'.2 hS
  have hlen : xs.length ≤ 9223372036854775807 := by rw [← bs_size]; unfold maxLen at hs; omega
  clear hA0
  refine (lawReadRow xs W hLd  hlen).mono fun e W' ⟨he, bel⟩ => ?_
  subst he
  have hV' := Below.trodVars (enc := enc) Tryz.laidOut bel (ns := Rows.fnExactReadRowSpec.vars) (by kernel_rfl) hV
  obtain ⟨g1, g2, rfl⟩ : ∃ g1 g2, gs = [g1, g2] := vars_two hV
  exact ⟨_, rfl, _, _, _, [], _, _, hW', trodAll_mk1 (shut_bool Tryz.underlying4 _), (trodAll_cons_mk (Below.trod Tryz.laidOut (by kernel_rfl) (of_decide_eq_true (by kernel_rfl)) k0 bel lt0) trodAll_mk0), hV', bel.frame _, fun h => by cases h⟩

def readRow_arg : Value := .string ⟨#[]⟩
theorem readRow_met (os : Os) : laidMetH Tryz.prog Rows.fnExactReadRowRow.laid ((World.doorLaid Tryz.prog 112 os).forCall (fun _ _ => 0) ⟨#[], #[readRow_arg], []⟩).memory :=
  laidMetH_of_parts3 (fuel := 8) (laidMet_of_run' 8 (by kernel_rfl) (by kernel_rfl)) (by kernel_rfl) (by kernel_rfl)

set_option maxRecDepth 100000 in
theorem readRow_lifted (os : Os) (started : os.Started) (H : Type) (enc : TypeId × Value → H) (F : Stop.Interp) :
    ReturnsInHanded {} Tryz.checked os 3 .any ((OpenSpec.ofChange Rows.fnExactReadRowSpec).preRow enc Tryz.prog Tryz.f3 Rows.fnExactReadRowRow.domain false Rows.fnExactReadRowRow.laid) (((OpenSpec.ofChange Rows.fnExactReadRowSpec).at F).post enc Tryz.prog Tryz.f3 false true false false) := by
  obtain ⟨x, hx⟩ := Option.isSome_iff_exists.1 (show (DataW.whole enc Tryz.prog ((World.doorLaid Tryz.prog 112 os).forCall (fun _ _ => 0) ⟨#[], #[readRow_arg], []⟩).memory Tryz.f3.params.toList Rows.fnExactReadRowSpec.vars false #[readRow_arg].toList 8).isSome = true by kernel_rfl)
  refine returnsInHanded_of_row (C := Tryz.checked) (s := OpenSpec.ofChange Rows.fnExactReadRowSpec) Tryz.own started (by kernel_rfl) Tryz.func3
    (witness_row_atRef (enc := enc) (C := Tryz.checked) false (World.doorLaid Tryz.prog 112 os) #[readRow_arg] rfl (by kernel_rfl) (by kernel_rfl) (by kernel_rfl)
      (OpenSpec.preRow_of_cond 8 hx rfl (fun k hk => by cases hk) (by kernel_rfl) (readRow_met os))) ?_
  intro W base args ds gs before hval hW _ _ _ hL hS _
  exact readRow_contract H enc W base args ds gs before hval hW hL hS

theorem readRow_said : Rows.FnExactReadRowSaid :=
  OpenClaim.holds_of_cond 3 Tryz.f3 rfl rfl rfl rfl rfl rfl rfl ⟨rfl, rfl, rfl, rfl, rfl⟩ rfl rfl rfl rfl rfl (by kernel_rfl) Tryz.func3 (by kernel_rfl)
    (of_decide_eq_true (by kernel_rfl)) (by unfold Func.isWrapper; first | (rw [if_pos (by decide +kernel)]; kernel_rfl) | (rw [if_neg (by decide +kernel)]; exact ⟨rfl, rfl⟩))
    (fun os started H enc _ F => by rw [OpenClaim.pre_eq_preRow]; exact readRow_lifted os started H enc F)

theorem readRow_plain (f : FuncId) (fn : Func) (hf : Tryz.pinned.checked.prog.funcNamed "loop.example/aspect/laws.FnExactReadRow" = some f) (hfn : Tryz.pinned.checked.prog.funcs[f]? = some fn) :
    true = Tryz.pinned.checked.prog.looks [] ∧ ∀ (j : Nat) t, fn.params[j]? = some t → Tryz.pinned.checked.prog.wantsStandIn t = false := by
  obtain rfl : f = 3 := Option.some.inj ((show Tryz.prog.funcNamed "loop.example/aspect/laws.FnExactReadRow" = some 3 by kernel_rfl).symm.trans hf) |>.symm
  obtain rfl : fn = Tryz.f3 := (Option.some.inj (Tryz.func3.symm.trans hfn)).symm
  refine ⟨by kernel_rfl, fun j t ht => ?_⟩
  rw [Tryz.params3] at ht
  obtain rfl : t = 9 := by simpa using Array.mem_of_getElem? ht
  exact (show Tryz.prog.wantsStandIn 9 = false by kernel_rfl)

theorem readRow_holds : Rows.FnExactReadRowCardSaid :=
  Claim7.holds_tied_plain_at .later [] _ _ _ _ readRow_said (fun _ h => by cases h) (by kernel_rfl) (fun _ h => by cases h) fnExactReadRow_row_tie rfl ⟨rfl, rfl⟩ (by kernel_rfl) rfl readRow_plain (by kernel_rfl)
#print axioms readRow_holds

end Go.Proofs.YtachkoledebanabGreatDoor
