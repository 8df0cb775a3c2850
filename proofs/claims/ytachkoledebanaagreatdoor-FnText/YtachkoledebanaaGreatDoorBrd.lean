/-
  The board: where it lies; wants, add.
-/
import Derived.Test.YtachkoledebanaaGreatDoorLam
import Derived.Test.YtachkoledebanaaGreatDoorWork
import Derived.Test.YtachkoledebanaaGreatDoorQue
namespace Go.Proofs.YtachkoledebanaaGreatDoor
open Go.RowKit Go.WideMaps Go.Maps

/-- where a board's parts lie -/
structure BA where
  a1 : Option Addr
  c1 : Nat
  bm : Nat
  base : Nat
  ao : Option Addr
  co : Nat
  al : Option Addr
  cl : Nat

/-- cells by index, in no block of which No holds -/
def SlN (w : World) (X : Nat) (ao : Option Addr) (n : Nat) (f : Nat → Value) : Prop :=
  ∀ k, k < n → ∃ b o, ao = some ⟨b, o, none⟩ ∧ b ≠ X ∧ w.cell? ⟨b, o + k, none⟩ = some (f k)
theorem SlN.sl {w : World} {X n : Nat} {ao : Option Addr} {f : Nat → Value} (h : SlN w X ao n f) : SlAt w ao n f := fun k hk => by
  obtain ⟨b, o, e, _, hc⟩ := h k hk
  exact ⟨b, o, e, hc⟩
theorem SlN.only {w w' : World} {X n : Nat} {ao : Option Addr} {f : Nat → Value} (h : SlN w X ao n f) (ho : Only X (X + 1) w w') : SlN w' X ao n f := fun k hk => by
  obtain ⟨b, o, e, hne, hc⟩ := h k hk
  exact ⟨b, o, e, hne, ho.cell (p := ⟨b, o + k, none⟩) (by show b < X ∨ X + 1 ≤ b; omega) hc⟩

/-- what of a board stays as it is while it settles -/
structure Stat (w : World) (X : Nat) (A : BA) (d : RD) : Prop where
  nx : SlN w X A.a1 d.nN (fun k => .int .i64 (d.nx k))
  gr : w.ownsGroups (H := Unit) Tryz.prog 3 A.base 3 .i64 A.bm d.nN (Dm d d.nN)
  op : SlN w X A.ao d.nN (fun k => .bool (d.op k))
  lm : SlN w X A.al d.nN (fun k => .int .u8 (enc (d.wk k)))

theorem Stat.only {w w' : World} {X : Nat} {A : BA} {d : RD} {c : Array Value} (h : Stat w X A d) (hX : Blk w X c 94) (ho : Only X (X + 1) w w') : Stat w' X A d :=
  ⟨h.nx.only ho, groups_only h.gr hX (by decide) ho, h.op.only ho, h.lm.only ho⟩

/-- the board's cells -/
def bcells (A : BA) (n : Nat) (sv qv : Value) : Array Value := #[.slice A.a1 n A.c1, .map (some A.bm), .slice A.ao n A.co, .slice A.al n A.cl, sv, qv]

/-- while it settles: from the world w0 on, in which the shown ones' list was not there yet -/
structure Bd (w0 : World) (X : Nat) (A : BA) (d : RD) (sh : Nat → Int) (q : List Int) (w : World) : Prop where
  on : Only X (X + 1) w0 w
  bk : ∃ qv, Blk w X (bcells A d.nN (.slice (some ⟨w0.heap.size, 0, none⟩) d.nN d.nN) qv) 94 ∧ QAt w (w0.heap.size + 1) qv q
  sh : w.rowIs w0.heap.size 3 d.nN (fun k => .int .i64 (sh k))

theorem Bd.size {w0 w : World} {X : Nat} {A : BA} {d : RD} {sh : Nat → Int} {q : List Int} (h : Bd w0 X A d sh q w) : w0.heap.size < w.heap.size := h.sh.lt

theorem Bd.keep {w0 w w' : World} {X : Nat} {A : BA} {d : RD} {sh : Nat → Int} {q : List Int} (h : Bd w0 X A d sh q w) (hb : Below w.heap.size w w') : Bd w0 X A d sh q w' := by
  obtain ⟨on, ⟨qv, h1, h2⟩, h3⟩ := h
  exact ⟨on.trans (.ofBelow hb), ⟨qv, h1.keep hb, h2.keep hb⟩, rowIs_below h3 hb h3.lt⟩

set_option maxHeartbeats 1000000 in
theorem wants_any (w0 : World) (X : Nat) (A : BA) (d : RD) (sh : Nat → Int) (q : List Int) (w : World) (i : Nat) (hi : i < d.nN) (_hn : d.nN ≤ 60) (hin : ∀ i, i < d.nN → -1 ≤ d.nx i ∧ d.nx i < d.nN) (hsh : ∀ i, i < d.nN → -1 ≤ sh i ∧ sh i ≤ 3) (c : Array Value) (hX : Blk w0 X c 94) (hs : Stat w0 X A d) (h : Bd w0 X A d sh q w) :
    Calls Tryz.prog 48 #[.pointer (some ⟨X, 0, none⟩), .int .i64 i] w fun e w' => e = .returned (.int .i64 (wish d sh i)) ∧ w' = w := by
  have st := hs.only hX h.on
  obtain ⟨qv, hbk, -⟩ := h.bk
  obtain ⟨b1, o1, e1, -, h1⟩ := st.nx i hi
  obtain ⟨b2, o2, e2, -, h2⟩ := st.op i hi
  have hsr := h.sh
  have x0 := hbk.cell 0
  have x2 := hbk.cell 2
  have x4 := hbk.cell 4
  unfold bcells at x0 x2 x4
  rw [e1] at x0
  rw [e2] at x2
  simp at x0 x2 x4
  have hnx := hin i hi
  have HW : Hid (wish d sh i = if d.op i = false then 0 else if d.nx i < 0 then 1 else if 3 < sh (d.nx i).toNat + 1 then 3 else sh (d.nx i).toNat + 1) := rfl
  clear st hbk hs hX h
  go_enter Tryz.func48, Tryz.ntmps48
  cases ho : d.op i with
  | false =>
    simp only [ho] at h2
    have HR : Hid (wish d sh i = 0) := by show _ = _; rw [HW.out, if_pos ho]
    clear HW hsr hsh hin
    go_wp2
    go_ret
    exact ⟨by rw [HR.out]; rfl, rfl⟩
  | true =>
    simp only [ho] at h2
    by_cases hz : d.nx i = -1
    · have z : (d.nx i == -1) = true := by rw [beq_iff_eq]; exact hz
      have HR : Hid (wish d sh i = 1) := by show _ = _; rw [HW.out, if_neg (by rw [ho]; simp), if_pos (by omega)]
      clear HW hsr hsh hin hz
      go_wp2
      go_ret
      exact ⟨by rw [HR.out]; rfl, rfl⟩
    · have z : (d.nx i == -1) = false := by rw [beq_eq_false_iff_ne]; exact hz
      obtain ⟨j, hj⟩ : ∃ j : Nat, d.nx i = j := ⟨(d.nx i).toNat, by omega⟩
      have h4 := hsr.cell (show j < d.nN by omega)
      have hb4 := hsh j (by omega)
      have hjn : j < d.nN := by omega
      have HR : Hid (wish d sh i = if 3 < sh j + 1 then 3 else sh j + 1) := by show _ = _; rw [HW.out, if_neg (by rw [ho]; simp), if_neg (by omega), hj]; rfl
      simp only [hj] at h1 z
      clear HW hsr hsh hin hz hnx hj
      by_cases hd : sh j = -1
      · have z2 : (sh j == -1) = true := by rw [beq_iff_eq]; exact hd
        go_wp2
        go_ret
        exact ⟨by rw [HR.out, hd]; rfl, rfl⟩
      · have z2 : (sh j == -1) = false := by rw [beq_eq_false_iff_ne]; exact hd
        go_wp2
        all_goals
          go_ret
          refine ⟨?_, rfl⟩
          rw [HR.out]
        · rw [if_pos (by assumption)]; rfl
        · rw [if_neg (by omega)]; rfl

/-- behind an append at the queue's end -/
theorem Bd.added {w0 w w2 : World} {X : Nat} {A : BA} {d : RD} {sh : Nat → Int} {q : List Int} {y : Int} {v' : Value} {o : Obj} (hX : X < w0.heap.size) (h : Bd w0 X A d sh q w) (hq : QAt w2 (w0.heap.size + 1) v' (q ++ [y])) (hb : Below (w0.heap.size + 1) (w.alloc o) w2) :
    Bd w0 X A d sh (q ++ [y]) (w2.setCell ⟨X, 5, none⟩ v') := by
  have hsz := h.size
  obtain ⟨on, ⟨qv, h1, -⟩, h3⟩ := h
  have hB : Below (w0.heap.size + 1) w w2 := ((Below.refl _ w).alloc (by omega) o).trans hb
  refine ⟨⟨hB.os.trans on.os, hB.tape.trans on.tape, hB.output.trans on.output, ?_, fun k hk ho => ?_⟩, ⟨v', ?_, ?_⟩, ?_⟩
  · have := hB.size
    simp
    omega
  · refine (Below.heap_setCell w2 ⟨X, 5, none⟩ v' k (by show k ≠ X; omega)).trans ((hB.block k (by omega)).trans (on.block k hk ho))
  · have := (h1.below hB (by omega)).set 5 v'
    simpa [bcells] using this
  · exact hq.only (lo' := X) (hi' := X + 1) ((Only.refl X (X + 1) w2).setCell (p := ⟨X, 5, none⟩) (Nat.le_refl _) (Nat.lt_succ_self _) v') (by omega)
  · exact (rowIs_below h3 hB (Nat.lt_succ_self _)).setOther (by show w0.heap.size ≠ X; omega) v'

set_option maxHeartbeats 1000000 in
theorem add_any (w0 : World) (X : Nat) (A : BA) (d : RD) (sh : Nat → Int) (q : List Int) (y : Int) (w : World) (hX : X < w0.heap.size) (hq : q.length ≤ 100000) (h : Bd w0 X A d sh q w) :
    Calls Tryz.prog 63 #[.pointer (some ⟨X, 5, none⟩), .int .i64 y] w fun e w' => e = .returned (.tuple #[]) ∧ Bd w0 X A d sh (q ++ [y]) w' := by
  obtain ⟨i0, hi, hz0, hz1, hz2⟩ := info_parts Tryz.iInt
  have HB : Hid (Bd w0 X A d sh q w) := h
  have hsz := h.size
  obtain ⟨qv, hbk, hqa⟩ := h.bk
  obtain ⟨ao, cap, rfl⟩ := hqa.len
  have x5 := hbk.cell 5
  have f5 := hbk.free 5
  unfold bcells at x5
  simp at x5
  clear h hbk
  have hcell : (w.alloc (.cells #[.int .i64 y] 3)).cell? ⟨w.heap.size, 0, none⟩ = some (.int .i64 y) := (World.cell?_alloc_new w _ _ 0).trans rfl
  have HC : Hid ((w.alloc (.cells #[.int .i64 y] 3)).cell? ⟨w.heap.size, 0, none⟩ = some (.int .i64 y)) := hcell
  clear hcell
  go_enter Tryz.func63, Tryz.ntmps63
  go_wp2_with (at_builtin; refine wpList_append_q _ rfl _ _ 23 rfl (w0.heap.size + 1) 3 i0 Tryz.uInts hi hz0 hz1 hz2 _ q rfl (hqa.keep ((Below.refl _ _).alloc (Nat.le_refl _) _)) ⟨w.heap.size, 0, none⟩ 1 y rfl HC.out (by omega) (by simp; omega) ?_; intro v' w2 hq' hb'; obtain ⟨ao', cap', rfl⟩ := hq'.len; have HD : Hid (Bd w0 X A d sh (q ++ [y]) (w2.setCell ⟨X, 5, none⟩ (.slice ao' (q ++ [y]).length cap'))) := Bd.added hX HB.out hq' hb'; have x5' := (hb'.cell (p := ⟨X, 5, none⟩) (by show X < _; omega)).trans ((Below.cell ((Below.refl _ w).alloc (Nat.le_refl _) _) (p := ⟨X, 5, none⟩) (by show X < _; omega)).trans x5); have f5' := (hb'.frozen (p := ⟨X, 5, none⟩) (by show X < _; omega)).trans ((Below.frozen ((Below.refl _ w).alloc (Nat.le_refl _) _) (p := ⟨X, 5, none⟩) (by show X < _; omega)).trans f5))
  go_end0
  exact ⟨rfl, by simpa using HD.out⟩

end Go.Proofs.YtachkoledebanaaGreatDoor
