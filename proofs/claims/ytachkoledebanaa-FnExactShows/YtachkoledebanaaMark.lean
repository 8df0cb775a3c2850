/-
  Marks: markIntS, markBoolS, markBoolSS, markRow write into their argument's own blocks alone.
-/
import Derived.Test.YtachkoledebanaaRow
namespace Go.Proofs.Ytachkoledebanaa
open Go.RowKit

/-- of what was there, the blocks from lo to hi alone may have turned -/
structure Only (lo hi : Nat) (w w' : World) : Prop where
  os : w'.os = w.os
  tape : w'.tape = w.tape
  output : w'.output = w.output
  size : w.heap.size ≤ w'.heap.size
  block : ∀ k, k < w.heap.size → (k < lo ∨ hi ≤ k) → w'.heap[k]? = w.heap[k]?

theorem Only.refl (lo hi : Nat) (w : World) : Only lo hi w w := ⟨rfl, rfl, rfl, Nat.le_refl _, fun _ _ _ => rfl⟩
theorem Only.trans {lo hi : Nat} {a b c : World} (h : Only lo hi a b) (k : Only lo hi b c) : Only lo hi a c :=
  ⟨k.os.trans h.os, k.tape.trans h.tape, k.output.trans h.output, Nat.le_trans h.size k.size, fun i hi' ho => (k.block i (Nat.lt_of_lt_of_le hi' h.size) ho).trans (h.block i hi' ho)⟩
theorem Only.wide {lo hi lo' hi' : Nat} {w w' : World} (h : Only lo hi w w') (h1 : lo' ≤ lo) (h2 : hi ≤ hi') : Only lo' hi' w w' :=
  ⟨h.os, h.tape, h.output, h.size, fun k hk ho => h.block k hk (by omega)⟩
theorem Only.ofBelow {lo hi : Nat} {w w' : World} (h : Below w.heap.size w w') : Only lo hi w w' :=
  ⟨h.os, h.tape, h.output, h.size, fun k hk _ => h.block k hk⟩
theorem Only.below {lo hi B : Nat} {w w' : World} (h : Only lo hi w w') (h1 : B ≤ lo) (h2 : B ≤ w.heap.size) : Below B w w' :=
  ⟨h.os, h.tape, h.output, h.size, fun k hk => h.block k (by omega) (Or.inl (by omega))⟩
theorem Only.setCell {lo hi : Nat} {a w : World} (h : Only lo hi a w) {p : Addr} (h1 : lo ≤ p.block) (h2 : p.block < hi) (v : Value) : Only lo hi a (w.setCell p v) :=
  h.trans ⟨rfl, rfl, rfl, by simp, fun k _ ho => Below.heap_setCell _ _ _ _ (by omega)⟩
theorem Only.cell {lo hi : Nat} {w w' : World} (h : Only lo hi w w') {p : Addr} (hp : p.block < lo ∨ hi ≤ p.block) {v : Value} (hc : w.cell? p = some v) : w'.cell? p = some v :=
  (World.cell?_of_block (w := w) (h.block p.block (block_lt_of_cell hc) hp)).trans hc
theorem Only.frozen {lo hi : Nat} {w w' : World} (h : Only lo hi w w') {p : Addr} (hp : p.block < lo ∨ hi ≤ p.block) (hs : p.block < w.heap.size) : w'.frozen? p = w.frozen? p :=
  World.frozen?_of_block (w := w) (h.block p.block hs hp)
theorem Only.rowIs {lo hi b t n : Nat} {f : Nat → Value} {w w' : World} (h : Only lo hi w w') (hr : w.rowIs b t n f) (hp : b < lo ∨ hi ≤ b) : w'.rowIs b t n f := hr.of_block (h.block b hr.lt hp)
theorem Only.blk {lo hi b t : Nat} {c : Array Value} {w w' : World} (h : Only lo hi w w') (hr : Blk w b c t) (hp : b < lo ∨ hi ≤ b) : Blk w' b c t := (h.block b hr.lt hp).trans hr

/-- the slice lies in a block from lo to hi, not frozen, its cells f 0, f 1, .. -/
def OwnS (w : World) (lo hi : Nat) (ao : Option Addr) (n : Nat) (f : Nat → Value) : Prop :=
  ∀ k, k < n → ∃ b, ao = some ⟨b, 0, none⟩ ∧ lo ≤ b ∧ b < hi ∧ w.cell? ⟨b, k, none⟩ = some (f k) ∧ w.frozen? ⟨b, k, none⟩ = false

theorem OwnS.sl {w : World} {lo hi n : Nat} {ao : Option Addr} {f : Nat → Value} (h : OwnS w lo hi ao n f) : SlAt w ao n f := fun k hk => by
  obtain ⟨b, e, _, _, hc, _⟩ := h k hk
  exact ⟨b, 0, e, by rw [Nat.zero_add]; exact hc⟩
theorem OwnS.only {w w' : World} {lo hi lo' hi' n : Nat} {ao : Option Addr} {f : Nat → Value} (h : OwnS w lo hi ao n f) (ho : Only lo' hi' w w') (hd : hi ≤ lo' ∨ hi' ≤ lo) : OwnS w' lo hi ao n f := fun k hk => by
  obtain ⟨b, e, h1, h2, hc, hf⟩ := h k hk
  exact ⟨b, e, h1, h2, ho.cell (p := ⟨b, k, none⟩) (by show b < lo' ∨ hi' ≤ b; omega) hc, (ho.frozen (p := ⟨b, k, none⟩) (by show b < lo' ∨ hi' ≤ b; omega) (block_lt_of_cell hc)).trans hf⟩
theorem OwnS.keep {w w' : World} {lo hi n : Nat} {ao : Option Addr} {f : Nat → Value} (h : OwnS w lo hi ao n f) (hb : Below w.heap.size w w') : OwnS w' lo hi ao n f :=
  h.only (lo' := hi) (hi' := hi) (.ofBelow hb) (Or.inl (Nat.le_refl _))
theorem OwnS.ofRow {w : World} {lo hi b t n : Nat} {f : Nat → Value} (h : w.rowIs b t n f) (h1 : lo ≤ b) (h2 : b < hi) : OwnS w lo hi (some ⟨b, 0, none⟩) n f := fun k hk => ⟨b, rfl, h1, h2, h.cell hk, h.frozen k⟩
theorem OwnS.wide {w : World} {lo hi lo' hi' n : Nat} {ao : Option Addr} {f : Nat → Value} (h : OwnS w lo hi ao n f) (h1 : lo' ≤ lo) (h2 : hi ≤ hi') : OwnS w lo' hi' ao n f := fun k hk => by
  obtain ⟨b, e, q1, q2, hc, hf⟩ := h k hk
  exact ⟨b, e, by omega, by omega, hc, hf⟩
theorem OwnS.congr {w : World} {lo hi n : Nat} {ao : Option Addr} {f g : Nat → Value} (h : OwnS w lo hi ao n f) (e : ∀ k, k < n → f k = g k) : OwnS w lo hi ao n g := fun k hk => by
  obtain ⟨b, ea, q1, q2, hc, hf⟩ := h k hk
  exact ⟨b, ea, q1, q2, by rw [hc, e k hk], hf⟩
/-- a store into one of its cells -/
theorem OwnS.store {w : World} {lo hi n b k : Nat} {f : Nat → Value} (h : OwnS w lo hi (some ⟨b, 0, none⟩) n f) (v : Value) : OwnS (w.setCell ⟨b, k, none⟩ v) lo hi (some ⟨b, 0, none⟩) n (fun j => if j = k then v else f j) := fun j hj => by
  obtain ⟨b', e, q1, q2, hc, hf⟩ := h j hj
  obtain rfl : b = b' := by simpa using e
  refine ⟨b, rfl, q1, q2, ?_, ?_⟩
  · show _ = some (if j = k then v else f j)
    by_cases ej : j = k
    · subst ej
      rw [if_pos rfl]
      exact World.cell?_setCell_same _ _ _ hc
    · rw [if_neg ej]
      exact (World.cell?_setCell_other w ⟨b, k, none⟩ ⟨b, j, none⟩ v (fun e => ej (by cases e; rfl))).trans hc
  · rw [World.frozen?_setCell]
    exact hf

set_option maxHeartbeats 400000 in
theorem markIntS_any (ao : Option Addr) (n cap lo hi : Nat) (f : Nat → Int) (k0 : Int) (w : World) (hn : n ≤ 1048576) (hk0 : 0 ≤ k0) (hk1 : k0 ≤ 4611686018427387904) (h : OwnS w lo hi ao n (fun k => .int .i64 (f k))) :
    Calls Try.prog 44 #[.slice ao n cap, .int .i64 k0] w fun e w' => e = .returned (.int .i64 (k0 + n)) ∧ OwnS w' lo hi ao n (fun j => .int .i64 (k0 + j)) ∧ Only lo hi w w' ∧ w'.heap.size = w.heap.size := by
  go_enter Try.func44, Try.ntmps44
  go_wp2
  go_loopw [1, 5] (fun q i wr => ∃ k : Nat, k ≤ n ∧ i = .int .i64 k ∧ q = .int .i64 (k0 + k) ∧ OwnS wr lo hi ao n (fun j => if j < k then .int .i64 (k0 + j) else .int .i64 (f j)) ∧ Only lo hi w wr ∧ wr.heap.size = w.heap.size) (fun _ i _ => n - (intOf i).toNat)
  case atStart => exact ⟨0, Nat.zero_le _, rfl, by simp, h.congr (fun j _ => by simp), .refl _ _ _, rfl⟩
  case round =>
    obtain ⟨k, hk, rfl, rfl, ho, hon, hsz⟩ := hrel
    by_cases hlt : k < n
    · obtain ⟨b, rfl, q1, q2, hc, hf⟩ := ho k hlt
      have HR : Hid (OwnS (wr.setCell ⟨b, k, none⟩ (.int .i64 (k0 + k))) lo hi (some ⟨b, 0, none⟩) n (fun j => if j < k + 1 then .int .i64 (k0 + j) else .int .i64 (f j))) :=
        (ho.store (k := k) (.int .i64 (k0 + k))).congr (fun j _ => by
          by_cases e : j = k
          · subst e; simp
          · by_cases g : j < k
            · rw [if_neg e, if_pos g, if_pos (by omega)]
            · rw [if_neg e, if_neg g, if_neg (by omega)])
      have HO : Hid (Only lo hi w (wr.setCell ⟨b, k, none⟩ (.int .i64 (k0 + k)))) := hon.setCell q1 q2 _
      have HS : Hid (wr.heap.size = w.heap.size) := hsz
      clear ho hon hsz h
      go_wp2
      go_roundw
      case rel => exact ⟨k + 1, by omega, by go_num, by go_num, HR.out, HO.out, by simpa using HS.out⟩
      case measure => simp [intOf]; omega
    · obtain rfl : k = n := by omega
      have HR : Hid (OwnS wr lo hi ao k (fun j => .int .i64 (k0 + j))) := ho.congr (fun j hj => by rw [if_pos hj])
      clear ho h
      go_wp2
      go_ret
      exact ⟨rfl, HR.out, hon, hsz⟩

set_option maxHeartbeats 400000 in
theorem markBoolS_any (ao : Option Addr) (n cap lo hi : Nat) (f : Nat → Bool) (k0 : Int) (w : World) (hn : n ≤ 1048576) (hk0 : 0 ≤ k0) (hk1 : k0 ≤ 4611686018427387904) (h : OwnS w lo hi ao n (fun k => .bool (f k))) :
    Calls Try.prog 75 #[.slice ao n cap, .int .i64 k0] w fun e w' => e = .returned (.int .i64 (k0 + n)) ∧ OwnS w' lo hi ao n (fun j => .bool ((k0 + j) % 3 == 0)) ∧ Only lo hi w w' ∧ w'.heap.size = w.heap.size := by
  go_enter Try.func75, Try.ntmps75
  go_wp2
  go_loopw [1, 5] (fun q i wr => ∃ k : Nat, k ≤ n ∧ i = .int .i64 k ∧ q = .int .i64 (k0 + k) ∧ OwnS wr lo hi ao n (fun j => if j < k then .bool ((k0 + j) % 3 == 0) else .bool (f j)) ∧ Only lo hi w wr ∧ wr.heap.size = w.heap.size) (fun _ i _ => n - (intOf i).toNat)
  case atStart => exact ⟨0, Nat.zero_le _, rfl, by simp, h.congr (fun j _ => by simp), .refl _ _ _, rfl⟩
  case round =>
    obtain ⟨k, hk, rfl, rfl, ho, hon, hsz⟩ := hrel
    by_cases hlt : k < n
    · obtain ⟨b, rfl, q1, q2, hc, hf⟩ := ho k hlt
      have HR : Hid (OwnS (wr.setCell ⟨b, k, none⟩ (.bool ((k0 + k) % 3 == 0))) lo hi (some ⟨b, 0, none⟩) n (fun j => if j < k + 1 then .bool ((k0 + j) % 3 == 0) else .bool (f j))) :=
        (ho.store (k := k) (.bool ((k0 + k) % 3 == 0))).congr (fun j _ => by
          by_cases e : j = k
          · subst e; simp
          · by_cases g : j < k
            · rw [if_neg e, if_pos g, if_pos (by omega)]
            · rw [if_neg e, if_neg g, if_neg (by omega)])
      have HO : Hid (Only lo hi w (wr.setCell ⟨b, k, none⟩ (.bool ((k0 + k) % 3 == 0)))) := hon.setCell q1 q2 _
      have HS : Hid (wr.heap.size = w.heap.size) := hsz
      clear ho hon hsz h
      go_wp2
      go_roundw
      case rel => exact ⟨k + 1, by omega, by go_num, by go_num, HR.out, HO.out, by simpa using HS.out⟩
      case measure => simp [intOf]; omega
    · obtain rfl : k = n := by omega
      have HR : Hid (OwnS wr lo hi ao k (fun j => .bool ((k0 + j) % 3 == 0))) := ho.congr (fun j hj => by rw [if_pos hj])
      clear ho h
      go_wp2
      go_ret
      exact ⟨rfl, HR.out, hon, hsz⟩

set_option maxHeartbeats 400000 in
theorem markBoolSS_own (n b : Nat) (L : Nat → Nat) (g : Nat → Nat → Bool) (k0 : Int) (w : World) (hn : n ≤ 1048576) (hL : ∀ i, i < n → L i ≤ 1048576) (hk0 : 0 ≤ k0) (hk1 : k0 ≤ 4194304)
    (h : w.rowIs b 24 n (fun k => .slice (some ⟨b + 1 + k, 0, none⟩) (L k) (L k))) (hr : ∀ i, i < n → w.rowIs (b + 1 + i) 4 (L i) (fun j => .bool (g i j))) :
    Calls Try.prog 76 #[.slice (some ⟨b, 0, none⟩) n n, .int .i64 k0] w fun e w' => (∃ r : Int, e = .returned (.int .i64 r) ∧ 0 ≤ r) ∧ Only (b + 1) (b + 1 + n) w w' ∧ w'.heap.size = w.heap.size := by
  go_enter Try.func76, Try.ntmps76
  go_wp2
  go_loopw [1, 5] (fun q i wr => ∃ (k : Nat) (r : Int), k ≤ n ∧ i = .int .i64 k ∧ q = .int .i64 r ∧ 0 ≤ r ∧ r ≤ k0 + 1048576 * k ∧ Only (b + 1) (b + 1 + k) w wr ∧ wr.heap.size = w.heap.size) (fun _ i _ => n - (intOf i).toNat)
  case atStart => exact ⟨0, k0, Nat.zero_le _, rfl, rfl, hk0, by omega, .refl _ _ _, rfl⟩
  case round =>
    obtain ⟨k, r, hk, rfl, rfl, hr0, hr1, hon, hsz⟩ := hrel
    by_cases hlt : k < n
    · have hc := (hon.rowIs h (Or.inl (by omega))).cell hlt
      have hin := OwnS.ofRow (lo := b + 1 + k) (hi := b + 1 + k + 1) (hon.rowIs (hr k hlt) (Or.inr (by omega))) (Nat.le_refl _) (by omega)
      have hLk := hL k hlt
      clear h hr hL
      go_wp2_with fail
      refine (markBoolS_any (some ⟨b + 1 + k, 0, none⟩) (L k) (L k) (b + 1 + k) (b + 1 + k + 1) (g k) r wr hLk hr0 (by omega) hin).mono ?_
      rintro e w1 ⟨rfl, -, ho1, hs1⟩
      have HO : Hid (Only (b + 1) (b + 1 + (k + 1)) w w1) := (hon.wide (Nat.le_refl _) (by omega)).trans (ho1.wide (by omega) (by omega))
      have HS : Hid (w1.heap.size = w.heap.size) := hs1.trans hsz
      clear hon hsz hin hc ho1 hs1
      go_wp2
      go_roundw
      case rel => exact ⟨k + 1, _, by omega, by go_num, rfl, by omega, by omega, HO.out, HS.out⟩
      case measure => simp [intOf]; omega
    · obtain rfl : k = n := by omega
      clear h hr hL
      go_wp2
      go_ret
      exact ⟨⟨r, rfl, hr0⟩, hon, hsz⟩

set_option maxHeartbeats 1000000 in
theorem markRow_own (b : Nat) (d : RD) (k0 : Int) (w : World) (hs : Small d) (hk0 : 0 ≤ k0) (hk1 : k0 ≤ 1048576) (h : RowOwn w b d) :
    Calls Try.prog 43 #[.agg #[.slice (some ⟨b, 0, none⟩) d.nN d.nN, .slice (some ⟨b + 1, 0, none⟩) d.nF d.nF, .slice (some ⟨b + 2, 0, none⟩) d.nO d.nO, .slice (some ⟨b + 3, 0, none⟩) d.nW d.nW], .int .i64 k0] w fun e w' =>
      (∃ r : Int, e = .returned (.int .i64 r) ∧ 0 ≤ r) ∧ Only b (b + 4 + d.nW) w w' := by
  obtain ⟨s1, s2, s3, s4, s5⟩ := hs
  have hbk := Blk.new w #[.slice (some ⟨b, 0, none⟩) d.nN d.nN, .slice (some ⟨b + 1, 0, none⟩) d.nF d.nF, .slice (some ⟨b + 2, 0, none⟩) d.nO d.nO, .slice (some ⟨b + 3, 0, none⟩) d.nW d.nW] 27
  have hal : Only b (b + 4 + d.nW) w (w.alloc (.cells #[.slice (some ⟨b, 0, none⟩) d.nN d.nN, .slice (some ⟨b + 1, 0, none⟩) d.nF d.nF, .slice (some ⟨b + 2, 0, none⟩) d.nO d.nO, .slice (some ⟨b + 3, 0, none⟩) d.nW d.nW] 27)) := .ofBelow ((Below.refl _ _).alloc (Nat.le_refl _) _)
  have hlt : b + 4 + d.nW ≤ w.heap.size := by
    by_cases e : d.nW = 0
    · have := h.wk.lt; omega
    · have := (h.lm (d.nW - 1) (by omega)).lt; omega
  have hin : RowOwn (w.alloc (.cells #[.slice (some ⟨b, 0, none⟩) d.nN d.nN, .slice (some ⟨b + 1, 0, none⟩) d.nF d.nF, .slice (some ⟨b + 2, 0, none⟩) d.nO d.nO, .slice (some ⟨b + 3, 0, none⟩) d.nW d.nW] 27)) b d := h.keep ((Below.refl w.heap.size w).alloc (Nat.le_refl _) _) hlt
  clear h
  go_enter Try.func43, Try.ntmps43
  go_wp2_with fail
  generalize (w.alloc (.cells #[.slice (some ⟨b, 0, none⟩) d.nN d.nN, .slice (some ⟨b + 1, 0, none⟩) d.nF d.nF, .slice (some ⟨b + 2, 0, none⟩) d.nO d.nO, .slice (some ⟨b + 3, 0, none⟩) d.nW d.nW] 27)) = W at *
  refine (markIntS_any (some ⟨b, 0, none⟩) d.nN d.nN b (b + 1) d.nx k0 W s1 hk0 (by omega) (.ofRow hin.nx (Nat.le_refl _) (by omega))).mono ?_
  rintro e w1 ⟨rfl, -, o1, -⟩
  have hb1 := o1.blk hbk (Or.inr (by omega))
  have h2 := OwnS.ofRow (lo := b + 1) (hi := b + 2) (o1.rowIs hin.fr (Or.inr (by omega))) (Nat.le_refl _) (by omega)
  have h3 := o1.rowIs hin.op (Or.inr (by omega))
  have h4 := o1.rowIs hin.wk (Or.inr (by omega))
  have h5 : ∀ i, i < d.nW → w1.rowIs (b + 4 + i) _ _ _ := fun i hi => o1.rowIs (hin.lm i hi) (Or.inr (by omega))
  have O1 := hal.trans (o1.wide (Nat.le_refl _) (by omega))
  have c1 := hb1.cell 1
  simp at c1
  clear hbk hin o1 hal
  go_wp2_with fail
  refine (markIntS_any (some ⟨b + 1, 0, none⟩) d.nF d.nF (b + 1) (b + 2) d.fr _ w1 s2 (by omega) (by omega) h2).mono ?_
  rintro e w2 ⟨rfl, -, o2, -⟩
  have hb2 := o2.blk hb1 (Or.inr (by omega))
  have h3' := OwnS.ofRow (lo := b + 2) (hi := b + 3) (o2.rowIs h3 (Or.inr (by omega))) (Nat.le_refl _) (by omega)
  have h4' := o2.rowIs h4 (Or.inr (by omega))
  have h5' : ∀ i, i < d.nW → w2.rowIs (b + 4 + i) _ _ _ := fun i hi => o2.rowIs (h5 i hi) (Or.inr (by omega))
  have O2 := O1.trans (o2.wide (by omega) (by omega))
  have c2 := hb2.cell 2
  simp at c2
  clear hb1 o2 O1 c1 h2 h3 h4 h5
  go_wp2_with fail
  refine (markBoolS_any (some ⟨b + 2, 0, none⟩) d.nO d.nO (b + 2) (b + 3) d.op _ w2 s3 (by omega) (by omega) h3').mono ?_
  rintro e w3 ⟨rfl, -, o3, -⟩
  have hb3 := o3.blk hb2 (Or.inr (by omega))
  have h4 := o3.rowIs h4' (Or.inr (by omega))
  have h5 : ∀ i, i < d.nW → w3.rowIs (b + 3 + 1 + i) _ _ _ := fun i hi => o3.rowIs (h5' i hi) (Or.inr (by omega))
  have O3 := O2.trans (o3.wide (by omega) (by omega))
  have c3 := hb3.cell 3
  simp at c3
  clear hb2 o3 O2 c2 h3' h4' h5'
  go_wp2_with fail
  refine (markBoolSS_own d.nW (b + 3) d.L d.wk _ w3 s4 s5 (by omega) (by omega) (h4.congr fun i _ => by rw [show b + 4 + i = b + 3 + 1 + i by omega]) h5).mono ?_
  rintro e w4 ⟨⟨r, rfl, hr⟩, o4, -⟩
  have O4 := O3.trans (o4.wide (by omega) (by omega))
  clear hb3 o4 O3 c3 h4 h5 s5
  go_wp2
  go_ret
  exact ⟨⟨r, rfl, hr⟩, O4⟩

end Go.Proofs.Ytachkoledebanaa
