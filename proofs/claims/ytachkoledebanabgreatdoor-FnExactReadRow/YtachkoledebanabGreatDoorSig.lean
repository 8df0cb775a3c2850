/-
  A line read: the document's.
-/
import Derived.Test.YtachkoledebanabGreatDoorRea
import Derived.Deep.DeepCutAuto
import Derived.Laws.ResultCell
import Derived.Deep.RegionHeld3
namespace Go.Proofs.YtachkoledebanabGreatDoor
open Go.RowKit

theorem own_strs {w : World} {lo : Nat} {v : Value} {W : List (List UInt8)} (h : w.ownsRow lo 9 1 v W.length (strs W)) : ∃ ao cap, v = .slice ao W.length cap ∧ SlAt w ao W.length (fun k => .string (bs (W.getD k []))) := by
  obtain ⟨ao, cap, e, hs⟩ := own_cells h (by simp [strs])
  refine ⟨ao, cap, e, hs.congr fun k hk => ?_⟩
  simp [strs, hk]

theorem blk4_0 (w : World) (c0 : Array Value) (t0 : Nat) (o1 o2 o3 : Obj) : Blk ((((w.alloc (.cells c0 t0)).alloc o1).alloc o2).alloc o3) w.heap.size c0 t0 := (((Blk.new w c0 t0).alloc o1).alloc o2).alloc o3
theorem blk4_1 (w : World) (c1 : Array Value) (t1 : Nat) (o0 o2 o3 : Obj) : Blk ((((w.alloc o0).alloc (.cells c1 t1)).alloc o2).alloc o3) (w.heap.size + 1) c1 t1 := by
  have := ((Blk.new (w.alloc o0) c1 t1).alloc o2).alloc o3
  simpa using this
theorem blk4_2 (w : World) (c2 : Array Value) (t2 : Nat) (o0 o1 o3 : Obj) : Blk ((((w.alloc o0).alloc o1).alloc (.cells c2 t2)).alloc o3) (w.heap.size + 1 + 1) c2 t2 := by
  have := (Blk.new ((w.alloc o0).alloc o1) c2 t2).alloc o3
  simpa using this
theorem blk4_3 (w : World) (c3 : Array Value) (t3 : Nat) (o0 o1 o2 : Obj) : Blk ((((w.alloc o0).alloc o1).alloc o2).alloc (.cells c3 t3)) (w.heap.size + 1 + 1 + 1) c3 t3 := by
  have := Blk.new (((w.alloc o0).alloc o1).alloc o2) c3 t3
  simpa using this
theorem below4 (w : World) (o0 o1 o2 o3 : Obj) : Below w.heap.size w ((((w.alloc o0).alloc o1).alloc o2).alloc o3) := (((((Below.refl _ w).alloc (Nat.le_refl _) _).alloc (by simp) _).alloc (by simp; omega) _).alloc (by simp; omega) _)
theorem wordsA_small : ∀ (l cur x : List UInt8), x ∈ wordsA cur l → x.length ≤ cur.length + l.length
  | [], cur, x, h => by
    obtain rfl : x = cur := by simpa [wordsA] using h
    simp
  | c :: l, cur, x, h => by
    have e : wordsA cur (c :: l) = if c = 32 then cur :: wordsA [] l else wordsA (cur ++ [c]) l := rfl
    rw [e] at h
    split at h
    · rcases List.mem_cons.1 h with rfl | h
      · simp
      · have := wordsA_small l [] x h
        simp only [List.length_cons, List.length_nil] at this ⊢
        omega
    · have := wordsA_small l (cur ++ [c]) x h
      simp only [List.length_append, List.length_cons, List.length_nil] at this ⊢
      omega
theorem word_small (l : List UInt8) (k : Nat) : ((words l).getD k []).length ≤ l.length := by
  by_cases h : k < (words l).length
  · have hm : (words l).getD k [] ∈ words l := by simp [h]
    have := wordsA_small l [] _ hm
    simpa using this
  · simp [List.getElem?_eq_none (Nat.not_lt.1 h)]

/-- a row's four slices set to nil -/
def nilled (w : World) (B : Nat) : World := (((w.setCell ⟨B, 0, none⟩ (.slice none 0 0)).setCell ⟨B, 1, none⟩ (.slice none 0 0)).setCell ⟨B, 2, none⟩ (.slice none 0 0)).setCell ⟨B, 3, none⟩ (.slice none 0 0)
theorem nilled_below {w W : World} {B lo : Nat} (h : Below lo w W) (hl : lo ≤ B) : Below lo w (nilled W B) := (((h.setCell (p := ⟨B, 0, none⟩) hl _).setCell (p := ⟨B, 1, none⟩) hl _).setCell (p := ⟨B, 2, none⟩) hl _).setCell (p := ⟨B, 3, none⟩) hl _
theorem nilled_blk {w : World} {B : Nat} {u0 u1 u2 u3 : Value} (h : Blk w B #[u0, u1, u2, u3] 26) : Blk (nilled w B) B #[.slice none 0 0, .slice none 0 0, .slice none 0 0, .slice none 0 0] 26 := by
  have h1 := (((h.set 0 (.slice none 0 0)).set 1 (.slice none 0 0)).set 2 (.slice none 0 0)).set 3 (.slice none 0 0)
  unfold nilled
  simpa using h1

/-- the row that is being read -/
structure SR (w : World) (R b1 b2 b3 : Nat) (n f : Int) (o : Bool) (v4 : Value) (wz : World) : Prop where
  bk : Blk wz R #[.slice (some ⟨b1, 0, none⟩) 1 1, .slice (some ⟨b2, 0, none⟩) 1 1, .slice (some ⟨b3, 0, none⟩) 1 1, v4] 26
  k1 : Blk wz b1 #[.int .i64 n] 3
  k2 : Blk wz b2 #[.int .i64 f] 3
  k3 : Blk wz b3 #[.bool o] 4
  ne : b1 ≠ b2
  lR : w.heap.size ≤ R
  l1 : w.heap.size ≤ b1
  l2 : w.heap.size ≤ b2
  l3 : w.heap.size ≤ b3
  bel : Below w.heap.size w wz

theorem blk_ne {w : World} {b b' t t' : Nat} {c c' : Array Value} (h : Blk w b c t) (h' : Blk w b' c' t') (hne : t ≠ t') : b ≠ b' := fun e => by
  subst e
  have := (show w.heap[b]? = _ from h).symm.trans (show w.heap[b]? = _ from h')
  injection this with this
  injection this with _ this _
  exact hne this
/-- the next signal's number is laid -/
theorem SR.setN {w wz : World} {R b1 b2 b3 : Nat} {n f : Int} {o : Bool} {v4 : Value} (h : SR w R b1 b2 b3 n f o v4 wz) (n' : Int) : SR w R b1 b2 b3 n' f o v4 (wz.setCell ⟨b1, 0, none⟩ (.int .i64 n')).drew := by
  have e1 := (h.bk.other (a := ⟨b1, 0, none⟩) (blk_ne h.bk h.k1 (by decide)) (.int .i64 n')).drew
  have e2 := (h.k2.other (a := ⟨b1, 0, none⟩) (Ne.symm h.ne) (.int .i64 n')).drew
  have e3 := (h.k3.other (a := ⟨b1, 0, none⟩) (blk_ne h.k3 h.k1 (by decide)) (.int .i64 n')).drew
  have e4 := (h.k1.set 0 (.int .i64 n')).drew
  exact ⟨e1, by simpa using e4, e2, e3, h.ne, h.lR, h.l1, h.l2, h.l3, (h.bel.setCell (p := ⟨b1, 0, none⟩) h.l1 _).drew⟩

theorem own_blk_ne {w : World} {B e s n b t : Nat} {v : Value} {xs : List Value} {c : Array Value} (h : w.ownsRow B e s v n xs) (hb : Blk w b c t) (hne : e ≠ t) : v.ownBlock ≠ some b := fun e1 => by
  rcases h.2 with ⟨rfl, _⟩ | ⟨g, cap, cur, rfl, _, hg, _⟩
  · simp [Value.ownBlock] at e1
  · obtain rfl : g = b := by simpa [Value.ownBlock] using e1
    have := hg.symm.trans (show w.heap[g]? = _ from hb)
    injection this with this
    injection this with _ this _
    exact hne this
/-- the lamps' list grows beside the row -/
theorem SR.app {w wr w4 : World} {R b1 b2 b3 lo q : Nat} {n f : Int} {o : Bool} {v4 v : Value} {xs : List Value} {ob : Obj} (h : SR w R b1 b2 b3 n f o v4 wr) (hown : wr.ownsRow lo 4 1 v q xs) (hl : w.heap.size ≤ lo) (hnb : v.ownBlock ≠ some b3) (hg : (wr.alloc ob).grownBy w4 v.ownBlock) : SR w R b1 b2 b3 n f o v4 w4 := by
  have hk : ∀ {b t : Nat} {c : Array Value}, Blk wr b c t → v.ownBlock ≠ some b → Blk w4 b c t := fun {b t c} hb hne =>
    (hg.block b (by simp; have := hb.lt; omega) (fun e => hne e.symm)).trans ((Below.heap_alloc wr ob b hb.lt).trans hb)
  refine ⟨hk h.bk (own_blk_ne hown h.bk (by decide)), hk h.k1 (own_blk_ne hown h.k1 (by decide)), hk h.k2 (own_blk_ne hown h.k2 (by decide)), hk h.k3 hnb, h.ne, h.lR, h.l1, h.l2, h.l3, ?_⟩
  have hs := h.bel.size
  exact (h.bel.alloc hs ob).grown hg (by simp; omega) (fun k e => by have := (hown.lt k e).1; omega)

/-- a row's four slices laid -/
def laid4 (w : World) (B : Nat) (x0 x1 x2 x3 : Value) : World := (((w.setCell ⟨B, 0, none⟩ x0).setCell ⟨B, 1, none⟩ x1).setCell ⟨B, 2, none⟩ x2).setCell ⟨B, 3, none⟩ x3
theorem laid4_below {w W : World} {B lo : Nat} (h : Below lo w W) (hl : lo ≤ B) (x0 x1 x2 x3 : Value) : Below lo w (laid4 W B x0 x1 x2 x3) := (((h.setCell (p := ⟨B, 0, none⟩) hl _).setCell (p := ⟨B, 1, none⟩) hl _).setCell (p := ⟨B, 2, none⟩) hl _).setCell (p := ⟨B, 3, none⟩) hl _
theorem laid4_blk {w : World} {B t : Nat} {u0 u1 u2 u3 : Value} (h : Blk w B #[u0, u1, u2, u3] t) (x0 x1 x2 x3 : Value) : Blk (laid4 w B x0 x1 x2 x3) B #[x0, x1, x2, x3] t := by
  have h1 := (((h.set 0 x0).set 1 x1).set 2 x2).set 3 x3
  unfold laid4
  simpa using h1
theorem laid4_other {w : World} {B b t : Nat} {c : Array Value} (h : Blk w b c t) (hne : b ≠ B) (x0 x1 x2 x3 : Value) : Blk (laid4 w B x0 x1 x2 x3) b c t :=
  (((h.other (a := ⟨B, 0, none⟩) hne _).other (a := ⟨B, 1, none⟩) hne _).other (a := ⟨B, 2, none⟩) hne _).other (a := ⟨B, 3, none⟩) hne _
theorem laid4_owns {w : World} {T B e s n : Nat} {v : Value} {xs : List Value} (h : w.ownsRow B e s v n xs) (hT : T < B) (x0 x1 x2 x3 : Value) : (laid4 w T x0 x1 x2 x3).ownsRow B e s v n xs := by
  have hR : ∀ {W : World} {q : Nat} {x : Value}, W.ownsRow B e s v n xs → (W.setCell ⟨T, q, none⟩ x).ownsRow B e s v n xs := fun hv => ownsRow_setCell_other hv (fun e => by have := (hv.lt T e).1; omega) _
  exact hR (hR (hR (hR h)))

/-- the lamps' list is laid into the row -/
theorem SR.lamps {w wr : World} {R b1 b2 b3 : Nat} {n f : Int} {o : Bool} {v4 v : Value} (h : SR w R b1 b2 b3 n f o v4 wr) : SR w R b1 b2 b3 n f o (.slice (some ⟨wr.heap.size, 0, none⟩) 1 1) ((wr.setCell ⟨R, 3, none⟩ (.slice (some ⟨wr.heap.size, 0, none⟩) 1 1)).alloc (.cells #[v] 23)) := by
  have e0 := (h.bk.set 3 (.slice (some ⟨wr.heap.size, 0, none⟩) 1 1)).alloc (.cells #[v] 23)
  have hs := h.bel.size
  have hz : (wr.setCell ⟨R, 3, none⟩ (.slice (some ⟨wr.heap.size, 0, none⟩) 1 1)).heap.size = wr.heap.size := by simp
  exact ⟨by simpa using e0, (h.k1.other (a := ⟨R, 3, none⟩) (Ne.symm (blk_ne h.bk h.k1 (by decide))) _).alloc _, (h.k2.other (a := ⟨R, 3, none⟩) (Ne.symm (blk_ne h.bk h.k2 (by decide))) _).alloc _, (h.k3.other (a := ⟨R, 3, none⟩) (Ne.symm (blk_ne h.bk h.k3 (by decide))) _).alloc _, h.ne, h.lR, h.l1, h.l2, h.l3, (h.bel.setCell (p := ⟨R, 3, none⟩) h.lR _).alloc (by rw [hz]; exact hs) _⟩
theorem XL.of {w wz : World} {R b1 b2 b3 b4 bw cw lo : Nat} {v4 : Value} {g : Sg} (h : SR w R b1 b2 b3 g.nx g.fr g.op v4 wz) (h4 : Blk wz b4 #[.slice (some ⟨bw, 0, none⟩) 4 cw] 23) (hl : wz.ownsRow w.heap.size 4 1 (.slice (some ⟨bw, 0, none⟩) 4 cw) 4 (lampV g)) (hb4 : w.heap.size ≤ b4) (hlo : lo ≤ w.heap.size) : XL lo g b1 b2 b3 b4 bw cw wz :=
  ⟨h.k1, h.k2, h.k3, h4, owns_low hl hlo, Nat.le_trans hlo h.l1, Nat.le_trans hlo h.l2, Nat.le_trans hlo h.l3, Nat.le_trans hlo hb4⟩
theorem XL.at {lo : Nat} {g : Sg} {p1 p2 p3 p4 bw cw : Nat} {w : World} (h : XL lo g p1 p2 p3 p4 bw cw w) : RowAt w (some ⟨p1, 0, none⟩) (some ⟨p2, 0, none⟩) (some ⟨p3, 0, none⟩) (some ⟨p4, 0, none⟩) (fun _ => some ⟨bw, 0, none⟩) (fun _ => cw) (one g) := by
  have k0 : ∀ {k : Nat}, k < 1 → k = 0 := fun h => by omega
  refine ⟨fun k hk => ⟨p1, 0, rfl, ?_⟩, fun k hk => ⟨p2, 0, rfl, ?_⟩, fun k hk => ⟨p3, 0, rfl, ?_⟩, fun k hk => ⟨p4, 0, rfl, ?_⟩, fun i _ => (own_slat h.lm (by simp [lampV])).congr fun k hk => ?_⟩
  · rw [k0 hk]; exact h.k1.cell 0
  · rw [k0 hk]; exact h.k2.cell 0
  · rw [k0 hk]; exact h.k3.cell 0
  · rw [k0 hk]; exact h.k4.cell 0
  · have hk' : k < 4 := hk
    simp [one, lampV, hk']
theorem XL.laid {lo lo' : Nat} {g : Sg} {p1 p2 p3 p4 bw cw T : Nat} {w : World} (h : XL lo g p1 p2 p3 p4 bw cw w) (hT : T < lo) (hl : lo' ≤ lo) (x0 x1 x2 x3 : Value) : XL lo' g p1 p2 p3 p4 bw cw (laid4 w T x0 x1 x2 x3) :=
  ⟨laid4_other h.k1 (by have := h.l1; omega) _ _ _ _, laid4_other h.k2 (by have := h.l2; omega) _ _ _ _, laid4_other h.k3 (by have := h.l3; omega) _ _ _ _, laid4_other h.k4 (by have := h.l4; omega) _ _ _ _, owns_low (laid4_owns h.lm hT _ _ _ _) hl, Nat.le_trans hl h.l1, Nat.le_trans hl h.l2, Nat.le_trans hl h.l3, Nat.le_trans hl h.l4⟩
theorem XL.keep {lo : Nat} {g : Sg} {p1 p2 p3 p4 bw cw : Nat} {w w' : World} (h : XL lo g p1 p2 p3 p4 bw cw w) (hb : Below w.heap.size w w') : XL lo g p1 p2 p3 p4 bw cw w' := by
  refine ⟨h.k1.keep hb, h.k2.keep hb, h.k3.keep hb, h.k4.keep hb, ?_, h.l1, h.l2, h.l3, h.l4⟩
  obtain ⟨q1, q2⟩ := h.lm
  refine ⟨q1, ?_⟩
  rcases q2 with q2 | ⟨gb, cap, cur, e1, e2, e3, e4⟩
  · exact Or.inl q2
  · exact Or.inr ⟨gb, cap, cur, e1, e2, (hb.block gb (Array.getElem?_eq_some_iff.1 e3).1).trans e3, e4⟩

set_option maxHeartbeats 40000000 in
set_option maxRecDepth 100000 in
theorem signal_any (l : List UInt8) (w : World) (hl : l.length ≤ 1048576) :
    Calls Tryz.prog 12 #[.string (bs l)] w fun e w' => RetSig l w.heap.size e w' ∧ Below w.heap.size w w' := by
  obtain ⟨ib, hib, hzb0, hzb1, hzb2⟩ := info_parts Tryz.iBool
  have bel : Below w.heap.size w (w.alloc (.cells #[.slice none 0 0, .slice none 0 0, .slice none 0 0, .slice none 0 0] 26)) := (Below.refl _ _).alloc (Nat.le_refl _) _
  have hbk := Blk.new w #[.slice none 0 0, .slice none 0 0, .slice none 0 0, .slice none 0 0] 26
  go_enter Tryz.func12, Tryz.ntmps12
  go_wp2_with fail
  generalize (w.alloc (.cells #[.slice none 0 0, .slice none 0 0, .slice none 0 0, .slice none 0 0] 26)) = W0 at *
  refine (words_any l W0 hl).mono ?_
  rintro e w1 ⟨⟨v, rfl, hown⟩, hb1⟩
  have hwl := wordsA_len l []
  obtain ⟨ao, cap, rfl, hsl⟩ := own_strs hown
  have HSL : Hid (SlAt w1 ao (words l).length (fun k => .string (bs ((words l).getD k [])))) := hsl
  have hbk1 := hbk.keep hb1
  have bel1 : Below w.heap.size w w1 := chain bel hb1
  obtain ⟨Ws, hWs⟩ : ∃ Ws, Ws = words l := ⟨_, rfl⟩
  have HWS : Hid (Ws = words l) := hWs
  rw [← hWs] at HSL ⊢
  have hwl2 : Ws.length ≤ l.length + 1 := by rw [hWs]; exact hwl
  clear hwl hWs hown hsl hbk hb1 bel
  by_cases h6 : Ws.length < 6
  · have HN : Hid (∀ g, ¬ IsLine l g) := fun g hg => by
      have h1 := (isLine_iff.1 hg).1.six
      rw [← HWS.out] at h1
      omega
    have s0 := hbk1.cell 0
    have s1 := hbk1.cell 1
    have s2 := hbk1.cell 2
    have s3 := hbk1.cell 3
    have f0 := hbk1.free 0
    have f1 := hbk1.free 1
    have f2 := hbk1.free 2
    have f3 := hbk1.free 3
    simp at s0 s1 s2 s3
    have HB4 : Hid (Below w.heap.size w (nilled w1 w.heap.size)) := nilled_below bel1 (Nat.le_refl _)
    have HC4 := nilled_blk hbk1
    have c0 := HC4.cell 0
    have c1 := HC4.cell 1
    have c2 := HC4.cell 2
    have c3 := HC4.cell 3
    unfold nilled at c0 c1 c2 c3 HB4
    simp only [List.getElem?_toArray, List.getElem?_cons_succ, List.getElem?_cons_zero] at c0 c1 c2 c3
    go_wp2
    refine bodyPost_ret (v := .tuple #[.agg #[.slice none 0 0, .slice none 0 0, .slice none 0 0, .slice none 0 0], .bool false]) ?_ rfl ⟨Or.inr ⟨HN.out, _, _, _, _, _, _, _, _, _, _, _, _, rfl⟩, HB4.out⟩
    rw [results_cell_tmp rfl]
    simp [go_sem, c0, c1, c2, c3]
  have z6 : decide ((Ws.length : Int) < 6) = false := by simp; omega
  obtain ⟨b, o, rfl, hc2⟩ := HSL.out 2 (by omega)
  replace hc2 : w1.cell? ⟨b, o + 2, none⟩ = some (.string (bs (Ws.getD 2 []))) := hc2
  by_cases h4 : (Ws.getD 2 []).length = 4
  case neg =>
    have HN : Hid (∀ g, ¬ IsLine l g) := fun g hg => by
      have h1 := (isLine_iff.1 hg).1.four
      rw [← HWS.out] at h1
      exact h4 h1
    have z4 : (bs (Ws.getD 2 [])).size = (Ws.getD 2 []).length := bs_size _
    have z4' : (((Ws.getD 2 []).length : Int) != 4) = true := by rw [bne_iff_ne]; omega
    have hlt4 : (Ws.getD 2 []).length ≤ 1048576 := by rw [HWS.out]; have := word_small l 2; omega
    have s0 := hbk1.cell 0
    have s1 := hbk1.cell 1
    have s2 := hbk1.cell 2
    have s3 := hbk1.cell 3
    have f0 := hbk1.free 0
    have f1 := hbk1.free 1
    have f2 := hbk1.free 2
    have f3 := hbk1.free 3
    simp at s0 s1 s2 s3
    have HB4 : Hid (Below w.heap.size w (nilled w1 w.heap.size)) := nilled_below bel1 (Nat.le_refl _)
    generalize Ws.getD 2 [] = x2 at *
    have HC4 := nilled_blk hbk1
    have c0 := HC4.cell 0
    have c1 := HC4.cell 1
    have c2 := HC4.cell 2
    have c3 := HC4.cell 3
    unfold nilled at c0 c1 c2 c3 HB4
    simp only [List.getElem?_toArray, List.getElem?_cons_succ, List.getElem?_cons_zero] at c0 c1 c2 c3
    go_wp2
    refine bodyPost_ret (v := .tuple #[.agg #[.slice none 0 0, .slice none 0 0, .slice none 0 0, .slice none 0 0], .bool false]) ?_ rfl ⟨Or.inr ⟨HN.out, _, _, _, _, _, _, _, _, _, _, _, _, rfl⟩, HB4.out⟩
    rw [results_cell_tmp rfl]
    simp [go_sem, c0, c1, c2, c3]
  have hc0 : w1.cell? ⟨b, o, none⟩ = some (.string (bs (Ws.getD 0 []))) := by
    obtain ⟨b', o', e, h⟩ := HSL.out 0 (by omega)
    injection e with e
    injection e with e1 e2
    subst e1 e2
    exact h
  obtain ⟨N, hM⟩ : ∃ N, Ws.length = N := ⟨Ws.length, rfl⟩
  have hcL : w1.cell? ⟨b, o + ((N : Int) - 1).toNat, none⟩ = some (.string (bs (Ws.getD (Ws.length - 1) []))) := by
    obtain ⟨b', o', e, h⟩ := HSL.out (Ws.length - 1) (by omega)
    injection e with e
    injection e with e1 e2
    subst e1 e2
    rw [show ((N : Int) - 1).toNat = Ws.length - 1 by omega]
    exact h
  have hcL' : w1.cell? ⟨b, o + (N - 1), none⟩ = some (.string (bs (Ws.getD (Ws.length - 1) []))) := by
    rw [← hcL, show ((N : Int) - 1).toNat = N - 1 by omega]
  have hx0l : (Ws.getD 0 []).length ≤ 1048576 := by rw [HWS.out]; have := word_small l 0; omega
  have hxLl : (Ws.getD (Ws.length - 1) []).length ≤ 1048576 := by rw [HWS.out]; have := word_small l ((words l).length - 1); omega
  have z4 : (bs (Ws.getD 2 [])).size = 4 := by rw [bs_size]; exact h4
  have HX2 : Hid (∀ x, x = Ws.getD 2 [] → x = Ws.getD 2 []) := fun _ e => e
  generalize hx2 : Ws.getD 2 [] = x2 at *
  generalize hx0 : Ws.getD 0 [] = x0 at *
  generalize hxL : Ws.getD (Ws.length - 1) [] = xL at *
  have HXX : Hid (Ws.getD 2 [] = x2 ∧ Ws.getD 0 [] = x0 ∧ Ws.getD (Ws.length - 1) [] = xL ∧ Ws.length = N) := ⟨hx2, hx0, hxL, hM⟩
  rw [hM] at z6 h6 hwl2 ⊢
  clear hx2 hx0 hxL hM HX2
  have hnum := num_bd xL
  have hq1 : (0 : Int) ≤ (N : Int) - 1 := by omega
  have hq2 : (1 : Int) ≤ (N : Int) := by omega
  have hq3 : 1 ≤ N := by omega
  have hq4 : (N : Int) - 1 < (N : Int) := by omega
  have hq5 : 0 < N := by omega
  have hwr : IntKind.i64.wrap ((N : Int) - 1) = (N : Int) - 1 := by rw [IntKind.wrap_i64]; omega
  have hbw : b < w1.heap.size := block_lt_of_cell hc0
  have hbw1 : b < w1.heap.size + 1 := by omega
  have hbw2 : b < w1.heap.size + 1 + 1 := by omega
  have hbw3 : b < w1.heap.size + 1 + 1 + 1 := by omega
  have heq : ((bs x0).toList == [111, 112, 101, 110]) = decide (x0 = [111, 112, 101, 110]) := by rw [bs_list]; by_cases e : x0 = [111, 112, 101, 110] <;> simp [e]
  go_wp2_with fail
  go_cut [5] (fun t wz => ∃ R b1 b2 b3, t = .pointer (some ⟨R, 0, none⟩) ∧ SR w1 R b1 b2 b3 (-1) (num xL) (decide (x0 = [111, 112, 101, 110])) (.slice none 0 0) wz)
  case first =>
    have HEQ : Hid (((bs x0).toList == [111, 112, 101, 110]) = decide (x0 = [111, 112, 101, 110])) := heq
    clear hnum heq HXX HSL HWS hc2 hcL h4 h6 z6 hwl2 bel1 hbk1 hx0l hl z4
    go_region_held3 (fun w' => w'.cell? ⟨b, o, none⟩ = some (.string (bs x0)) ∧ w'.cell? ⟨b, o + (N - 1), none⟩ = some (.string (bs xL))) (first | exact ⟨hc0, hcL'⟩ | (refine ⟨?_, ?_⟩ <;> simp [go_sem, hc0, hcL', hbw, hbw1, hbw2, hbw3])) ((go_at_call 29; refine (num_any xL _ hxLl).mono ?_; rintro e w2 ⟨rfl, rfl⟩))
    all_goals
      go_wp2_with fail
      go_meet
      rw [HEQ.out]
      apply Exists.intro
      apply Exists.intro
      apply Exists.intro
      apply Exists.intro
      refine ⟨rfl, ?_⟩
      apply SR.mk
      case bk => first | exact blk4_0 _ _ _ _ _ _ | exact blk4_1 _ _ _ _ _ _ | exact blk4_2 _ _ _ _ _ _ | exact blk4_3 _ _ _ _ _ _
      case k1 => first | exact blk4_0 _ _ _ _ _ _ | exact blk4_1 _ _ _ _ _ _ | exact blk4_2 _ _ _ _ _ _ | exact blk4_3 _ _ _ _ _ _
      case k2 => first | exact blk4_0 _ _ _ _ _ _ | exact blk4_1 _ _ _ _ _ _ | exact blk4_2 _ _ _ _ _ _ | exact blk4_3 _ _ _ _ _ _
      case k3 => first | exact blk4_0 _ _ _ _ _ _ | exact blk4_1 _ _ _ _ _ _ | exact blk4_2 _ _ _ _ _ _ | exact blk4_3 _ _ _ _ _ _
      case ne => omega
      case lR => omega
      case l1 => omega
      case l2 => omega
      case l3 => omega
      case bel => exact (below4 _ _ _ _ _).drew
  case rest =>
    obtain ⟨V, rfl⟩ : ∃ V, V = wc := ⟨wc, rfl⟩
    obtain ⟨R, b1, b2, b3, rfl, hS⟩ := hcut
    have HS : Hid (SR w1 R b1 b2 b3 (-1) (num xL) (decide (x0 = [111, 112, 101, 110])) (.slice none 0 0) V) := hS
    have HBZ : Hid (Blk w1 w.heap.size #[.slice none 0 0, .slice none 0 0, .slice none 0 0, .slice none 0 0] 26) := hbk1
    have hq := hbk1.lt
    have HC2 : Hid (w1.cell? ⟨b, o + 2, none⟩ = some (.string (bs x2))) := hc2
    have HBL : Hid (Below w.heap.size w w1) := bel1
    have HRD : Hid (∀ gn, (gn = if N = 7 then num (Ws.getD 4 []) else -1) → gOf Ws = ⟨decide (x0 = [111, 112, 101, 110]), fun a => decide (a < 4) && decide (x2.getD a 0 ≠ 45), gn, num xL⟩) := fun gn hgn => by
      unfold gOf
      rw [HXX.out.1, HXX.out.2.1, HXX.out.2.2.1, HXX.out.2.2.2, hgn]
    have HFT : Hid (∀ gn, (gn = if N = 7 then num (Ws.getD 4 []) else -1) → (N = 7 → 0 ≤ gn) → 0 ≤ num xL → Fits Ws) := fun gn hgn h2 h3 => by
      refine ⟨by rw [HXX.out.2.2.2]; omega, by rw [HXX.out.1]; exact h4, fun e => ?_, by rw [HXX.out.2.2.1]; exact h3⟩
      rw [HXX.out.2.2.2] at e
      have := h2 e
      rw [hgn, if_pos e] at this
      exact this
    clear hS hc0 hc2 hcL hcL' hwr hbw hbw1 hbw2 hbw3 hbk1 heq bel1 hq1 hq2 hq3 hq4 hq5
    by_cases h7 : N = 7
    case pos =>
      have z7 : ((N : Int) == 7) = true := by rw [beq_iff_eq]; omega
      have hc4 : V.cell? ⟨b, o + 4, none⟩ = some (.string (bs (Ws.getD 4 []))) := by
        obtain ⟨b', o', e, h⟩ := HSL.out 4 (by rw [HXX.out.2.2.2]; omega)
        injection e with e
        injection e with e1 e2
        subst e1 e2
        exact (HS.out.bel.cell (p := ⟨b, o + 4, none⟩) (block_lt_of_cell h)).trans h
      have hx4l : (Ws.getD 4 []).length ≤ 1048576 := by rw [HWS.out]; have := word_small l 4; omega
      obtain ⟨x4, hx4⟩ : ∃ x4, x4 = Ws.getD 4 [] := ⟨_, rfl⟩
      have HX4 : Hid (x4 = Ws.getD 4 []) := hx4
      rw [← hx4] at hc4 hx4l
      have r0 := HS.out.bk.cell 0
      have q0 := HS.out.k1.cell 0
      have q1 := HS.out.k1.free 0
      simp at r0 q0
      have hq9 : 4 < N := by omega
      have hq8 : (4 : Int) < (N : Int) := by omega
      have H7 : Hid (N = 7) := h7
      clear hx4 h7
      go_wp2_with fail
      go_cut [44] (fun _ wz => SR w1 R b1 b2 b3 (num x4) (num xL) (decide (x0 = [111, 112, 101, 110])) (.slice none 0 0) wz)
      case first =>
        go_region_law ((go_simp; go_at_call 29; refine (num_any x4 _ hx4l).mono ?_; rintro e w2 ⟨rfl, rfl⟩; dsimp only))
        all_goals
          go_wp2_with fail
          go_meet
          exact HS.out.setN _
      case rest =>
      obtain ⟨V2, rfl⟩ : ∃ V2, V2 = wc := ⟨wc, rfl⟩
      have HS2 : Hid (SR w1 R b1 b2 b3 (num x4) (num xL) (decide (x0 = [111, 112, 101, 110])) (.slice none 0 0) V2) := hcut
      clear hcut r0 q0 q1 hc4
      have r0 := HS2.out.bk.cell 0
      have q0 := HS2.out.k1.cell 0
      simp at r0 q0
      by_cases hneg : num x4 < 0
      · have HN : Hid (∀ g, ¬ IsLine l g) := fun g hg => by
          have h1 := (isLine_iff.1 hg).1.nx
          rw [← HWS.out, HXX.out.2.2.2, ← HX4.out] at h1
          have := h1 H7.out
          omega
        have z8 : decide (num x4 < 0) = true := by simpa using hneg
        have HB4 : Hid (Below w.heap.size w (nilled V2 w.heap.size)) := nilled_below (chain HBL.out HS2.out.bel) (Nat.le_refl _)
        have hbz2 := HBZ.out.keep HS2.out.bel
        have s0 := hbz2.cell 0
        have s1 := hbz2.cell 1
        have s2 := hbz2.cell 2
        have s3 := hbz2.cell 3
        have f0 := hbz2.free 0
        have f1 := hbz2.free 1
        have f2 := hbz2.free 2
        have f3 := hbz2.free 3
        simp only [List.getElem?_toArray, List.getElem?_cons_succ, List.getElem?_cons_zero] at s0 s1 s2 s3
        have HC4 := nilled_blk hbz2
        have c0 := HC4.cell 0
        have c1 := HC4.cell 1
        have c2 := HC4.cell 2
        have c3 := HC4.cell 3
        unfold nilled at c0 c1 c2 c3 HB4
        simp only [List.getElem?_toArray, List.getElem?_cons_succ, List.getElem?_cons_zero] at c0 c1 c2 c3
        go_wp2
        refine bodyPost_ret (v := .tuple #[.agg #[.slice none 0 0, .slice none 0 0, .slice none 0 0, .slice none 0 0], .bool false]) ?_ rfl ⟨Or.inr ⟨HN.out, _, _, _, _, _, _, _, _, _, _, _, _, rfl⟩, HB4.out⟩
        rw [results_cell_tmp rfl]
        simp [go_sem, c0, c1, c2, c3]
      have z8 : decide (num x4 < 0) = false := by simpa using hneg
      have HGN : Hid (num x4 = (if N = 7 then num (Ws.getD 4 []) else -1) ∧ (N = 7 → 0 ≤ num x4)) := ⟨by rw [if_pos H7.out, HX4.out], fun _ => by omega⟩
      have hgb := num_bd x4
      go_wp2
      clear r0 q0 z7 z8 hneg hq8 hq9 hx4l HS HX4 H7
      generalize num x4 = gn at *
      go_loopw [6, 7] (fun v t wr => ∃ q : Nat, q ≤ 4 ∧ t = .int .i64 q ∧ wr.ownsRow w1.heap.size 4 1 v q ((List.range q).map fun a => .bool (decide (x2.getD a 0 ≠ 45))) ∧ SR w1 R b1 b2 b3 gn (num xL) (decide (x0 = [111, 112, 101, 110])) (.slice none 0 0) wr ∧ v.ownBlock ≠ some b3) (fun _ t _ => 4 - (intOf t).toNat)
      case atStart => exact ⟨0, by omega, rfl, World.ownsRow_nil _ _ _ _, HS2.out, by simp [Value.ownBlock]⟩
      case round =>
        obtain ⟨q, hq4, rfl, hown, hSR, hnb⟩ := hrel
        have HSR : Hid (SR w1 R b1 b2 b3 gn (num xL) (decide (x0 = [111, 112, 101, 110])) (.slice none 0 0) wr) := hSR
        obtain ⟨sv, kv, rfl⟩ := own_shape hown
        have HNB : Hid ((Value.slice sv q kv).ownBlock ≠ some b3) := hnb
        clear hSR hnb
        by_cases hlt : q < 4
        · have hc2 := (HSR.out.bel.cell (p := ⟨b, o + 2, none⟩) (block_lt_of_cell HC2.out)).trans HC2.out
          have hg := idx_bs x2 q (by omega) wr
          have hqN : 2 < N := by omega
          have hqN' : (2 : Int) < (N : Int) := by omega
          obtain ⟨bq, hbq⟩ : ∃ bq, bq = decide (x2.getD q 0 ≠ 45) := ⟨_, rfl⟩
          have hcmp : (((x2.getD q 0).toNat : Int) != 45) = bq := by
            rw [hbq]
            by_cases e : x2.getD q 0 = 45
            · rw [e]; simp
            · rw [decide_eq_true e, bne_iff_ne]
              intro e2
              exact e (UInt8.toNat.inj (by rw [show (45 : UInt8).toNat = 45 from rfl]; omega))
          have HBQ : Hid (bq = decide (x2.getD q 0 ≠ 45)) := hbq
          clear hbq
          generalize x2.getD q 0 = cq at hg hcmp
          have hBz := HSR.out.bel.size
          have hk3 := HSR.out.k3.lt
          go_wp2_with (at_builtin; (refine wpList_append_own_at _ rfl _ _ 23 rfl w1.heap.size 4 ib (.bool false) 1 1 Tryz.uBools hib hzb0 hzb1 hzb2 rfl (by decide) (.slice sv q kv) q ((List.range q).map fun a => .bool (decide (x2.getD a 0 ≠ 45))) rfl (hown.alloc _) ⟨wr.heap.size, 0, none⟩ 1 1 [.bool bq] rfl rfl (cell_one_new _ _ _) (by simp [Value.oneCell']) (by unfold maxLen; omega) (by omega) (by simp; omega) ?_; intro v' w6 hown' hgrow hnil hloc))
          have HS3 : Hid (SR w1 R b1 b2 b3 gn (num xL) (decide (x0 = [111, 112, 101, 110])) (.slice none 0 0) w6) := HSR.out.app hown (Nat.le_refl _) HNB.out hgrow
          have HO3 : Hid (w6.ownsRow w1.heap.size 4 1 v' (q + 1) ((List.range (q + 1)).map fun a => .bool (decide (x2.getD a 0 ≠ 45)))) := by
            show World.ownsRow _ _ _ _ _ _ _
            rw [List.range_succ, List.map_append, List.map_singleton, ← HBQ.out]
            exact hown'
          have HN3 : Hid (v'.ownBlock ≠ some b3) := by
            rcases hloc with e | e
            · show v'.ownBlock ≠ _
              rw [e]; exact HNB.out
            · show v'.ownBlock ≠ _
              rw [e]
              intro e2
              injection e2 with e2
              simp at e2
              omega
          clear hown' hgrow hnil hloc hown
          go_roundw
          case rel => exact ⟨q + 1, by omega, by go_num, HO3.out, HS3.out, HN3.out⟩
          case measure => simp [intOf]; omega
        · obtain rfl : q = 4 := by omega
          have x3 := HSR.out.bk.cell 3
          have f3 := HSR.out.bk.free 3
          simp at x3
          have hBz := HSR.out.bel.size
          have hRl := HSR.out.bk.lt
          have hx3' := (HSR.out.bk.alloc (.cells #[.slice sv 4 kv] 23)).cell 3
          have hf3' := (HSR.out.bk.alloc (.cells #[.slice sv 4 kv] 23)).free 3
          simp only [List.getElem?_toArray, List.getElem?_cons_succ, List.getElem?_cons_zero] at hx3'
          have HS4 : Hid (SR w1 R b1 b2 b3 gn (num xL) (decide (x0 = [111, 112, 101, 110])) (.slice (some ⟨wr.heap.size, 0, none⟩) 1 1) ((wr.setCell ⟨R, 3, none⟩ (.slice (some ⟨wr.heap.size, 0, none⟩) 1 1)).alloc (.cells #[.slice sv 4 kv] 23))) := HSR.out.lamps
          have HB4 : Hid (Blk ((wr.setCell ⟨R, 3, none⟩ (.slice (some ⟨wr.heap.size, 0, none⟩) 1 1)).alloc (.cells #[.slice sv 4 kv] 23)) wr.heap.size #[.slice sv 4 kv] 23) := by
            have := Blk.new (wr.setCell ⟨R, 3, none⟩ (.slice (some ⟨wr.heap.size, 0, none⟩) 1 1)) #[.slice sv 4 kv] 23
            show Blk _ _ _ _
            simpa using this
          have HO4 : Hid (((wr.setCell ⟨R, 3, none⟩ (.slice (some ⟨wr.heap.size, 0, none⟩) 1 1)).alloc (.cells #[.slice sv 4 kv] 23)).ownsRow w1.heap.size 4 1 (.slice sv 4 kv) 4 ((List.range 4).map fun a => .bool (decide (x2.getD a 0 ≠ 45)))) := (ownsRow_setCell_other hown (fun e => own_blk_ne hown HSR.out.bk (by decide) e) _).alloc _
          have HBZ4 : Hid (Blk ((wr.setCell ⟨R, 3, none⟩ (.slice (some ⟨wr.heap.size, 0, none⟩) 1 1)).alloc (.cells #[.slice sv 4 kv] 23)) w.heap.size #[.slice none 0 0, .slice none 0 0, .slice none 0 0, .slice none 0 0] 26) := HBZ.out.keep HS4.out.bel
          have hBw : w1.heap.size ≤ wr.heap.size := hBz
          clear hown HSR HNB x3 f3 hBz
          go_wp2_with fail
          generalize ((wr.setCell ⟨R, 3, none⟩ (.slice (some ⟨wr.heap.size, 0, none⟩) 1 1)).alloc (.cells #[.slice sv 4 kv] 23)) = Wz at *
          obtain ⟨bw, rfl⟩ : ∃ bw, sv = some ⟨bw, 0, none⟩ := by
            rcases HO4.out.2 with ⟨hv, _⟩ | ⟨gb, cap', cur, hv, _⟩
            · cases hv
            · injection hv with hv
              exact ⟨gb, hv⟩
          obtain ⟨G, hG⟩ : ∃ G : Sg, G = ⟨decide (x0 = [111, 112, 101, 110]), fun a => decide (a < 4) && decide (x2.getD a 0 ≠ 45), gn, num xL⟩ := ⟨_, rfl⟩
          have HGW : Hid (gOf Ws = G) := by show _ = _; rw [hG]; exact HRD.out gn HGN.out.1
          have HXL : Hid (XL w1.heap.size G b1 b2 b3 wr.heap.size bw kv Wz) := by
            refine XL.of (w := w1) (R := R) (v4 := .slice (some ⟨wr.heap.size, 0, none⟩) 1 1) (by rw [hG]; exact HS4.out) HB4.out ?_ hBw (Nat.le_refl _)
            have e : lampV G = (List.range 4).map fun a => .bool (decide (x2.getD a 0 ≠ 45)) := by
              rw [hG]
              unfold lampV
              refine List.map_congr_left fun a ha => ?_
              have := List.mem_range.1 ha
              simp [this]
            rw [e]
            exact HO4.out
          have hfr : G.fr = num xL := by rw [hG]
          have x0' := HS4.out.bk.cell 0
          have x1' := HS4.out.bk.cell 1
          have x2' := HS4.out.bk.cell 2
          have x3' := HS4.out.bk.cell 3
          have y2 := HS4.out.k2.cell 0
          have s0 := HBZ4.out.cell 0
          have s1 := HBZ4.out.cell 1
          have s2 := HBZ4.out.cell 2
          have s3 := HBZ4.out.cell 3
          have f0 := HBZ4.out.free 0
          have f1 := HBZ4.out.free 1
          have f2 := HBZ4.out.free 2
          have f3 := HBZ4.out.free 3
          simp at x0' x1' x2' x3' y2 s0 s1 s2 s3
          have belz : Below w.heap.size w Wz := chain HBL.out HS4.out.bel
          clear HO4 hG hx3' hf3' hRl
          by_cases hf : num xL < 0
          · have zf : decide (0 ≤ num xL) = false := by simp; omega
            have HN : Hid (∀ g, ¬ IsLine l g) := fun g hg => by
              have h1 := (isLine_iff.1 hg).1.fr
              rw [← HWS.out, HXX.out.2.2.1] at h1
              omega
            have HBF : Hid (Below w.heap.size w (laid4 Wz w.heap.size (.slice (some ⟨b1, 0, none⟩) 1 1) (.slice (some ⟨b2, 0, none⟩) 1 1) (.slice (some ⟨b3, 0, none⟩) 1 1) (.slice (some ⟨wr.heap.size, 0, none⟩) 1 1)).drew) := (laid4_below belz (Nat.le_refl _) _ _ _ _).drew
            have HCF := (laid4_blk HBZ4.out (.slice (some ⟨b1, 0, none⟩) 1 1) (.slice (some ⟨b2, 0, none⟩) 1 1) (.slice (some ⟨b3, 0, none⟩) 1 1) (.slice (some ⟨wr.heap.size, 0, none⟩) 1 1)).drew
            have c0 := HCF.cell 0
            have c1 := HCF.cell 1
            have c2 := HCF.cell 2
            have c3 := HCF.cell 3
            unfold laid4 at c0 c1 c2 c3 HBF
            simp only [List.getElem?_toArray, List.getElem?_cons_succ, List.getElem?_cons_zero] at c0 c1 c2 c3
            go_region
            all_goals
              go_wp2
              refine bodyPost_ret (v := .tuple #[.agg #[.slice (some ⟨b1, 0, none⟩) 1 1, .slice (some ⟨b2, 0, none⟩) 1 1, .slice (some ⟨b3, 0, none⟩) 1 1, .slice (some ⟨wr.heap.size, 0, none⟩) 1 1], .bool false]) ?_ rfl ⟨Or.inr ⟨HN.out, _, _, _, _, _, _, _, _, _, _, _, _, rfl⟩, HBF.out⟩
              rw [results_cell_tmp rfl]
              simp [go_sem, c0, c1, c2, c3]
          · have zf : decide (0 ≤ num xL) = true := by simp; omega
            have HFI : Hid (Fits Ws) := HFT.out gn HGN.out.1 HGN.out.2 (by omega)
            have HOKG : Hid (G.Ok) := by have := HFI.out.ok; rw [HGW.out] at this; exact this
            have hline := line_any (some ⟨b1, 0, none⟩) (some ⟨b2, 0, none⟩) (some ⟨b3, 0, none⟩) (some ⟨wr.heap.size, 0, none⟩) 1 1 1 1 _ _ (one G) 0 Wz.drew ⟨by show 1 ≤ _; omega, by show 1 ≤ _; omega, by show 1 ≤ _; omega, by show 1 ≤ _; omega, fun _ _ => by show 4 ≤ _; omega⟩ HOKG.out.tell (HXL.out.keep (Below.refl _ _).drew).at
            have HLN : Hid (Calls Tryz.prog 30 #[.agg #[.slice (some ⟨b1, 0, none⟩) 1 1, .slice (some ⟨b2, 0, none⟩) 1 1, .slice (some ⟨b3, 0, none⟩) 1 1, .slice (some ⟨wr.heap.size, 0, none⟩) 1 1], .int .i64 0] Wz.drew fun e w' => e = .returned (.string (bs (ltxt G))) ∧ Below Wz.drew.heap.size Wz.drew w') := hline
            clear hline
            go_region_with (go_at_call 30; refine HLN.out.mono ?_; rintro e w5 ⟨rfl, hb5⟩; have hbz5 := HBZ4.out.drew.keep hb5; have t0 := hbz5.cell 0; have t1 := hbz5.cell 1; have t2 := hbz5.cell 2; have t3 := hbz5.cell 3; have g0 := hbz5.free 0; have g1 := hbz5.free 1; have g2 := hbz5.free 2; have g3 := hbz5.free 3; have hr5 := HS4.out.bk.drew.keep hb5; have u0 := hr5.cell 0; have u1 := hr5.cell 1; have u2 := hr5.cell 2; have u3 := hr5.cell 3; simp at t0 t1 t2 t3 u0 u1 u2 u3)
            all_goals
              have HBF : Hid (Below w.heap.size w (laid4 w5 w.heap.size (.slice (some ⟨b1, 0, none⟩) 1 1) (.slice (some ⟨b2, 0, none⟩) 1 1) (.slice (some ⟨b3, 0, none⟩) 1 1) (.slice (some ⟨wr.heap.size, 0, none⟩) 1 1))) := laid4_below (chain belz.drew hb5) (Nat.le_refl _) _ _ _ _
              have HCF := laid4_blk hbz5 (.slice (some ⟨b1, 0, none⟩) 1 1) (.slice (some ⟨b2, 0, none⟩) 1 1) (.slice (some ⟨b3, 0, none⟩) 1 1) (.slice (some ⟨wr.heap.size, 0, none⟩) 1 1)
              have HXF : Hid (XL w.heap.size G b1 b2 b3 wr.heap.size bw kv (laid4 w5 w.heap.size (.slice (some ⟨b1, 0, none⟩) 1 1) (.slice (some ⟨b2, 0, none⟩) 1 1) (.slice (some ⟨b3, 0, none⟩) 1 1) (.slice (some ⟨wr.heap.size, 0, none⟩) 1 1))) := ((HXL.out.keep (Below.refl _ _).drew).keep hb5).laid hq HBL.out.size _ _ _ _
              have c0 := HCF.cell 0
              have c1 := HCF.cell 1
              have c2 := HCF.cell 2
              have c3 := HCF.cell 3
              unfold laid4 at c0 c1 c2 c3 HBF HXF
              simp only [List.getElem?_toArray, List.getElem?_cons_succ, List.getElem?_cons_zero] at c0 c1 c2 c3
              by_cases heq : ltxt G = l
              · have zeq : ((bs (ltxt G)).toList == (bs l).toList) = true := by rw [bs_list, bs_list, heq]; simp
                have HIL : Hid (IsLine l G) := ⟨HOKG.out, heq⟩
                clear heq
                go_wp2
                refine bodyPost_ret (v := .tuple #[.agg #[.slice (some ⟨b1, 0, none⟩) 1 1, .slice (some ⟨b2, 0, none⟩) 1 1, .slice (some ⟨b3, 0, none⟩) 1 1, .slice (some ⟨wr.heap.size, 0, none⟩) 1 1], .bool true]) ?_ rfl ⟨Or.inl ⟨G, b1, b2, b3, wr.heap.size, bw, kv, HIL.out, rfl, HXF.out⟩, HBF.out⟩
                rw [results_cell_tmp rfl]
                simp [go_sem, c0, c1, c2, c3, zeq]
              · have zeq : ((bs (ltxt G)).toList == (bs l).toList) = false := by rw [bs_list, bs_list, beq_eq_false_iff_ne]; exact heq
                have HN : Hid (∀ g, ¬ IsLine l g) := fun g hg => by
                  have h1 := (isLine_iff.1 hg).2.1
                  rw [← HWS.out, HGW.out] at h1
                  exact heq h1
                clear heq
                go_wp2
                refine bodyPost_ret (v := .tuple #[.agg #[.slice (some ⟨b1, 0, none⟩) 1 1, .slice (some ⟨b2, 0, none⟩) 1 1, .slice (some ⟨b3, 0, none⟩) 1 1, .slice (some ⟨wr.heap.size, 0, none⟩) 1 1], .bool false]) ?_ rfl ⟨Or.inr ⟨HN.out, _, _, _, _, _, _, _, _, _, _, _, _, rfl⟩, HBF.out⟩
                rw [results_cell_tmp rfl]
                simp [go_sem, c0, c1, c2, c3, zeq]
    case neg =>
      have z7 : ((N : Int) == 7) = false := by rw [beq_eq_false_iff_ne]; omega
      obtain ⟨gn, hgn⟩ : ∃ gn : Int, gn = -1 := ⟨_, rfl⟩
      have HGN : Hid (gn = (if N = 7 then num (Ws.getD 4 []) else -1) ∧ (N = 7 → (0 : Int) ≤ gn)) := ⟨by rw [if_neg h7, hgn], fun e => absurd e h7⟩
      have hgb : -1 ≤ gn ∧ gn < 100000000 := by omega
      have HS2 : Hid (SR w1 R b1 b2 b3 gn (num xL) (decide (x0 = [111, 112, 101, 110])) (.slice none 0 0) V) := by rw [hgn]; exact HS.out
      clear hgn
      clear h7 HS
      go_wp2
      clear z7
      obtain ⟨V2, rfl⟩ : ∃ V2, V2 = V := ⟨V, rfl⟩
      go_loopw [6, 7] (fun v t wr => ∃ q : Nat, q ≤ 4 ∧ t = .int .i64 q ∧ wr.ownsRow w1.heap.size 4 1 v q ((List.range q).map fun a => .bool (decide (x2.getD a 0 ≠ 45))) ∧ SR w1 R b1 b2 b3 gn (num xL) (decide (x0 = [111, 112, 101, 110])) (.slice none 0 0) wr ∧ v.ownBlock ≠ some b3) (fun _ t _ => 4 - (intOf t).toNat)
      case atStart => exact ⟨0, by omega, rfl, World.ownsRow_nil _ _ _ _, HS2.out, by simp [Value.ownBlock]⟩
      case round =>
        obtain ⟨q, hq4, rfl, hown, hSR, hnb⟩ := hrel
        have HSR : Hid (SR w1 R b1 b2 b3 gn (num xL) (decide (x0 = [111, 112, 101, 110])) (.slice none 0 0) wr) := hSR
        obtain ⟨sv, kv, rfl⟩ := own_shape hown
        have HNB : Hid ((Value.slice sv q kv).ownBlock ≠ some b3) := hnb
        clear hSR hnb
        by_cases hlt : q < 4
        · have hc2 := (HSR.out.bel.cell (p := ⟨b, o + 2, none⟩) (block_lt_of_cell HC2.out)).trans HC2.out
          have hg := idx_bs x2 q (by omega) wr
          have hqN : 2 < N := by omega
          have hqN' : (2 : Int) < (N : Int) := by omega
          obtain ⟨bq, hbq⟩ : ∃ bq, bq = decide (x2.getD q 0 ≠ 45) := ⟨_, rfl⟩
          have hcmp : (((x2.getD q 0).toNat : Int) != 45) = bq := by
            rw [hbq]
            by_cases e : x2.getD q 0 = 45
            · rw [e]; simp
            · rw [decide_eq_true e, bne_iff_ne]
              intro e2
              exact e (UInt8.toNat.inj (by rw [show (45 : UInt8).toNat = 45 from rfl]; omega))
          have HBQ : Hid (bq = decide (x2.getD q 0 ≠ 45)) := hbq
          clear hbq
          generalize x2.getD q 0 = cq at hg hcmp
          have hBz := HSR.out.bel.size
          have hk3 := HSR.out.k3.lt
          go_wp2_with (at_builtin; (refine wpList_append_own_at _ rfl _ _ 23 rfl w1.heap.size 4 ib (.bool false) 1 1 Tryz.uBools hib hzb0 hzb1 hzb2 rfl (by decide) (.slice sv q kv) q ((List.range q).map fun a => .bool (decide (x2.getD a 0 ≠ 45))) rfl (hown.alloc _) ⟨wr.heap.size, 0, none⟩ 1 1 [.bool bq] rfl rfl (cell_one_new _ _ _) (by simp [Value.oneCell']) (by unfold maxLen; omega) (by omega) (by simp; omega) ?_; intro v' w6 hown' hgrow hnil hloc))
          have HS3 : Hid (SR w1 R b1 b2 b3 gn (num xL) (decide (x0 = [111, 112, 101, 110])) (.slice none 0 0) w6) := HSR.out.app hown (Nat.le_refl _) HNB.out hgrow
          have HO3 : Hid (w6.ownsRow w1.heap.size 4 1 v' (q + 1) ((List.range (q + 1)).map fun a => .bool (decide (x2.getD a 0 ≠ 45)))) := by
            show World.ownsRow _ _ _ _ _ _ _
            rw [List.range_succ, List.map_append, List.map_singleton, ← HBQ.out]
            exact hown'
          have HN3 : Hid (v'.ownBlock ≠ some b3) := by
            rcases hloc with e | e
            · show v'.ownBlock ≠ _
              rw [e]; exact HNB.out
            · show v'.ownBlock ≠ _
              rw [e]
              intro e2
              injection e2 with e2
              simp at e2
              omega
          clear hown' hgrow hnil hloc hown
          go_roundw
          case rel => exact ⟨q + 1, by omega, by go_num, HO3.out, HS3.out, HN3.out⟩
          case measure => simp [intOf]; omega
        · obtain rfl : q = 4 := by omega
          have x3 := HSR.out.bk.cell 3
          have f3 := HSR.out.bk.free 3
          simp at x3
          have hBz := HSR.out.bel.size
          have hRl := HSR.out.bk.lt
          have hx3' := (HSR.out.bk.alloc (.cells #[.slice sv 4 kv] 23)).cell 3
          have hf3' := (HSR.out.bk.alloc (.cells #[.slice sv 4 kv] 23)).free 3
          simp only [List.getElem?_toArray, List.getElem?_cons_succ, List.getElem?_cons_zero] at hx3'
          have HS4 : Hid (SR w1 R b1 b2 b3 gn (num xL) (decide (x0 = [111, 112, 101, 110])) (.slice (some ⟨wr.heap.size, 0, none⟩) 1 1) ((wr.setCell ⟨R, 3, none⟩ (.slice (some ⟨wr.heap.size, 0, none⟩) 1 1)).alloc (.cells #[.slice sv 4 kv] 23))) := HSR.out.lamps
          have HB4 : Hid (Blk ((wr.setCell ⟨R, 3, none⟩ (.slice (some ⟨wr.heap.size, 0, none⟩) 1 1)).alloc (.cells #[.slice sv 4 kv] 23)) wr.heap.size #[.slice sv 4 kv] 23) := by
            have := Blk.new (wr.setCell ⟨R, 3, none⟩ (.slice (some ⟨wr.heap.size, 0, none⟩) 1 1)) #[.slice sv 4 kv] 23
            show Blk _ _ _ _
            simpa using this
          have HO4 : Hid (((wr.setCell ⟨R, 3, none⟩ (.slice (some ⟨wr.heap.size, 0, none⟩) 1 1)).alloc (.cells #[.slice sv 4 kv] 23)).ownsRow w1.heap.size 4 1 (.slice sv 4 kv) 4 ((List.range 4).map fun a => .bool (decide (x2.getD a 0 ≠ 45)))) := (ownsRow_setCell_other hown (fun e => own_blk_ne hown HSR.out.bk (by decide) e) _).alloc _
          have HBZ4 : Hid (Blk ((wr.setCell ⟨R, 3, none⟩ (.slice (some ⟨wr.heap.size, 0, none⟩) 1 1)).alloc (.cells #[.slice sv 4 kv] 23)) w.heap.size #[.slice none 0 0, .slice none 0 0, .slice none 0 0, .slice none 0 0] 26) := HBZ.out.keep HS4.out.bel
          have hBw : w1.heap.size ≤ wr.heap.size := hBz
          clear hown HSR HNB x3 f3 hBz
          go_wp2_with fail
          generalize ((wr.setCell ⟨R, 3, none⟩ (.slice (some ⟨wr.heap.size, 0, none⟩) 1 1)).alloc (.cells #[.slice sv 4 kv] 23)) = Wz at *
          obtain ⟨bw, rfl⟩ : ∃ bw, sv = some ⟨bw, 0, none⟩ := by
            rcases HO4.out.2 with ⟨hv, _⟩ | ⟨gb, cap', cur, hv, _⟩
            · cases hv
            · injection hv with hv
              exact ⟨gb, hv⟩
          obtain ⟨G, hG⟩ : ∃ G : Sg, G = ⟨decide (x0 = [111, 112, 101, 110]), fun a => decide (a < 4) && decide (x2.getD a 0 ≠ 45), gn, num xL⟩ := ⟨_, rfl⟩
          have HGW : Hid (gOf Ws = G) := by show _ = _; rw [hG]; exact HRD.out gn HGN.out.1
          have HXL : Hid (XL w1.heap.size G b1 b2 b3 wr.heap.size bw kv Wz) := by
            refine XL.of (w := w1) (R := R) (v4 := .slice (some ⟨wr.heap.size, 0, none⟩) 1 1) (by rw [hG]; exact HS4.out) HB4.out ?_ hBw (Nat.le_refl _)
            have e : lampV G = (List.range 4).map fun a => .bool (decide (x2.getD a 0 ≠ 45)) := by
              rw [hG]
              unfold lampV
              refine List.map_congr_left fun a ha => ?_
              have := List.mem_range.1 ha
              simp [this]
            rw [e]
            exact HO4.out
          have hfr : G.fr = num xL := by rw [hG]
          have x0' := HS4.out.bk.cell 0
          have x1' := HS4.out.bk.cell 1
          have x2' := HS4.out.bk.cell 2
          have x3' := HS4.out.bk.cell 3
          have y2 := HS4.out.k2.cell 0
          have s0 := HBZ4.out.cell 0
          have s1 := HBZ4.out.cell 1
          have s2 := HBZ4.out.cell 2
          have s3 := HBZ4.out.cell 3
          have f0 := HBZ4.out.free 0
          have f1 := HBZ4.out.free 1
          have f2 := HBZ4.out.free 2
          have f3 := HBZ4.out.free 3
          simp at x0' x1' x2' x3' y2 s0 s1 s2 s3
          have belz : Below w.heap.size w Wz := chain HBL.out HS4.out.bel
          clear HO4 hG hx3' hf3' hRl
          by_cases hf : num xL < 0
          · have zf : decide (0 ≤ num xL) = false := by simp; omega
            have HN : Hid (∀ g, ¬ IsLine l g) := fun g hg => by
              have h1 := (isLine_iff.1 hg).1.fr
              rw [← HWS.out, HXX.out.2.2.1] at h1
              omega
            have HBF : Hid (Below w.heap.size w (laid4 Wz w.heap.size (.slice (some ⟨b1, 0, none⟩) 1 1) (.slice (some ⟨b2, 0, none⟩) 1 1) (.slice (some ⟨b3, 0, none⟩) 1 1) (.slice (some ⟨wr.heap.size, 0, none⟩) 1 1)).drew) := (laid4_below belz (Nat.le_refl _) _ _ _ _).drew
            have HCF := (laid4_blk HBZ4.out (.slice (some ⟨b1, 0, none⟩) 1 1) (.slice (some ⟨b2, 0, none⟩) 1 1) (.slice (some ⟨b3, 0, none⟩) 1 1) (.slice (some ⟨wr.heap.size, 0, none⟩) 1 1)).drew
            have c0 := HCF.cell 0
            have c1 := HCF.cell 1
            have c2 := HCF.cell 2
            have c3 := HCF.cell 3
            unfold laid4 at c0 c1 c2 c3 HBF
            simp only [List.getElem?_toArray, List.getElem?_cons_succ, List.getElem?_cons_zero] at c0 c1 c2 c3
            go_region
            all_goals
              go_wp2
              refine bodyPost_ret (v := .tuple #[.agg #[.slice (some ⟨b1, 0, none⟩) 1 1, .slice (some ⟨b2, 0, none⟩) 1 1, .slice (some ⟨b3, 0, none⟩) 1 1, .slice (some ⟨wr.heap.size, 0, none⟩) 1 1], .bool false]) ?_ rfl ⟨Or.inr ⟨HN.out, _, _, _, _, _, _, _, _, _, _, _, _, rfl⟩, HBF.out⟩
              rw [results_cell_tmp rfl]
              simp [go_sem, c0, c1, c2, c3]
          · have zf : decide (0 ≤ num xL) = true := by simp; omega
            have HFI : Hid (Fits Ws) := HFT.out gn HGN.out.1 HGN.out.2 (by omega)
            have HOKG : Hid (G.Ok) := by have := HFI.out.ok; rw [HGW.out] at this; exact this
            have hline := line_any (some ⟨b1, 0, none⟩) (some ⟨b2, 0, none⟩) (some ⟨b3, 0, none⟩) (some ⟨wr.heap.size, 0, none⟩) 1 1 1 1 _ _ (one G) 0 Wz.drew ⟨by show 1 ≤ _; omega, by show 1 ≤ _; omega, by show 1 ≤ _; omega, by show 1 ≤ _; omega, fun _ _ => by show 4 ≤ _; omega⟩ HOKG.out.tell (HXL.out.keep (Below.refl _ _).drew).at
            have HLN : Hid (Calls Tryz.prog 30 #[.agg #[.slice (some ⟨b1, 0, none⟩) 1 1, .slice (some ⟨b2, 0, none⟩) 1 1, .slice (some ⟨b3, 0, none⟩) 1 1, .slice (some ⟨wr.heap.size, 0, none⟩) 1 1], .int .i64 0] Wz.drew fun e w' => e = .returned (.string (bs (ltxt G))) ∧ Below Wz.drew.heap.size Wz.drew w') := hline
            clear hline
            go_region_with (go_at_call 30; refine HLN.out.mono ?_; rintro e w5 ⟨rfl, hb5⟩; have hbz5 := HBZ4.out.drew.keep hb5; have t0 := hbz5.cell 0; have t1 := hbz5.cell 1; have t2 := hbz5.cell 2; have t3 := hbz5.cell 3; have g0 := hbz5.free 0; have g1 := hbz5.free 1; have g2 := hbz5.free 2; have g3 := hbz5.free 3; have hr5 := HS4.out.bk.drew.keep hb5; have u0 := hr5.cell 0; have u1 := hr5.cell 1; have u2 := hr5.cell 2; have u3 := hr5.cell 3; simp at t0 t1 t2 t3 u0 u1 u2 u3)
            all_goals
              have HBF : Hid (Below w.heap.size w (laid4 w5 w.heap.size (.slice (some ⟨b1, 0, none⟩) 1 1) (.slice (some ⟨b2, 0, none⟩) 1 1) (.slice (some ⟨b3, 0, none⟩) 1 1) (.slice (some ⟨wr.heap.size, 0, none⟩) 1 1))) := laid4_below (chain belz.drew hb5) (Nat.le_refl _) _ _ _ _
              have HCF := laid4_blk hbz5 (.slice (some ⟨b1, 0, none⟩) 1 1) (.slice (some ⟨b2, 0, none⟩) 1 1) (.slice (some ⟨b3, 0, none⟩) 1 1) (.slice (some ⟨wr.heap.size, 0, none⟩) 1 1)
              have HXF : Hid (XL w.heap.size G b1 b2 b3 wr.heap.size bw kv (laid4 w5 w.heap.size (.slice (some ⟨b1, 0, none⟩) 1 1) (.slice (some ⟨b2, 0, none⟩) 1 1) (.slice (some ⟨b3, 0, none⟩) 1 1) (.slice (some ⟨wr.heap.size, 0, none⟩) 1 1))) := ((HXL.out.keep (Below.refl _ _).drew).keep hb5).laid hq HBL.out.size _ _ _ _
              have c0 := HCF.cell 0
              have c1 := HCF.cell 1
              have c2 := HCF.cell 2
              have c3 := HCF.cell 3
              unfold laid4 at c0 c1 c2 c3 HBF HXF
              simp only [List.getElem?_toArray, List.getElem?_cons_succ, List.getElem?_cons_zero] at c0 c1 c2 c3
              by_cases heq : ltxt G = l
              · have zeq : ((bs (ltxt G)).toList == (bs l).toList) = true := by rw [bs_list, bs_list, heq]; simp
                have HIL : Hid (IsLine l G) := ⟨HOKG.out, heq⟩
                clear heq
                go_wp2
                refine bodyPost_ret (v := .tuple #[.agg #[.slice (some ⟨b1, 0, none⟩) 1 1, .slice (some ⟨b2, 0, none⟩) 1 1, .slice (some ⟨b3, 0, none⟩) 1 1, .slice (some ⟨wr.heap.size, 0, none⟩) 1 1], .bool true]) ?_ rfl ⟨Or.inl ⟨G, b1, b2, b3, wr.heap.size, bw, kv, HIL.out, rfl, HXF.out⟩, HBF.out⟩
                rw [results_cell_tmp rfl]
                simp [go_sem, c0, c1, c2, c3, zeq]
              · have zeq : ((bs (ltxt G)).toList == (bs l).toList) = false := by rw [bs_list, bs_list, beq_eq_false_iff_ne]; exact heq
                have HN : Hid (∀ g, ¬ IsLine l g) := fun g hg => by
                  have h1 := (isLine_iff.1 hg).2.1
                  rw [← HWS.out, HGW.out] at h1
                  exact heq h1
                clear heq
                go_wp2
                refine bodyPost_ret (v := .tuple #[.agg #[.slice (some ⟨b1, 0, none⟩) 1 1, .slice (some ⟨b2, 0, none⟩) 1 1, .slice (some ⟨b3, 0, none⟩) 1 1, .slice (some ⟨wr.heap.size, 0, none⟩) 1 1], .bool false]) ?_ rfl ⟨Or.inr ⟨HN.out, _, _, _, _, _, _, _, _, _, _, _, _, rfl⟩, HBF.out⟩
                rw [results_cell_tmp rfl]
                simp [go_sem, c0, c1, c2, c3, zeq]

end Go.Proofs.YtachkoledebanabGreatDoor
