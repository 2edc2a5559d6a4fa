/- Walks and plain mathematics: PwClearCol, PwReduced, PwKernel, PwKer, PwFixed, PwFix, Spl, Spm, PwIrr, PwSplitBy, PwSplit, PwTake, PwOut, Fct, PwOrd. -/
import Derived.Test.YtbehihanhfmmhaaGreatG08
import Derived.Test.YtbehihanhfmmhaaGreatG06
import Derived.Deep.RegionLaw
import Derived.Deep.DeepCutAuto
import Derived.Deep.LoopGhost
import Derived.WalkMore
import Derived.BigQuiet
namespace Go.Proofs.YtbehihanhfmmhaaGreat
open Go.RowKit

theorem Mx.inBelow {w wr wx : World} {b n cap : Nat} {vs : List Value} {Ms : List (List Nat)} (h : Mx w wr b n cap vs Ms) (hB : Below wr.heap.size wr wx) {i : Nat} (hi : i < n) : ∃ a cp, wx.cell? ⟨b, i, none⟩ = some (.slice a (Ms.getD i []).length cp) ∧ vs[i]? = some (.slice a (Ms.getD i []).length cp) := by
  obtain ⟨a, cp, h1, _, h3⟩ := (h.low hB).cell hi
  exact ⟨a, cp, h1, h3⟩

/-- Every block but b is as it was. -/
def KeepB (b : Nat) (w w' : World) : Prop := w.heap.size ≤ w'.heap.size ∧ ∀ g, g < w.heap.size → g ≠ b → w'.heap[g]? = w.heap[g]?
theorem KeepB.refl (b : Nat) (w : World) : KeepB b w w := ⟨Nat.le_refl _, fun _ _ _ => rfl⟩
theorem KeepB.low {b : Nat} {w w1 w2 : World} (h : KeepB b w w1) (hB : Below w1.heap.size w1 w2) : KeepB b w w2 :=
  ⟨Nat.le_trans h.1 hB.size, fun g hg hne => (hB.block g (Nat.lt_of_lt_of_le hg h.1)).trans (h.2 g hg hne)⟩
theorem KeepB.set {b : Nat} {w w1 : World} (h : KeepB b w w1) (j : Nat) (u : Value) : KeepB b w (w1.setCell ⟨b, j, none⟩ u) :=
  ⟨by have := h.1; simpa [World.setCell] using this, fun g hg hne => (heap_setCell_other w1 _ _ _ hne).trans (h.2 g hg hne)⟩
theorem KeepB.trans {b : Nat} {w w1 w2 : World} (h : KeepB b w w1) (h' : KeepB b w1 w2) : KeepB b w w2 :=
  ⟨Nat.le_trans h.1 h'.1, fun g hg hne => (h'.2 g (Nat.lt_of_lt_of_le hg h.1) hne).trans (h.2 g hg hne)⟩
theorem KeepB.own {b : Nat} {w w1 : World} (h : KeepB b w w1) {base size n : Nat} {e : TypeId} {v : Value} {xs : List Value} (ho : w.ownsRow base e size v n xs) (hne : v.ownBlock ≠ some b) : w1.ownsRow base e size v n xs := by
  refine ⟨ho.1, ?_⟩
  rcases ho.2 with h2 | ⟨g, cp, cur, h3, h4, h5, h6⟩
  · exact .inl h2
  · exact .inr ⟨g, cp, cur, h3, h4, by rw [h.2 g (Array.getElem?_eq_some_iff.1 h5).1 (by rintro rfl; apply hne; rw [h3]; rfl)]; exact h5, h6⟩

/-- Rows that were there, or new ones. -/
def FN (ws : World) (vs vs' : List Value) : Prop := ∀ v ∈ vs', v ∈ vs ∨ ∀ g, v.ownBlock = some g → ws.heap.size ≤ g
theorem FN.refl (ws : World) (vs : List Value) : FN ws vs vs := fun _ h => .inl h
theorem FN.set {ws : World} {vs vs' : List Value} (h : FN ws vs vs') {i : Nat} {v : Value} (hv : ∀ g, v.ownBlock = some g → ws.heap.size ≤ g) : FN ws vs (vs'.set i v) := fun u hu => by
  rcases List.mem_or_eq_of_mem_set hu with h1 | h1
  · exact h u h1
  · rw [h1]; exact .inr hv

/-- The loop of clearColumn: the first k rows are done. -/
def Q.clearK (p : Nat) (rows : List (List Nat)) (row j k : Nat) : List (List Nat) :=
  rows.mapIdx fun i x => if i < k ∧ i ≠ row ∧ p - x.getD j 0 < p then Q.comb (fun a b => (a + (p - x.getD j 0) * b) % p) x (rows.getD row []) else x

theorem Q.clearK_length (p : Nat) (rows : List (List Nat)) (row j k : Nat) : (Q.clearK p rows row j k).length = rows.length := by simp [Q.clearK]
theorem Q.clearK_zero (p : Nat) (rows : List (List Nat)) (row j : Nat) : Q.clearK p rows row j 0 = rows := by
  apply List.ext_getElem (by simp [Q.clearK])
  intro i h1 h2
  simp [Q.clearK]
theorem Q.clearK_get (p : Nat) (rows : List (List Nat)) (row j k i : Nat) (h : i < rows.length) : (Q.clearK p rows row j k).getD i [] = if i < k ∧ i ≠ row ∧ p - (rows.getD i []).getD j 0 < p then Q.comb (fun a b => (a + (p - (rows.getD i []).getD j 0) * b) % p) (rows.getD i []) (rows.getD row []) else rows.getD i [] := by
  have h1 : rows.getD i [] = rows[i] := by simp [List.getD, h]
  have h2 : (Q.clearK p rows row j k).getD i [] = (Q.clearK p rows row j k)[i]'(by rw [Q.clearK_length]; exact h) := by simp [List.getD, Q.clearK_length, h]
  rw [h2, h1]
  simp [Q.clearK]
theorem Q.ext_rows {A B : List (List Nat)} (h : A.length = B.length) (hi : ∀ i, i < A.length → A.getD i [] = B.getD i []) : A = B := by
  apply List.ext_getElem h
  intro i h1 h2
  have := hi i h1
  simpa [List.getD, h1, h2] using this
theorem Q.getD_set (A : List (List Nat)) (k i : Nat) (x : List Nat) (h : k < A.length) : (A.set k x).getD i [] = if i = k then x else A.getD i [] := by
  simp only [List.getD_eq_getElem?_getD, List.getElem?_set]
  by_cases h1 : k = i
  · subst h1; simp [h]
  · rw [if_neg h1, if_neg (Ne.symm h1)]
theorem Q.clearK_yes (p : Nat) (rows : List (List Nat)) (row j k : Nat) (hk : k < rows.length) (h1 : k ≠ row) (h2 : p - (rows.getD k []).getD j 0 < p) :
    (Q.clearK p rows row j k).set k (Q.comb (fun a b => (a + (p - (rows.getD k []).getD j 0) * b) % p) (rows.getD k []) (rows.getD row [])) = Q.clearK p rows row j (k + 1) := by
  refine Q.ext_rows (by simp [Q.clearK_length]) fun i hi => ?_
  rw [List.length_set, Q.clearK_length] at hi
  rw [Q.getD_set _ _ _ _ (by rw [Q.clearK_length]; exact hk), Q.clearK_get _ _ _ _ _ _ hi, Q.clearK_get _ _ _ _ _ _ hi]
  by_cases h : i = k
  · subst h; rw [if_pos rfl, if_pos ⟨by omega, h1, h2⟩]
  · rw [if_neg h]
    by_cases h3 : i < k ∧ i ≠ row ∧ p - (rows.getD i []).getD j 0 < p
    · rw [if_pos h3, if_pos ⟨by omega, h3.2⟩]
    · rw [if_neg h3, if_neg (fun h4 => h3 ⟨by omega, h4.2⟩)]
theorem Q.clearK_no (p : Nat) (rows : List (List Nat)) (row j k : Nat) (h : ¬ (k ≠ row ∧ p - (rows.getD k []).getD j 0 < p)) : Q.clearK p rows row j k = Q.clearK p rows row j (k + 1) := by
  refine Q.ext_rows (by simp [Q.clearK_length]) fun i hi => ?_
  rw [Q.clearK_length] at hi
  rw [Q.clearK_get _ _ _ _ _ _ hi, Q.clearK_get _ _ _ _ _ _ hi]
  by_cases h3 : i < k ∧ i ≠ row ∧ p - (rows.getD i []).getD j 0 < p
  · rw [if_pos h3, if_pos ⟨by omega, h3.2⟩]
  · rw [if_neg h3, if_neg (fun h4 => by
      by_cases hik : i = k
      · subst hik; exact h h4.2
      · exact h3 ⟨by omega, h4.2⟩)]
theorem Q.clearK_done (p : Nat) (Ms : List (List Nat)) (row j : Nat) (hr : row < Ms.length) : Q.clearK p (Ms.set row (Q.prodP' p (Ms.getD row []) [Q.invM p ((Ms.getD row []).getD j 0)])) row j Ms.length = Q.clearCol p Ms row j := by
  have hR : (Ms.set row (Q.prodP' p (Ms.getD row []) [Q.invM p ((Ms.getD row []).getD j 0)])).getD row [] = Q.prodP' p (Ms.getD row []) [Q.invM p ((Ms.getD row []).getD j 0)] := by rw [Q.getD_set _ _ _ _ hr, if_pos rfl]
  unfold Q.clearK Q.clearCol
  rw [hR]
  apply List.ext_getElem (by simp)
  intro i h1 h2
  simp only [List.getElem_mapIdx]
  have hi : i < Ms.length := by simpa using h1
  simp [hi]

set_option maxRecDepth 100000 in
set_option maxHeartbeats 4000000 in
theorem clearColumn_is (p b n cap row j : Nat) (vs : List Value) (Ms : List (List Nat)) (w ws : World) (hP : Hid (M.Pr p)) (hp2 : p ≤ 1021) (hM : Hid (Mx w ws b n cap vs Ms)) (hn : n ≤ 100000) (hrow : row < n) (hj : j < n)
    (hred : Hid (∀ M ∈ Ms, Q.Red p M ∧ M.length = n)) (hx : Hid ((Ms.getD row []).getD j 0 ≠ 0)) (hcap : n ≤ cap) :
    Calls Tryz.prog 100 #[.int .i64 p, .slice (some ⟨b, 0, none⟩) n cap, .int .i64 row, .int .i64 j] ws fun x w' => x = .returned (.tuple #[]) ∧ (∃ vs', Mx w w' b n cap vs' (Q.clearCol p Ms row j) ∧ FN ws vs vs') ∧ KeepB b ws w' := by
  have hp : 2 ≤ p := hP.out.1
  have hA : Below ws.heap.size ws (ws.alloc (.cells #[.int .i64 (p : Int)] 3)) := (Below.refl _ _).alloc (Nat.le_refl _) _
  have HM1 : Hid (Mx w (ws.alloc (.cells #[.int .i64 (p : Int)] 3)) b n cap vs Ms) := hM.out.low hA
  have cp : (ws.alloc (.cells #[.int .i64 (p : Int)] 3)).cell? ⟨ws.heap.size, 0, none⟩ = some (.int .i64 (p : Int)) := by simp
  obtain ⟨M, hMr⟩ : ∃ M, M = Ms.getD row [] := ⟨_, rfl⟩
  obtain ⟨ar, cr, hr1, hr2, hr3⟩ := HM1.out.cell hrow
  rw [← hMr] at hr1 hr2 hr3
  have hMm : M ∈ Ms := by rw [hMr]; have : row < Ms.length := by rw [hM.out.len]; exact hrow
                          simp [List.getD, this]
  have hMl : M.length = n := (hred.out M hMm).2
  have hMred : Hid (Q.Red p M) := (hred.out M hMm).1
  rw [hMl] at hr1 hr3
  obtain ⟨x, hxx⟩ : ∃ x, x = M.getD j 0 := ⟨_, rfl⟩
  have hx0 : x ≠ 0 := by rw [hxx, hMr]; exact hx.out
  have hxp : x < p := by rw [hxx]; exact hMred.out.getD (by omega) _
  obtain ⟨_, ar', cr', hrv, hrc, hrcell⟩ := Rd.of_own hr2
  rcases hrcell with h0 | ⟨gr, hgr, hgl, hgc⟩
  · omega
  have hare : ar = some ⟨gr, 0, none⟩ := by rw [← hgr]; injection hrv
  subst hare
  have cx : (ws.alloc (.cells #[.int .i64 (p : Int)] 3)).cell? ⟨gr, j, none⟩ = some (.int .i64 (x : Int)) := by
    rw [hgc _ _ (nats_get M j (by omega)), hxx, Q.getD_get (by omega)]
  obtain ⟨inv, hinv⟩ : ∃ inv, inv = Q.invM p x := ⟨_, rfl⟩
  have hinvp : inv < p := by rw [hinv]; exact (Q.inv_spec hP.out hxp hx0).1
  have HI : ∀ W : World, Calls Tryz.prog 34 #[.int .i64 p, .int .i64 x] W fun x w' => x = .returned (.int .i64 (inv : Int)) ∧ ∃ n, w' = W.drewN n := fun W => by rw [hinv]; exact inverseOf_is p x W hP hp2 hxp hx0
  have HRD : Hid (∀ W : World, Below (ws.alloc (.cells #[.int .i64 (p : Int)] 3)).heap.size (ws.alloc (.cells #[.int .i64 (p : Int)] 3)) W → Rd W (.slice (some ⟨gr, 0, none⟩) n cr) 1 M.length (nats M)) := fun W hW => by
    have := (Rd.of_own hr2).below hW (Nat.le_refl _)
    rw [hMl] at this ⊢
    exact this
  have HE := Lib.hid (And.intro hMl (And.intro hMr (And.intro hxx hinv)))
  have HR3 := Lib.hid hr3
  clear hr2 hr3 hrv hrc hgc hMl hMr hxx hinv hMm hA
  have hK1 : KeepB b ws (ws.alloc (.cells #[.int .i64 (p : Int)] 3)) := (KeepB.refl b ws).low ((Below.refl _ _).alloc (Nat.le_refl _) _)
  generalize hW1 : ws.alloc (.cells #[.int .i64 (p : Int)] 3) = W1 at *
  have HK1 := Lib.hid hK1
  clear hK1
  have HW1 := Lib.hid hW1
  have hrow1 : (row : Int) < (n : Int) := by omega
  have hj1 : (j : Int) < (n : Int) := by omega
  go_enter Tryz.func100, Tryz.ntmps100
  go_wp2_with (fail)
  have hone : Hid (∀ W : World, Rd (W.alloc (.cells #[.int .i64 (inv : Int)] 3)) (.slice (some ⟨W.heap.size, 0, none⟩) 1 1) 1 [inv].length (nats [inv])) := fun W => Rd.of_own (lit1_own W inv)
  have hi1 : Hid (Q.Red p [inv]) := by intro y hy; simp at hy; omega
  have hM1 : M.length ≤ 1000000 := by have := HE.out.1; omega
  have HV : Hid (∀ k, Rd ((W1.drewN k).alloc (.cells #[.int .i64 (inv : Int)] 3)) (.slice (some ⟨gr, 0, none⟩) n cr) 1 M.length (nats M)) := fun k => HRD.out _ ((below_drewN (Below.refl _ _) k).alloc (Nat.le_refl _) _)
  have HO : Hid (∀ k, Rd ((W1.drewN k).alloc (.cells #[.int .i64 (inv : Int)] 3)) (.slice (some ⟨W1.heap.size, 0, none⟩) 1 1) 1 [inv].length (nats [inv])) := fun k => hone.out (W1.drewN k)
  have hbl : b < W1.heap.size := (HM1.out.own.lt b rfl).2
  have hBl : ws.heap.size < W1.heap.size := World.block_lt_of_cell? W1 _ cp
  have f2 : W1.frozen? ⟨b, row, none⟩ = false := HM1.out.free row
  have HK : Hid (∀ (k : Nat) (w2 : World), Below ((W1.drewN k).alloc (.cells #[.int .i64 (inv : Int)] 3)).heap.size ((W1.drewN k).alloc (.cells #[.int .i64 (inv : Int)] 3)) w2 → Below W1.heap.size W1 w2) := fun k w2 h =>
    ((below_drewN (Below.refl _ _) k).alloc (Nat.le_refl _) _).trans (h.mono (by simp))
  have al : ∀ (k : Nat) (o : Obj), ((W1.drewN k).alloc o).cell? ⟨b, row, none⟩ = some (.slice (some ⟨gr, 0, none⟩) n cr) := fun k o => (World.cell?_alloc_lt _ o _ hbl).trans hr1
  have n1 := World.new_ne W1 _ cp
  have n2 := World.new_ne W1 _ hr1
  have n3 := World.new_ne W1 _ cx
  have hgb : ¬ gr = b := by
    have h1 := HE.out
    intro e
    have h2 := own_ty_ne (HM1.out.rows row _ M HR3.out (by rw [h1.2.1]; have : row < Ms.length := by rw [hM.out.len]; exact hrow
                                                           simp [List.getD, this])) HM1.out.own (by decide)
    apply h2
    simp [Value.ownBlock, e]
  have hgb' : ¬ b = gr := fun e => hgb e.symm
  have hBb : ¬ ws.heap.size = b := by have := (hM.out.own.lt b rfl).2; omega
  have hBb' : ¬ b = ws.heap.size := fun e => hBb e.symm
  go_upto_region 1 with fail
  go_cut [4] (fun s4 wx => ∃ (W3 : World) (vs' : List Value), W3 = wx ∧ s4 = .pointer (some ⟨ws.heap.size, 0, none⟩) ∧ Hid (Mx w wx b n cap vs' (Ms.set row (Q.prodP' p M [inv]))) ∧ wx.cell? ⟨ws.heap.size, 0, none⟩ = some (.int .i64 (p : Int)) ∧ Hid (KeepB b ws wx) ∧ Hid (FN ws vs vs'))
  case first =>
    refine wp_region_noPanic ?_
    refine wp_region_held_drew (S := (fun w' => w'.cell? ⟨ws.heap.size, 0, none⟩ = some (.int .i64 (p : Int)) ∧ w'.cell? ⟨gr, j, none⟩ = some (.int .i64 (x : Int)))) (by kernel_rfl) ?_ (fun hHeld => ?_)
    · (try dsimp only); go_keep
    refine wpAnyH_take (i := 0) (oi := { dst := some 10, op := Op.move (Operand.tmp 1), type := 53, pos := "kernel.go:48", after := #[], guard := none }) (v := ?_) rfl (by kernel_rfl) (by kernel_rfl) (by kernel_rfl) (fun _ _ _ h => h) (Or.inl ⟨by rfl, ?_⟩) (by assumption) ?_
    rotate_left
    · intro w hSw; (try dsimp only at hSw); go_simp; all_goals (try with_reducible rfl)
    try simp only [Act.put, List.setIfInBounds_toArray, List.set_cons_zero, List.set_cons_succ]
    refine wpAnyH_take (i := 1) (oi := { dst := some 11, op := Op.move (Operand.tmp 2), type := 3, pos := "kernel.go:48", after := #[], guard := none }) (v := ?_) rfl (by kernel_rfl) (by kernel_rfl) (by kernel_rfl) (fun _ _ _ h => h) (Or.inl ⟨by rfl, ?_⟩) (by assumption) ?_
    rotate_left
    · intro w hSw; (try dsimp only at hSw); go_simp; all_goals (try with_reducible rfl)
    try simp only [Act.put, List.setIfInBounds_toArray, List.set_cons_zero, List.set_cons_succ]
    refine wpAnyH_take (i := 2) (oi := { dst := some 12, op := Op.load 3 (Operand.tmp 4), type := 3, pos := "kernel.go:48", after := #[], guard := none }) (v := ?_) rfl (by kernel_rfl) (by kernel_rfl) (by kernel_rfl) (fun _ _ _ h => h) (Or.inl ⟨by rfl, ?_⟩) (by assumption) ?_
    rotate_left
    · intro w hSw; (try dsimp only at hSw); go_simp; all_goals (try with_reducible rfl)
    try simp only [Act.put, List.setIfInBounds_toArray, List.set_cons_zero, List.set_cons_succ]
    refine wpAnyH_take (i := 3) (oi := { dst := some 13, op := Op.move (Operand.tmp 1), type := 53, pos := "kernel.go:48", after := #[], guard := none }) (v := ?_) rfl (by kernel_rfl) (by kernel_rfl) (by kernel_rfl) (fun _ _ _ h => h) (Or.inl ⟨by rfl, ?_⟩) (by assumption) ?_
    rotate_left
    · intro w hSw; (try dsimp only at hSw); go_simp; all_goals (try with_reducible rfl)
    try simp only [Act.put, List.setIfInBounds_toArray, List.set_cons_zero, List.set_cons_succ]
    refine wpAnyH_take (i := 4) (oi := { dst := some 14, op := Op.move (Operand.tmp 2), type := 3, pos := "kernel.go:48", after := #[], guard := none }) (v := ?_) rfl (by kernel_rfl) (by kernel_rfl) (by kernel_rfl) (fun _ _ _ h => h) (Or.inl ⟨by rfl, ?_⟩) (by assumption) ?_
    rotate_left
    · intro w hSw; (try dsimp only at hSw); go_simp; all_goals (try with_reducible rfl)
    try simp only [Act.put, List.setIfInBounds_toArray, List.set_cons_zero, List.set_cons_succ]
    refine wpAnyH_take (i := 5) (oi := { dst := some 15, op := Op.indexAddr 53 (Operand.tmp 13) (Operand.tmp 14), type := 0, pos := "kernel.go:48", after := #[{ on := 3, ground := Ground.data }, { on := 4, ground := Ground.data }], guard := none }) (v := ?_) rfl (by kernel_rfl) (by kernel_rfl) (by kernel_rfl) (fun _ _ _ h => h) (Or.inl ⟨by rfl, ?_⟩) (by assumption) ?_
    rotate_left
    · intro w hSw; (try dsimp only at hSw); go_simp; all_goals (try with_reducible rfl)
    try simp only [Act.put, List.setIfInBounds_toArray, List.set_cons_zero, List.set_cons_succ]
    refine wpAnyH_take (i := 7) (oi := { dst := some 17, op := Op.load 3 (Operand.tmp 4), type := 3, pos := "kernel.go:48", after := #[], guard := none }) (v := ?_) rfl (by kernel_rfl) (by kernel_rfl) (by kernel_rfl) (fun _ _ _ h => h) (Or.inl ⟨by rfl, ?_⟩) (by assumption) ?_
    rotate_left
    · intro w hSw; (try dsimp only at hSw); go_simp; all_goals (try with_reducible rfl)
    try simp only [Act.put, List.setIfInBounds_toArray, List.set_cons_zero, List.set_cons_succ]
    refine wpAnyH_take (i := 8) (oi := { dst := some 18, op := Op.move (Operand.tmp 1), type := 53, pos := "kernel.go:48", after := #[], guard := none }) (v := ?_) rfl (by kernel_rfl) (by kernel_rfl) (by kernel_rfl) (fun _ _ _ h => h) (Or.inl ⟨by rfl, ?_⟩) (by assumption) ?_
    rotate_left
    · intro w hSw; (try dsimp only at hSw); go_simp; all_goals (try with_reducible rfl)
    try simp only [Act.put, List.setIfInBounds_toArray, List.set_cons_zero, List.set_cons_succ]
    refine wpAnyH_take (i := 9) (oi := { dst := some 19, op := Op.move (Operand.tmp 2), type := 3, pos := "kernel.go:48", after := #[], guard := none }) (v := ?_) rfl (by kernel_rfl) (by kernel_rfl) (by kernel_rfl) (fun _ _ _ h => h) (Or.inl ⟨by rfl, ?_⟩) (by assumption) ?_
    rotate_left
    · intro w hSw; (try dsimp only at hSw); go_simp; all_goals (try with_reducible rfl)
    try simp only [Act.put, List.setIfInBounds_toArray, List.set_cons_zero, List.set_cons_succ]
    refine wpAnyH_take (i := 10) (oi := { dst := some 20, op := Op.indexAddr 53 (Operand.tmp 18) (Operand.tmp 19), type := 0, pos := "kernel.go:48", after := #[{ on := 8, ground := Ground.data }, { on := 9, ground := Ground.data }], guard := none }) (v := ?_) rfl (by kernel_rfl) (by kernel_rfl) (by kernel_rfl) (fun _ _ _ h => h) (Or.inl ⟨by rfl, ?_⟩) (by assumption) ?_
    rotate_left
    · intro w hSw; (try dsimp only at hSw); go_simp; all_goals (try with_reducible rfl)
    try simp only [Act.put, List.setIfInBounds_toArray, List.set_cons_zero, List.set_cons_succ]
    refine wpAnyH_take (i := 12) (oi := { dst := some 22, op := Op.move (Operand.tmp 3), type := 3, pos := "kernel.go:48", after := #[], guard := none }) (v := ?_) rfl (by kernel_rfl) (by kernel_rfl) (by kernel_rfl) (fun _ _ _ h => h) (Or.inl ⟨by rfl, ?_⟩) (by assumption) ?_
    rotate_left
    · intro w hSw; (try dsimp only at hSw); go_simp; all_goals (try with_reducible rfl)
    try simp only [Act.put, List.setIfInBounds_toArray, List.set_cons_zero, List.set_cons_succ]
    refine wpAnyH_ready (rs := [6, 11]) (by kernel_rfl) (by simp) ?_
    refine AllReadyH.cons (o := { dst := some 16, op := Op.load 22 (Operand.tmp 15), type := 22, pos := "kernel.go:48", after := #[{ on := 5, ground := Ground.data }], guard := none }) rfl (fun K hK => ?_) ?_
    · go_simp
      refine hK.out _ _ ?_ (fun hHeld => ?_)
      · (try dsimp only); go_keep
      clear hK K
      try simp only [Act.put, List.setIfInBounds_toArray, List.set_cons_zero, List.set_cons_succ]
      refine wpAnyH_ready (rs := [11]) (by kernel_rfl) (by simp) ?_
      refine AllReadyH.cons (o := { dst := some 21, op := Op.load 22 (Operand.tmp 20), type := 22, pos := "kernel.go:48", after := #[{ on := 10, ground := Ground.data }], guard := none }) rfl (fun K hK => ?_) ?_
      · go_simp
        refine hK.out _ _ ?_ (fun hHeld => ?_)
        · (try dsimp only); go_keep
        clear hK K
        try simp only [Act.put, List.setIfInBounds_toArray, List.set_cons_zero, List.set_cons_succ]
        refine wpAnyH_take (i := 13) (oi := { dst := some 23, op := Op.indexAddr 22 (Operand.tmp 21) (Operand.tmp 22), type := 0, pos := "kernel.go:48", after := #[{ on := 11, ground := Ground.data }, { on := 12, ground := Ground.data }], guard := none }) (v := ?_) rfl (by kernel_rfl) (by kernel_rfl) (by kernel_rfl) (fun _ _ _ h => h) (Or.inl ⟨by rfl, ?_⟩) (by assumption) ?_
        rotate_left
        · intro w hSw; (try dsimp only at hSw); go_simp; all_goals (try with_reducible rfl)
        try simp only [Act.put, List.setIfInBounds_toArray, List.set_cons_zero, List.set_cons_succ]
        refine wpAnyH_take (i := 14) (oi := { dst := some 24, op := Op.load 3 (Operand.tmp 23), type := 3, pos := "kernel.go:48", after := #[{ on := 13, ground := Ground.data }], guard := none }) (v := ?_) rfl (by kernel_rfl) (by kernel_rfl) (by kernel_rfl) (fun _ _ _ h => h) (Or.inl ⟨by rfl, ?_⟩) (by assumption) ?_
        rotate_left
        · intro w hSw; (try dsimp only at hSw); go_simp; all_goals (try with_reducible rfl)
        try simp only [Act.put, List.setIfInBounds_toArray, List.set_cons_zero, List.set_cons_succ]
        refine wpAnyH_ready (rs := [15]) (by kernel_rfl) (by simp) ?_
        refine AllReadyH.cons (o := { dst := some 25, op := Op.call { callee := Callee.value (Operand.func 34), args := #[Operand.tmp 17, Operand.tmp 24], argTypes := #[3, 3] }, type := 3, pos := "kernel.go:48", after := #[{ on := 7, ground := Ground.data }, { on := 14, ground := Ground.data }], guard := none }) rfl (fun K hK => ?_) ?_
        · go_simp
          (first | (go_at_call 34; refine (HI _).mono ?_; rintro e w' ⟨rfl, nd, rfl⟩) | (go_at_call 35; refine (product_is p M [inv] _ _ _ hp hp2 (HV.out _) (HO.out _) hMred hi1 hM1 (by simp)).mono ?_; rintro e w2 ⟨⟨v2, rfl, hN⟩, hB⟩; obtain ⟨a3, cap3, rfl⟩ := hN.rd.shape; have hB2 := HK.out _ _ hB; have k1 := (hB2.cell (p := ⟨ws.heap.size, 0, none⟩) hBl).trans cp; have k2 := (hB2.cell (p := ⟨b, row, none⟩) hbl).trans hr1; have k3 := (hB2.cell (p := ⟨gr, j, none⟩) hgl).trans cx; have k4 := (hB2.frozen (p := ⟨b, row, none⟩) hbl).trans f2; have HN := Lib.hid (And.intro hN (And.intro hB hB2)); clear hN hB hB2))
          try go_wp2_with (fail)
          refine hK.out _ _ ?_ (fun hHeld => ?_)
          · (try dsimp only); go_keep
          clear hK K
          try simp only [Act.put, List.setIfInBounds_toArray, List.set_cons_zero, List.set_cons_succ]
          refine wpAnyH_ready (rs := [16]) (by kernel_rfl) (by simp) ?_
          refine AllReadyH.cons (o := { dst := some 26, op := Op.buildSlice 22 1 #[(0, Operand.tmp 25)], type := 22, pos := "kernel.go:48", after := #[{ on := 15, ground := Ground.data }], guard := none }) rfl (fun K hK => ?_) ?_
          · go_simp
            refine hK.out _ _ ?_ (fun hHeld => ?_)
            · (try dsimp only); go_keep
            clear hK K
            try simp only [Act.put, List.setIfInBounds_toArray, List.set_cons_zero, List.set_cons_succ]
            refine wpAnyH_ready (rs := [17]) (by kernel_rfl) (by simp) ?_
            refine AllReadyH.cons (o := { dst := some 27, op := Op.call { callee := Callee.value (Operand.func 35), args := #[Operand.tmp 12, Operand.tmp 16, Operand.tmp 26], argTypes := #[3, 22, 22] }, type := 22, pos := "kernel.go:48", after := #[{ on := 2, ground := Ground.data }, { on := 6, ground := Ground.data }, { on := 16, ground := Ground.data }, { on := 15, ground := Ground.chain }], guard := none }) rfl (fun K hK => ?_) ?_
            · go_simp
              (first | (go_at_call 34; refine (HI _).mono ?_; rintro e w' ⟨rfl, nd, rfl⟩) | (go_at_call 35; refine (product_is p M [inv] _ _ _ hp hp2 (HV.out _) (HO.out _) hMred hi1 hM1 (by simp)).mono ?_; rintro e w2 ⟨⟨v2, rfl, hN⟩, hB⟩; obtain ⟨a3, cap3, rfl⟩ := hN.rd.shape; have hB2 := HK.out _ _ hB; have k1 := (hB2.cell (p := ⟨ws.heap.size, 0, none⟩) hBl).trans cp; have k2 := (hB2.cell (p := ⟨b, row, none⟩) hbl).trans hr1; have k3 := (hB2.cell (p := ⟨gr, j, none⟩) hgl).trans cx; have k4 := (hB2.frozen (p := ⟨b, row, none⟩) hbl).trans f2; have HN := Lib.hid (And.intro hN (And.intro hB hB2)); clear hN hB hB2))
              try go_wp2_with (fail)
              refine hK.out _ _ ?_ (fun hHeld => ?_)
              · (try dsimp only); go_keep
              clear hK K
              try simp only [Act.put, List.setIfInBounds_toArray, List.set_cons_zero, List.set_cons_succ]
              refine wpAnyH_take (i := 18) (oi := { dst := some 28, op := Op.indexAddr 53 (Operand.tmp 10) (Operand.tmp 11), type := 0, pos := "kernel.go:48", after := #[{ on := 0, ground := Ground.data }, { on := 1, ground := Ground.data }, { on := 0, ground := Ground.phase }, { on := 1, ground := Ground.phase }, { on := 2, ground := Ground.phase }, { on := 3, ground := Ground.phase }, { on := 4, ground := Ground.phase }, { on := 5, ground := Ground.phase }, { on := 6, ground := Ground.phase }, { on := 7, ground := Ground.phase }, { on := 8, ground := Ground.phase }, { on := 9, ground := Ground.phase }, { on := 10, ground := Ground.phase }, { on := 11, ground := Ground.phase }, { on := 12, ground := Ground.phase }, { on := 13, ground := Ground.phase }, { on := 14, ground := Ground.phase }, { on := 15, ground := Ground.phase }, { on := 16, ground := Ground.phase }, { on := 17, ground := Ground.phase }], guard := none }) (v := ?_) rfl (by kernel_rfl) (by kernel_rfl) (by kernel_rfl) (fun _ _ _ h => h) (Or.inl ⟨by rfl, ?_⟩) (by assumption) ?_
              rotate_left
              · intro w hSw; (try dsimp only at hSw); go_simp; all_goals (try with_reducible rfl)
              try simp only [Act.put, List.setIfInBounds_toArray, List.set_cons_zero, List.set_cons_succ]
              refine wpAnyH_ready (rs := [19]) (by kernel_rfl) (by simp) ?_
              refine AllReadyH.cons (o := { dst := none, op := Op.store 22 (Operand.tmp 28) (Operand.tmp 27), type := 0, pos := "kernel.go:48", after := #[{ on := 18, ground := Ground.data }, { on := 17, ground := Ground.data }, { on := 17, ground := Ground.chain }, { on := 0, ground := Ground.phase }, { on := 1, ground := Ground.phase }, { on := 2, ground := Ground.phase }, { on := 3, ground := Ground.phase }, { on := 4, ground := Ground.phase }, { on := 5, ground := Ground.phase }, { on := 6, ground := Ground.phase }, { on := 7, ground := Ground.phase }, { on := 8, ground := Ground.phase }, { on := 9, ground := Ground.phase }, { on := 10, ground := Ground.phase }, { on := 11, ground := Ground.phase }, { on := 12, ground := Ground.phase }, { on := 13, ground := Ground.phase }, { on := 14, ground := Ground.phase }, { on := 15, ground := Ground.phase }, { on := 16, ground := Ground.phase }, { on := 17, ground := Ground.phase }], guard := none }) rfl (fun K hK => ?_) ?_
              · go_simp
                refine hK.out _ _ ?_ (fun hHeld => ?_)
                · (try dsimp only); go_keep
                clear hK K
                try simp only [Act.put, List.setIfInBounds_toArray, List.set_cons_zero, List.set_cons_succ]
                refine wpAnyH_done (by kernel_rfl) ?_ _
                refine NoPanic.normal ?_
                go_wp2_with (fail)
                go_meet
                refine ⟨_, _, rfl, rfl, (((HM1.out.low HN.out.2.2).set (i := row) (own_base HN.out.1 (Nat.le_trans HM1.out.below.size (by simp))))), ?_, (HK1.out.low HN.out.2.2).set _ _, (FN.refl _ _).set fun g hg => Nat.le_trans (Nat.le_of_lt hBl) (Nat.le_trans (by simp) (HN.out.1.lt g hg).1)⟩
                simp [World.cell?_setCell_other, k1]
              exact AllReadyH.nil
            exact AllReadyH.nil
          exact AllReadyH.nil
        exact AllReadyH.nil
      exact AllReadyH.nil
    refine AllReadyH.cons (o := { dst := some 21, op := Op.load 22 (Operand.tmp 20), type := 22, pos := "kernel.go:48", after := #[{ on := 10, ground := Ground.data }], guard := none }) rfl (fun K hK => ?_) ?_
    · go_simp
      refine hK.out _ _ ?_ (fun hHeld => ?_)
      · (try dsimp only); go_keep
      clear hK K
      try simp only [Act.put, List.setIfInBounds_toArray, List.set_cons_zero, List.set_cons_succ]
      refine wpAnyH_take (i := 13) (oi := { dst := some 23, op := Op.indexAddr 22 (Operand.tmp 21) (Operand.tmp 22), type := 0, pos := "kernel.go:48", after := #[{ on := 11, ground := Ground.data }, { on := 12, ground := Ground.data }], guard := none }) (v := ?_) rfl (by kernel_rfl) (by kernel_rfl) (by kernel_rfl) (fun _ _ _ h => h) (Or.inl ⟨by rfl, ?_⟩) (by assumption) ?_
      rotate_left
      · intro w hSw; (try dsimp only at hSw); go_simp; all_goals (try with_reducible rfl)
      try simp only [Act.put, List.setIfInBounds_toArray, List.set_cons_zero, List.set_cons_succ]
      refine wpAnyH_take (i := 14) (oi := { dst := some 24, op := Op.load 3 (Operand.tmp 23), type := 3, pos := "kernel.go:48", after := #[{ on := 13, ground := Ground.data }], guard := none }) (v := ?_) rfl (by kernel_rfl) (by kernel_rfl) (by kernel_rfl) (fun _ _ _ h => h) (Or.inl ⟨by rfl, ?_⟩) (by assumption) ?_
      rotate_left
      · intro w hSw; (try dsimp only at hSw); go_simp; all_goals (try with_reducible rfl)
      try simp only [Act.put, List.setIfInBounds_toArray, List.set_cons_zero, List.set_cons_succ]
      refine wpAnyH_ready (rs := [6, 15]) (by kernel_rfl) (by simp) ?_
      refine AllReadyH.cons (o := { dst := some 16, op := Op.load 22 (Operand.tmp 15), type := 22, pos := "kernel.go:48", after := #[{ on := 5, ground := Ground.data }], guard := none }) rfl (fun K hK => ?_) ?_
      · go_simp
        refine hK.out _ _ ?_ (fun hHeld => ?_)
        · (try dsimp only); go_keep
        clear hK K
        try simp only [Act.put, List.setIfInBounds_toArray, List.set_cons_zero, List.set_cons_succ]
        refine wpAnyH_ready (rs := [15]) (by kernel_rfl) (by simp) ?_
        refine AllReadyH.cons (o := { dst := some 25, op := Op.call { callee := Callee.value (Operand.func 34), args := #[Operand.tmp 17, Operand.tmp 24], argTypes := #[3, 3] }, type := 3, pos := "kernel.go:48", after := #[{ on := 7, ground := Ground.data }, { on := 14, ground := Ground.data }], guard := none }) rfl (fun K hK => ?_) ?_
        · go_simp
          (first | (go_at_call 34; refine (HI _).mono ?_; rintro e w' ⟨rfl, nd, rfl⟩) | (go_at_call 35; refine (product_is p M [inv] _ _ _ hp hp2 (HV.out _) (HO.out _) hMred hi1 hM1 (by simp)).mono ?_; rintro e w2 ⟨⟨v2, rfl, hN⟩, hB⟩; obtain ⟨a3, cap3, rfl⟩ := hN.rd.shape; have hB2 := HK.out _ _ hB; have k1 := (hB2.cell (p := ⟨ws.heap.size, 0, none⟩) hBl).trans cp; have k2 := (hB2.cell (p := ⟨b, row, none⟩) hbl).trans hr1; have k3 := (hB2.cell (p := ⟨gr, j, none⟩) hgl).trans cx; have k4 := (hB2.frozen (p := ⟨b, row, none⟩) hbl).trans f2; have HN := Lib.hid (And.intro hN (And.intro hB hB2)); clear hN hB hB2))
          try go_wp2_with (fail)
          refine hK.out _ _ ?_ (fun hHeld => ?_)
          · (try dsimp only); go_keep
          clear hK K
          try simp only [Act.put, List.setIfInBounds_toArray, List.set_cons_zero, List.set_cons_succ]
          refine wpAnyH_ready (rs := [16]) (by kernel_rfl) (by simp) ?_
          refine AllReadyH.cons (o := { dst := some 26, op := Op.buildSlice 22 1 #[(0, Operand.tmp 25)], type := 22, pos := "kernel.go:48", after := #[{ on := 15, ground := Ground.data }], guard := none }) rfl (fun K hK => ?_) ?_
          · go_simp
            refine hK.out _ _ ?_ (fun hHeld => ?_)
            · (try dsimp only); go_keep
            clear hK K
            try simp only [Act.put, List.setIfInBounds_toArray, List.set_cons_zero, List.set_cons_succ]
            refine wpAnyH_ready (rs := [17]) (by kernel_rfl) (by simp) ?_
            refine AllReadyH.cons (o := { dst := some 27, op := Op.call { callee := Callee.value (Operand.func 35), args := #[Operand.tmp 12, Operand.tmp 16, Operand.tmp 26], argTypes := #[3, 22, 22] }, type := 22, pos := "kernel.go:48", after := #[{ on := 2, ground := Ground.data }, { on := 6, ground := Ground.data }, { on := 16, ground := Ground.data }, { on := 15, ground := Ground.chain }], guard := none }) rfl (fun K hK => ?_) ?_
            · go_simp
              (first | (go_at_call 34; refine (HI _).mono ?_; rintro e w' ⟨rfl, nd, rfl⟩) | (go_at_call 35; refine (product_is p M [inv] _ _ _ hp hp2 (HV.out _) (HO.out _) hMred hi1 hM1 (by simp)).mono ?_; rintro e w2 ⟨⟨v2, rfl, hN⟩, hB⟩; obtain ⟨a3, cap3, rfl⟩ := hN.rd.shape; have hB2 := HK.out _ _ hB; have k1 := (hB2.cell (p := ⟨ws.heap.size, 0, none⟩) hBl).trans cp; have k2 := (hB2.cell (p := ⟨b, row, none⟩) hbl).trans hr1; have k3 := (hB2.cell (p := ⟨gr, j, none⟩) hgl).trans cx; have k4 := (hB2.frozen (p := ⟨b, row, none⟩) hbl).trans f2; have HN := Lib.hid (And.intro hN (And.intro hB hB2)); clear hN hB hB2))
              try go_wp2_with (fail)
              refine hK.out _ _ ?_ (fun hHeld => ?_)
              · (try dsimp only); go_keep
              clear hK K
              try simp only [Act.put, List.setIfInBounds_toArray, List.set_cons_zero, List.set_cons_succ]
              refine wpAnyH_take (i := 18) (oi := { dst := some 28, op := Op.indexAddr 53 (Operand.tmp 10) (Operand.tmp 11), type := 0, pos := "kernel.go:48", after := #[{ on := 0, ground := Ground.data }, { on := 1, ground := Ground.data }, { on := 0, ground := Ground.phase }, { on := 1, ground := Ground.phase }, { on := 2, ground := Ground.phase }, { on := 3, ground := Ground.phase }, { on := 4, ground := Ground.phase }, { on := 5, ground := Ground.phase }, { on := 6, ground := Ground.phase }, { on := 7, ground := Ground.phase }, { on := 8, ground := Ground.phase }, { on := 9, ground := Ground.phase }, { on := 10, ground := Ground.phase }, { on := 11, ground := Ground.phase }, { on := 12, ground := Ground.phase }, { on := 13, ground := Ground.phase }, { on := 14, ground := Ground.phase }, { on := 15, ground := Ground.phase }, { on := 16, ground := Ground.phase }, { on := 17, ground := Ground.phase }], guard := none }) (v := ?_) rfl (by kernel_rfl) (by kernel_rfl) (by kernel_rfl) (fun _ _ _ h => h) (Or.inl ⟨by rfl, ?_⟩) (by assumption) ?_
              rotate_left
              · intro w hSw; (try dsimp only at hSw); go_simp; all_goals (try with_reducible rfl)
              try simp only [Act.put, List.setIfInBounds_toArray, List.set_cons_zero, List.set_cons_succ]
              refine wpAnyH_ready (rs := [19]) (by kernel_rfl) (by simp) ?_
              refine AllReadyH.cons (o := { dst := none, op := Op.store 22 (Operand.tmp 28) (Operand.tmp 27), type := 0, pos := "kernel.go:48", after := #[{ on := 18, ground := Ground.data }, { on := 17, ground := Ground.data }, { on := 17, ground := Ground.chain }, { on := 0, ground := Ground.phase }, { on := 1, ground := Ground.phase }, { on := 2, ground := Ground.phase }, { on := 3, ground := Ground.phase }, { on := 4, ground := Ground.phase }, { on := 5, ground := Ground.phase }, { on := 6, ground := Ground.phase }, { on := 7, ground := Ground.phase }, { on := 8, ground := Ground.phase }, { on := 9, ground := Ground.phase }, { on := 10, ground := Ground.phase }, { on := 11, ground := Ground.phase }, { on := 12, ground := Ground.phase }, { on := 13, ground := Ground.phase }, { on := 14, ground := Ground.phase }, { on := 15, ground := Ground.phase }, { on := 16, ground := Ground.phase }, { on := 17, ground := Ground.phase }], guard := none }) rfl (fun K hK => ?_) ?_
              · go_simp
                refine hK.out _ _ ?_ (fun hHeld => ?_)
                · (try dsimp only); go_keep
                clear hK K
                try simp only [Act.put, List.setIfInBounds_toArray, List.set_cons_zero, List.set_cons_succ]
                refine wpAnyH_done (by kernel_rfl) ?_ _
                refine NoPanic.normal ?_
                go_wp2_with (fail)
                go_meet
                refine ⟨_, _, rfl, rfl, (((HM1.out.low HN.out.2.2).set (i := row) (own_base HN.out.1 (Nat.le_trans HM1.out.below.size (by simp))))), ?_, (HK1.out.low HN.out.2.2).set _ _, (FN.refl _ _).set fun g hg => Nat.le_trans (Nat.le_of_lt hBl) (Nat.le_trans (by simp) (HN.out.1.lt g hg).1)⟩
                simp [World.cell?_setCell_other, k1]
              exact AllReadyH.nil
            exact AllReadyH.nil
          exact AllReadyH.nil
        exact AllReadyH.nil
      refine AllReadyH.cons (o := { dst := some 25, op := Op.call { callee := Callee.value (Operand.func 34), args := #[Operand.tmp 17, Operand.tmp 24], argTypes := #[3, 3] }, type := 3, pos := "kernel.go:48", after := #[{ on := 7, ground := Ground.data }, { on := 14, ground := Ground.data }], guard := none }) rfl (fun K hK => ?_) ?_
      · go_simp
        (first | (go_at_call 34; refine (HI _).mono ?_; rintro e w' ⟨rfl, nd, rfl⟩) | (go_at_call 35; refine (product_is p M [inv] _ _ _ hp hp2 (HV.out _) (HO.out _) hMred hi1 hM1 (by simp)).mono ?_; rintro e w2 ⟨⟨v2, rfl, hN⟩, hB⟩; obtain ⟨a3, cap3, rfl⟩ := hN.rd.shape; have hB2 := HK.out _ _ hB; have k1 := (hB2.cell (p := ⟨ws.heap.size, 0, none⟩) hBl).trans cp; have k2 := (hB2.cell (p := ⟨b, row, none⟩) hbl).trans hr1; have k3 := (hB2.cell (p := ⟨gr, j, none⟩) hgl).trans cx; have k4 := (hB2.frozen (p := ⟨b, row, none⟩) hbl).trans f2; have HN := Lib.hid (And.intro hN (And.intro hB hB2)); clear hN hB hB2))
        try go_wp2_with (fail)
        refine hK.out _ _ ?_ (fun hHeld => ?_)
        · (try dsimp only); go_keep
        clear hK K
        try simp only [Act.put, List.setIfInBounds_toArray, List.set_cons_zero, List.set_cons_succ]
        refine wpAnyH_ready (rs := [6, 16]) (by kernel_rfl) (by simp) ?_
        refine AllReadyH.cons (o := { dst := some 16, op := Op.load 22 (Operand.tmp 15), type := 22, pos := "kernel.go:48", after := #[{ on := 5, ground := Ground.data }], guard := none }) rfl (fun K hK => ?_) ?_
        · go_simp
          refine hK.out _ _ ?_ (fun hHeld => ?_)
          · (try dsimp only); go_keep
          clear hK K
          try simp only [Act.put, List.setIfInBounds_toArray, List.set_cons_zero, List.set_cons_succ]
          refine wpAnyH_ready (rs := [16]) (by kernel_rfl) (by simp) ?_
          refine AllReadyH.cons (o := { dst := some 26, op := Op.buildSlice 22 1 #[(0, Operand.tmp 25)], type := 22, pos := "kernel.go:48", after := #[{ on := 15, ground := Ground.data }], guard := none }) rfl (fun K hK => ?_) ?_
          · go_simp
            refine hK.out _ _ ?_ (fun hHeld => ?_)
            · (try dsimp only); go_keep
            clear hK K
            try simp only [Act.put, List.setIfInBounds_toArray, List.set_cons_zero, List.set_cons_succ]
            refine wpAnyH_ready (rs := [17]) (by kernel_rfl) (by simp) ?_
            refine AllReadyH.cons (o := { dst := some 27, op := Op.call { callee := Callee.value (Operand.func 35), args := #[Operand.tmp 12, Operand.tmp 16, Operand.tmp 26], argTypes := #[3, 22, 22] }, type := 22, pos := "kernel.go:48", after := #[{ on := 2, ground := Ground.data }, { on := 6, ground := Ground.data }, { on := 16, ground := Ground.data }, { on := 15, ground := Ground.chain }], guard := none }) rfl (fun K hK => ?_) ?_
            · go_simp
              (first | (go_at_call 34; refine (HI _).mono ?_; rintro e w' ⟨rfl, nd, rfl⟩) | (go_at_call 35; refine (product_is p M [inv] _ _ _ hp hp2 (HV.out _) (HO.out _) hMred hi1 hM1 (by simp)).mono ?_; rintro e w2 ⟨⟨v2, rfl, hN⟩, hB⟩; obtain ⟨a3, cap3, rfl⟩ := hN.rd.shape; have hB2 := HK.out _ _ hB; have k1 := (hB2.cell (p := ⟨ws.heap.size, 0, none⟩) hBl).trans cp; have k2 := (hB2.cell (p := ⟨b, row, none⟩) hbl).trans hr1; have k3 := (hB2.cell (p := ⟨gr, j, none⟩) hgl).trans cx; have k4 := (hB2.frozen (p := ⟨b, row, none⟩) hbl).trans f2; have HN := Lib.hid (And.intro hN (And.intro hB hB2)); clear hN hB hB2))
              try go_wp2_with (fail)
              refine hK.out _ _ ?_ (fun hHeld => ?_)
              · (try dsimp only); go_keep
              clear hK K
              try simp only [Act.put, List.setIfInBounds_toArray, List.set_cons_zero, List.set_cons_succ]
              refine wpAnyH_take (i := 18) (oi := { dst := some 28, op := Op.indexAddr 53 (Operand.tmp 10) (Operand.tmp 11), type := 0, pos := "kernel.go:48", after := #[{ on := 0, ground := Ground.data }, { on := 1, ground := Ground.data }, { on := 0, ground := Ground.phase }, { on := 1, ground := Ground.phase }, { on := 2, ground := Ground.phase }, { on := 3, ground := Ground.phase }, { on := 4, ground := Ground.phase }, { on := 5, ground := Ground.phase }, { on := 6, ground := Ground.phase }, { on := 7, ground := Ground.phase }, { on := 8, ground := Ground.phase }, { on := 9, ground := Ground.phase }, { on := 10, ground := Ground.phase }, { on := 11, ground := Ground.phase }, { on := 12, ground := Ground.phase }, { on := 13, ground := Ground.phase }, { on := 14, ground := Ground.phase }, { on := 15, ground := Ground.phase }, { on := 16, ground := Ground.phase }, { on := 17, ground := Ground.phase }], guard := none }) (v := ?_) rfl (by kernel_rfl) (by kernel_rfl) (by kernel_rfl) (fun _ _ _ h => h) (Or.inl ⟨by rfl, ?_⟩) (by assumption) ?_
              rotate_left
              · intro w hSw; (try dsimp only at hSw); go_simp; all_goals (try with_reducible rfl)
              try simp only [Act.put, List.setIfInBounds_toArray, List.set_cons_zero, List.set_cons_succ]
              refine wpAnyH_ready (rs := [19]) (by kernel_rfl) (by simp) ?_
              refine AllReadyH.cons (o := { dst := none, op := Op.store 22 (Operand.tmp 28) (Operand.tmp 27), type := 0, pos := "kernel.go:48", after := #[{ on := 18, ground := Ground.data }, { on := 17, ground := Ground.data }, { on := 17, ground := Ground.chain }, { on := 0, ground := Ground.phase }, { on := 1, ground := Ground.phase }, { on := 2, ground := Ground.phase }, { on := 3, ground := Ground.phase }, { on := 4, ground := Ground.phase }, { on := 5, ground := Ground.phase }, { on := 6, ground := Ground.phase }, { on := 7, ground := Ground.phase }, { on := 8, ground := Ground.phase }, { on := 9, ground := Ground.phase }, { on := 10, ground := Ground.phase }, { on := 11, ground := Ground.phase }, { on := 12, ground := Ground.phase }, { on := 13, ground := Ground.phase }, { on := 14, ground := Ground.phase }, { on := 15, ground := Ground.phase }, { on := 16, ground := Ground.phase }, { on := 17, ground := Ground.phase }], guard := none }) rfl (fun K hK => ?_) ?_
              · go_simp
                refine hK.out _ _ ?_ (fun hHeld => ?_)
                · (try dsimp only); go_keep
                clear hK K
                try simp only [Act.put, List.setIfInBounds_toArray, List.set_cons_zero, List.set_cons_succ]
                refine wpAnyH_done (by kernel_rfl) ?_ _
                refine NoPanic.normal ?_
                go_wp2_with (fail)
                go_meet
                refine ⟨_, _, rfl, rfl, (((HM1.out.low HN.out.2.2).set (i := row) (own_base HN.out.1 (Nat.le_trans HM1.out.below.size (by simp))))), ?_, (HK1.out.low HN.out.2.2).set _ _, (FN.refl _ _).set fun g hg => Nat.le_trans (Nat.le_of_lt hBl) (Nat.le_trans (by simp) (HN.out.1.lt g hg).1)⟩
                simp [World.cell?_setCell_other, k1]
              exact AllReadyH.nil
            exact AllReadyH.nil
          exact AllReadyH.nil
        refine AllReadyH.cons (o := { dst := some 26, op := Op.buildSlice 22 1 #[(0, Operand.tmp 25)], type := 22, pos := "kernel.go:48", after := #[{ on := 15, ground := Ground.data }], guard := none }) rfl (fun K hK => ?_) ?_
        · go_simp
          refine hK.out _ _ ?_ (fun hHeld => ?_)
          · (try dsimp only); go_keep
          clear hK K
          try simp only [Act.put, List.setIfInBounds_toArray, List.set_cons_zero, List.set_cons_succ]
          refine wpAnyH_ready (rs := [6]) (by kernel_rfl) (by simp) ?_
          refine AllReadyH.cons (o := { dst := some 16, op := Op.load 22 (Operand.tmp 15), type := 22, pos := "kernel.go:48", after := #[{ on := 5, ground := Ground.data }], guard := none }) rfl (fun K hK => ?_) ?_
          · go_simp
            refine hK.out _ _ ?_ (fun hHeld => ?_)
            · (try dsimp only); go_keep
            clear hK K
            try simp only [Act.put, List.setIfInBounds_toArray, List.set_cons_zero, List.set_cons_succ]
            refine wpAnyH_ready (rs := [17]) (by kernel_rfl) (by simp) ?_
            refine AllReadyH.cons (o := { dst := some 27, op := Op.call { callee := Callee.value (Operand.func 35), args := #[Operand.tmp 12, Operand.tmp 16, Operand.tmp 26], argTypes := #[3, 22, 22] }, type := 22, pos := "kernel.go:48", after := #[{ on := 2, ground := Ground.data }, { on := 6, ground := Ground.data }, { on := 16, ground := Ground.data }, { on := 15, ground := Ground.chain }], guard := none }) rfl (fun K hK => ?_) ?_
            · go_simp
              (first | (go_at_call 34; refine (HI _).mono ?_; rintro e w' ⟨rfl, nd, rfl⟩) | (go_at_call 35; refine (product_is p M [inv] _ _ _ hp hp2 (HV.out _) (HO.out _) hMred hi1 hM1 (by simp)).mono ?_; rintro e w2 ⟨⟨v2, rfl, hN⟩, hB⟩; obtain ⟨a3, cap3, rfl⟩ := hN.rd.shape; have hB2 := HK.out _ _ hB; have k1 := (hB2.cell (p := ⟨ws.heap.size, 0, none⟩) hBl).trans cp; have k2 := (hB2.cell (p := ⟨b, row, none⟩) hbl).trans hr1; have k3 := (hB2.cell (p := ⟨gr, j, none⟩) hgl).trans cx; have k4 := (hB2.frozen (p := ⟨b, row, none⟩) hbl).trans f2; have HN := Lib.hid (And.intro hN (And.intro hB hB2)); clear hN hB hB2))
              try go_wp2_with (fail)
              refine hK.out _ _ ?_ (fun hHeld => ?_)
              · (try dsimp only); go_keep
              clear hK K
              try simp only [Act.put, List.setIfInBounds_toArray, List.set_cons_zero, List.set_cons_succ]
              refine wpAnyH_take (i := 18) (oi := { dst := some 28, op := Op.indexAddr 53 (Operand.tmp 10) (Operand.tmp 11), type := 0, pos := "kernel.go:48", after := #[{ on := 0, ground := Ground.data }, { on := 1, ground := Ground.data }, { on := 0, ground := Ground.phase }, { on := 1, ground := Ground.phase }, { on := 2, ground := Ground.phase }, { on := 3, ground := Ground.phase }, { on := 4, ground := Ground.phase }, { on := 5, ground := Ground.phase }, { on := 6, ground := Ground.phase }, { on := 7, ground := Ground.phase }, { on := 8, ground := Ground.phase }, { on := 9, ground := Ground.phase }, { on := 10, ground := Ground.phase }, { on := 11, ground := Ground.phase }, { on := 12, ground := Ground.phase }, { on := 13, ground := Ground.phase }, { on := 14, ground := Ground.phase }, { on := 15, ground := Ground.phase }, { on := 16, ground := Ground.phase }, { on := 17, ground := Ground.phase }], guard := none }) (v := ?_) rfl (by kernel_rfl) (by kernel_rfl) (by kernel_rfl) (fun _ _ _ h => h) (Or.inl ⟨by rfl, ?_⟩) (by assumption) ?_
              rotate_left
              · intro w hSw; (try dsimp only at hSw); go_simp; all_goals (try with_reducible rfl)
              try simp only [Act.put, List.setIfInBounds_toArray, List.set_cons_zero, List.set_cons_succ]
              refine wpAnyH_ready (rs := [19]) (by kernel_rfl) (by simp) ?_
              refine AllReadyH.cons (o := { dst := none, op := Op.store 22 (Operand.tmp 28) (Operand.tmp 27), type := 0, pos := "kernel.go:48", after := #[{ on := 18, ground := Ground.data }, { on := 17, ground := Ground.data }, { on := 17, ground := Ground.chain }, { on := 0, ground := Ground.phase }, { on := 1, ground := Ground.phase }, { on := 2, ground := Ground.phase }, { on := 3, ground := Ground.phase }, { on := 4, ground := Ground.phase }, { on := 5, ground := Ground.phase }, { on := 6, ground := Ground.phase }, { on := 7, ground := Ground.phase }, { on := 8, ground := Ground.phase }, { on := 9, ground := Ground.phase }, { on := 10, ground := Ground.phase }, { on := 11, ground := Ground.phase }, { on := 12, ground := Ground.phase }, { on := 13, ground := Ground.phase }, { on := 14, ground := Ground.phase }, { on := 15, ground := Ground.phase }, { on := 16, ground := Ground.phase }, { on := 17, ground := Ground.phase }], guard := none }) rfl (fun K hK => ?_) ?_
              · go_simp
                refine hK.out _ _ ?_ (fun hHeld => ?_)
                · (try dsimp only); go_keep
                clear hK K
                try simp only [Act.put, List.setIfInBounds_toArray, List.set_cons_zero, List.set_cons_succ]
                refine wpAnyH_done (by kernel_rfl) ?_ _
                refine NoPanic.normal ?_
                go_wp2_with (fail)
                go_meet
                refine ⟨_, _, rfl, rfl, (((HM1.out.low HN.out.2.2).set (i := row) (own_base HN.out.1 (Nat.le_trans HM1.out.below.size (by simp))))), ?_, (HK1.out.low HN.out.2.2).set _ _, (FN.refl _ _).set fun g hg => Nat.le_trans (Nat.le_of_lt hBl) (Nat.le_trans (by simp) (HN.out.1.lt g hg).1)⟩
                simp [World.cell?_setCell_other, k1]
              exact AllReadyH.nil
            exact AllReadyH.nil
          exact AllReadyH.nil
        exact AllReadyH.nil
      exact AllReadyH.nil
    exact AllReadyH.nil
  case rest =>
    obtain ⟨W3, vs', rfl, rfl, HM3, c3, HK3, HF3⟩ := hcut
    obtain ⟨rows0, hrows0⟩ : ∃ rows0, rows0 = Ms.set row (Q.prodP' p M [inv]) := ⟨_, rfl⟩
    have hMsl : Ms.length = n := hM.out.len
    have hRl : (Q.prodP' p M [inv]).length = n := by
      have h1 := HE.out.1
      rw [Q.prod_length (by omega) (by simp)]; simp; omega
    have HR0 : Hid (∀ X ∈ rows0, Q.Red p X ∧ X.length = n) := fun X hX => by
      rw [hrows0] at hX
      rcases List.mem_or_eq_of_mem_set hX with h | h
      · exact hred.out X h
      · rw [h]; exact ⟨Q.red_prod (by omega) _ _, hRl⟩
    have HRL : Hid (rows0.length = n) := by show _ = _; rw [hrows0, List.length_set]; exact hMsl
    have HFIN : Hid (Q.clearK p rows0 row j n = Q.clearCol p Ms row j) := by
      show _ = _
      have h1 := HE.out
      rw [hrows0, h1.2.2.2, h1.2.2.1, h1.2.1, ← hMsl]
      exact Q.clearK_done p Ms row j (by rw [hMsl]; exact hrow)
    have HM0 : Hid (Mx w W3 b n cap vs' (Q.clearK p rows0 row j 0)) := by
      show Mx _ _ _ _ _ _ _
      rw [Q.clearK_zero, hrows0]
      exact HM3.out
    clear hW1 hrows0 hMsl hRl HM3 al n1 n2 n3 hgb hgb' HK HO HV hone HRD HI f2 cx hr1 cp
    go_wp2_with (fail)
    go_loopw [31] (fun i wr => ∃ (k : Nat) (vs2 : List Value), i = .int .i64 k ∧ k ≤ n ∧ Hid (Mx w wr b n cap vs2 (Q.clearK p rows0 row j k)) ∧ wr.cell? ⟨ws.heap.size, 0, none⟩ = some (.int .i64 (p : Int)) ∧ Hid (KeepB b ws wr) ∧ Hid (FN ws vs vs2)) (fun i _ => n - (intOf i).toNat)
    case atStart => exact ⟨0, _, rfl, by omega, HM0, c3, HK3, HF3⟩
    case round =>
      obtain ⟨k, vs2, rfl, hk, HS, cB, HKr, HFr⟩ := hrel
      by_cases hlt : k < n
      · have hkl : k < rows0.length := by have := HRL.out; omega
        obtain ⟨X, hX⟩ : ∃ X, X = rows0.getD k [] := ⟨_, rfl⟩
        have hXc : (Q.clearK p rows0 row j k).getD k [] = X := by rw [Q.clearK_get _ _ _ _ _ _ hkl, if_neg (by omega), hX]
        have hXm : X ∈ rows0 := by rw [hX]; simp [List.getD, hkl]
        have hXl := (HR0.out X hXm).2
        have hXr : Hid (Q.Red p X) := (HR0.out X hXm).1
        obtain ⟨aX, cpX, e1, e2, e3⟩ := HS.out.cell hlt
        rw [hXc, hXl] at e1 e2 e3
        obtain ⟨t, ht⟩ : ∃ t, t = X.getD j 0 := ⟨_, rfl⟩
        have htp : t < p := by rw [ht]; exact hXr.out.getD (by omega) _
        obtain ⟨_, aX', cpX', hrv, hrc, hrcell⟩ := Rd.of_own e2
        rcases hrcell with h0 | ⟨gX, hgX, hgXl, hgXc⟩
        · omega
        have hare : aX = some ⟨gX, 0, none⟩ := by rw [← hgX]; injection hrv
        subst hare
        have e4 : wr.cell? ⟨gX, j, none⟩ = some (.int .i64 (t : Int)) := by
          rw [hgXc _ _ (nats_get X j (by omega)), ht, Q.getD_get (by omega)]
        have HX := Lib.hid (And.intro hX (And.intro hXl (And.intro ht (And.intro e2 e3))))
        clear hX hXc hXm ht e2 e3 hrv hrc hgXc hXl
        have m1 := World.new_ne wr _ cB
        have m2 := World.new_ne wr _ e1
        have m3 := World.new_ne wr _ e4
        have hk1 : (k : Int) < (n : Int) := by omega
        go_wp2_with (fail)
        go_region_held3 (fun w' => w'.cell? ⟨ws.heap.size, 0, none⟩ = some (.int .i64 (p : Int)) ∧ w'.cell? ⟨b, k, none⟩ = some (.slice (some ⟨gX, 0, none⟩) n cpX) ∧ w'.cell? ⟨gX, j, none⟩ = some (.int .i64 (t : Int))) (go_keep) (fail)
        have hT1 : (p : Int) - (t : Int) = ((p - t : Nat) : Int) := by omega
        have hw : IntKind.i64.wrap ((p : Int) - (t : Int)) = ((p - t : Nat) : Int) := by rw [IntWalk.i64_in _ (by omega)]; exact hT1
        rw [hw]
        have hB4 : Below wr.heap.size wr (wr.alloc (.cells #[.int .i64 ((p - t : Nat) : Int)] 3)).drew := ((Below.refl _ _).alloc (Nat.le_refl _) _).drew
        have cT : (wr.alloc (.cells #[.int .i64 ((p - t : Nat) : Int)] 3)).drew.cell? ⟨wr.heap.size, 0, none⟩ = some (.int .i64 ((p - t : Nat) : Int)) := by simp
        generalize (wr.alloc (.cells #[.int .i64 ((p - t : Nat) : Int)] 3)).drew = W4 at hB4 cT ⊢
        have hBl4 : ws.heap.size < wr.heap.size := World.block_lt_of_cell? wr _ cB
        have HK4 : Hid (KeepB b ws W4) := HKr.out.low hB4
        have cB4 : W4.cell? ⟨ws.heap.size, 0, none⟩ = some (.int .i64 (p : Int)) := (hB4.cell (p := ⟨ws.heap.size, 0, none⟩) hBl4).trans cB
        have HS4 : Hid (Mx w W4 b n cap vs2 (Q.clearK p rows0 row j k)) := HS.out.low hB4
        have hbl4 : b < wr.heap.size := (HS.out.own.lt b rfl).2
        have e14 : W4.cell? ⟨b, k, none⟩ = some (.slice (some ⟨gX, 0, none⟩) n cpX) := (hB4.cell (p := ⟨b, k, none⟩) hbl4).trans e1
        have f14 : W4.frozen? ⟨b, k, none⟩ = false := HS4.out.free k
        have hbl5 : b < W4.heap.size := (HS4.out.own.lt b rfl).2
        have HXo : Hid (W4.ownsRow w.heap.size 3 1 (.slice (some ⟨gX, 0, none⟩) n cpX) n (nats X)) := own_kept HX.out.2.2.2.1 hB4
        clear hT1 hw hB4 cB e1 e4 m1 m2 m3 HS
        obtain ⟨T, hT⟩ : ∃ T, T = p - t := ⟨_, rfl⟩
        rw [← hT] at cT ⊢
        have HT := Lib.hid hT
        have hTp : T ≤ p := by omega
        clear hT
        by_cases hyes : k ≠ row ∧ T < p
        · have hd1 : ((k : Int) != (row : Int)) = true := by rw [bne_iff_ne]; omega
          have hd2 : decide (T < p) = true := by simpa using hyes.2
          obtain ⟨R, hR⟩ : ∃ R, R = rows0.getD row [] := ⟨_, rfl⟩
          have hrl : row < rows0.length := by have := HRL.out; omega
          have hRc : (Q.clearK p rows0 row j k).getD row [] = R := by rw [Q.clearK_get _ _ _ _ _ _ hrl, if_neg (fun h => h.2.1 rfl), hR]
          have hRm : R ∈ rows0 := by rw [hR]; simp [List.getD, hrl]
          have hRl := (HR0.out R hRm).2
          have hRr : Hid (Q.Red p R) := (HR0.out R hRm).1
          obtain ⟨aR, cpR, q1, q2, _⟩ := HS4.out.cell hrow
          rw [hRc, hRl] at q1 q2
          have HRo : Hid (Rd W4.drew (.slice aR n cpR) 1 R.length (nats R)) := by show Rd _ _ _ _ _; rw [hRl]; exact Rd.of_own (own_kept q2 (Below.refl _ _).drew)
          have HXo2 : Hid (Rd W4.drew (.slice (some ⟨gX, 0, none⟩) n cpX) 1 X.length (nats X)) := by show Rd _ _ _ _ _; rw [HX.out.2.1]; exact Rd.of_own (own_kept HXo.out (Below.refl _ _).drew)
          have HEND : Hid ((Q.clearK p rows0 row j k).set k (Q.comb (fun a b => (a + T * b) % p) X R) = Q.clearK p rows0 row j (k + 1)) := by
            have h1 := Q.clearK_yes p rows0 row j k hkl hyes.1 (by rw [← HX.out.1, ← HX.out.2.2.1, ← HT.out]; exact hyes.2)
            rw [← HX.out.1, ← HX.out.2.2.1, ← HT.out, ← hR] at h1
            exact h1
          have hXl2 : X.length ≤ 1000000 := by have := HX.out.2.1; omega
          have hRl2 : R.length ≤ 1000000 := by omega
          have hrk : ¬ k = row := hyes.1
          have hrk' : ¬ row = k := fun e => hrk e.symm
          clear hyes hR hRc hRm hRl q2
          have r1 := World.new_ne W4 _ q1
          go_wp2_with (fail)
          go_region_law
            (first
              | (go_simp; go_at_call 78; refine (combClear_is p ws.heap.size wr.heap.size T X R _ _ _ hp hp2 HXo2 HRo hXr hRr hXl2 hRl2 cB4 (by omega) cT).mono ?_; rintro e w5 ⟨⟨v5, rfl, hN⟩, hB⟩; obtain ⟨a5, cap5, rfl, _⟩ := own_form hN; have k1 := (hB.cell (p := ⟨ws.heap.size, 0, none⟩) (World.block_lt_of_cell? W4 _ cB4)).trans cB4; have k2 := (hB.cell (p := ⟨b, row, none⟩) hbl5).trans q1; have k5 : ∀ u, (w5.setCell ⟨b, k, none⟩ u).cell? ⟨b, row, none⟩ = some (.slice aR n cpR) := fun u => (World.cell?_setCell_other w5 _ _ u (fun e => by injection e with _ e2; exact hrk e2)).trans k2; have k3 := (hB.cell (p := ⟨b, k, none⟩) hbl5).trans e14; have k4 := (hB.frozen (p := ⟨b, k, none⟩) hbl5).trans f14; have HN := Lib.hid (And.intro hN hB); clear hN hB))
          all_goals
            have hN5 := fun g hg => (HN.out.1.lt g hg).1
            have HM6 : Hid (∃ vs6, FN ws vs vs6 ∧ Mx w (w5.setCell ⟨b, k, none⟩ (.slice a5 (Q.comb (fun a b => (a + T * b) % p) X R).length cap5)) b n cap vs6 (Q.clearK p rows0 row j (k + 1))) := by
              have h5 := ((HS4.out.low (show Below W4.heap.size W4 W4.drew from (Below.refl _ _).drew)).low HN.out.2).set (i := k) (own_base HN.out.1 (HS4.out.below.size))
              rw [HEND.out] at h5
              exact ⟨_, HFr.out.set fun g hg => Nat.le_trans HK4.out.1 (hN5 g hg), h5⟩
            have c6 : (w5.setCell ⟨b, k, none⟩ (.slice a5 (Q.comb (fun a b => (a + T * b) % p) X R).length cap5)).cell? ⟨ws.heap.size, 0, none⟩ = some (.int .i64 (p : Int)) := by
              rw [World.cell?_setCell_other w5 _ _ _ (by intro e; injection e with e; exact hBb' e)]; exact k1
            go_wp2_with (fail)
            go_roundw
            case rel =>
              obtain ⟨vs6, hf6, hm6⟩ := HM6.out
              exact ⟨k + 1, vs6, by go_num, by omega, hm6, c6, ((HK4.out.low (show Below W4.heap.size W4 W4.drew from (Below.refl _ _).drew)).low HN.out.2).set _ _, hf6⟩
            case measure => simp [intOf]; omega
        · have HEND : Hid (Q.clearK p rows0 row j k = Q.clearK p rows0 row j (k + 1)) := Q.clearK_no p rows0 row j k (by rw [← HX.out.1, ← HX.out.2.2.1, ← HT.out]; exact hyes)
          have HS5 : Hid (Mx w W4 b n cap vs2 (Q.clearK p rows0 row j (k + 1))) := by have := HS4.out; rw [HEND.out] at this; exact this
          by_cases hkr : k = row
          · have hd1 : ((k : Int) != (row : Int)) = false := by rw [bne_eq_false_iff_eq]; omega
            clear hyes hkr
            go_wp2_with (fail)
            go_roundw
            case rel => exact ⟨k + 1, _, by go_num, by omega, HS5, cB4, HK4, HFr⟩
            case measure => simp [intOf]; omega
          · have hd1 : ((k : Int) != (row : Int)) = true := by rw [bne_iff_ne]; omega
            have hd2 : decide (T < p) = false := by simp; omega
            clear hyes
            go_wp2_with (fail)
            go_roundw
            case rel => exact ⟨k + 1, _, by go_num, by omega, HS5, cB4, HK4, HFr⟩
            case measure => simp [intOf]; omega
      · obtain rfl : k = n := by omega
        have HE2 : Hid (∃ vs', Mx w wr b k cap vs' (Q.clearCol p Ms row j) ∧ FN ws vs vs') := ⟨vs2, by rw [← HFIN.out]; exact HS.out, HFr.out⟩
        go_wp2_with (fail)
        go_end0
        exact ⟨rfl, HE2.out, HKr.out⟩

end Go.Proofs.YtbehihanhfmmhaaGreat

namespace Go.Proofs.YtbehihanhfmmhaaGreat
open Go.RowKit

def Q.RowsOk (p n : Nat) (Ms : List (List Nat)) : Prop := Ms.length = n ∧ ∀ X ∈ Ms, Q.Red p X ∧ X.length = n

theorem Q.RowsOk.getD {p n : Nat} {Ms : List (List Nat)} (h : Q.RowsOk p n Ms) {i : Nat} (hi : i < n) : Q.Red p (Ms.getD i []) ∧ (Ms.getD i []).length = n := by
  have hl : i < Ms.length := by rw [h.1]; exact hi
  exact h.2 _ (by simp [List.getD, hl])

theorem Q.RowsOk.set {p n : Nat} {Ms : List (List Nat)} (h : Q.RowsOk p n Ms) {i : Nat} {X : List Nat} (hX : Q.Red p X ∧ X.length = n) : Q.RowsOk p n (Ms.set i X) := by
  refine ⟨by rw [List.length_set]; exact h.1, fun Y hY => ?_⟩
  rcases List.mem_or_eq_of_mem_set hY with h1 | h1
  · exact h.2 Y h1
  · rw [h1]; exact hX

theorem Q.RowsOk.swap {p n : Nat} {Ms : List (List Nat)} (h : Q.RowsOk p n Ms) {i d : Nat} (hi : i < n) (hd : d < n) : Q.RowsOk p n (Q.swapRows Ms i d) :=
  (h.set (h.getD hd)).set (h.getD hi)

theorem Q.RowsOk.clear {p n : Nat} (hp : 0 < p) {Ms : List (List Nat)} (h : Q.RowsOk p n Ms) {row j : Nat} (hr : row < n) : Q.RowsOk p n (Q.clearCol p Ms row j) := by
  refine ⟨by simp [Q.clearCol]; exact h.1, fun Y hY => ?_⟩
  have hR : Q.Red p (Q.prodP' p (Ms.getD row []) [Q.invM p ((Ms.getD row []).getD j 0)]) ∧ (Q.prodP' p (Ms.getD row []) [Q.invM p ((Ms.getD row []).getD j 0)]).length = n := by
    have h1 := (h.getD hr).2
    refine ⟨Q.red_prod hp _ _, ?_⟩
    rw [Q.prod_length (by omega) (by simp), List.length_singleton]; omega
  have h2 := h.set (i := row) hR
  unfold Q.clearCol at hY
  rw [List.mem_mapIdx] at hY
  obtain ⟨i, hi, rfl⟩ := hY
  have h3 := h2.2 _ (List.getElem_mem hi)
  dsimp only
  split
  · exact ⟨Q.comb_red (fun _ _ => Nat.mod_lt _ hp) _ _, by rw [Q.comb_length, h3.2, hR.2]; simp⟩
  · exact h3

theorem Q.firstRow_stop (rows : List (List Nat)) (j i m : Nat) (h : m = 0 ∨ (rows.getD i []).getD j 0 ≠ 0) : Q.firstRow rows j i m = i := by
  cases m with
  | zero => rfl
  | succ m => rw [Q.firstRow, if_neg (by omega)]
theorem Q.firstRow_next (rows : List (List Nat)) (j i m : Nat) (hm : 0 < m) (h : (rows.getD i []).getD j 0 = 0) : Q.firstRow rows j i m = Q.firstRow rows j (i + 1) (m - 1) := by
  cases m with
  | zero => omega
  | succ m => rw [Q.firstRow, if_pos h, Nat.add_sub_cancel]

theorem zs_set (Z : List Int) (i : Nat) (x : Int) : zs (Z.set i x) = (zs Z).set i (.int .i64 x) := by simp [zs, List.map_set]

/-- Numbers are put into a row that is no row of the matrix. -/
theorem Mx.putInt {w wr : World} {b n cap gp m cp j : Nat} {vs : List Value} {Ms : List (List Nat)} {xs : List Value} {z : Value} (h : Mx w wr b n cap vs Ms) (hp : wr.ownsRow w.heap.size 3 1 (.slice (some ⟨gp, 0, none⟩) m cp) m xs) (hne : ∀ v ∈ vs, v.ownBlock ≠ some gp) :
    Mx w (wr.setCell ⟨gp, j, none⟩ z) b n cap vs Ms := by
  have hg := (hp.lt gp rfl).1
  refine ⟨own_set_other h.own (fun e => own_ty_ne hp h.own (by decide) (by simp [Value.ownBlock] at e ⊢; exact e.symm)) _, fun i v M hv hM => own_set_other (h.rows i v M hv hM) (hne v (List.mem_of_getElem? hv)) _, h.len, h.below.trans ((Below.refl _ _).setCell hg _)⟩

def RetR (w : World) (Ms : List (List Nat)) (piv : List Int) (x : Ending) (w' : World) : Prop :=
  ∃ b cap gp vs, x = .returned (.tuple #[.slice (some ⟨b, 0, none⟩) Ms.length cap, .slice (some ⟨gp, 0, none⟩) Ms.length Ms.length]) ∧ Mx w w' b Ms.length cap vs Ms ∧ w'.ownsRow w.heap.size 3 1 (.slice (some ⟨gp, 0, none⟩) Ms.length Ms.length) Ms.length (zs piv)

set_option maxRecDepth 100000 in
set_option maxHeartbeats 4000000 in
theorem reduced_is (p n : Nat) (Ms : List (List Nat)) (v : Value) (w : World) (hP : Hid (M.Pr p)) (hp2 : p ≤ 1021) (hr : Hid (RdN w v Ms)) (hok : Hid (Q.RowsOk p n Ms)) (hn : n ≤ 10000) :
    Calls Tryz.prog 91 #[.int .i64 p, v] w (RetR w (Q.reducedP p Ms).1 (Q.reducedP p Ms).2) := by
  have hp : 2 ≤ p := hP.out.1
  obtain ⟨fin, hfin⟩ : ∃ fin, fin = Q.reducedP p Ms := ⟨_, rfl⟩
  have HF0 : Hid (fin = Q.redLoop p n n 0 Ms (List.replicate n (-1))) := by show _ = _; rw [hfin, Q.reducedP, hok.out.1]
  rw [← hfin]
  clear hfin
  have hls : Hid (∀ M ∈ Ms, M.length ≤ 100000) := fun M hM => by have := (hok.out.2 M hM).2; omega
  have hcr := Lib.hid (copyRows_is Ms v w hr (by have := hok.out.1; omega) hls)
  obtain ⟨vs00, hrd00, _⟩ := hr.out
  obtain ⟨av, cv, hv⟩ := hrd00.shape
  subst hv
  clear hrd00
  go_enter Tryz.func91, Tryz.ntmps91
  go_wp2_with (fail)
  refine hcr.out.mono ?_
  rintro e w1 ⟨b, cap, vs1, rfl, hM1⟩
  have hml : Ms.length = n := hok.out.1
  rw [hml] at hM1 ⊢
  have HM1 := Lib.hid hM1
  have hcap : n ≤ cap := by obtain ⟨_, _, h1, h2, _⟩ := own_form hM1.own; injection h1 with _ _ h1; omega
  clear hM1 hcr hml
  have hB1 : Hid (Below w1.heap.size w1 (w1.alloc (.cells #[.int .i64 (-1)] 3))) := (Below.refl _ _).alloc (Nat.le_refl _) _
  go_wp2_with (fail)
  refine (repeat_is n w1.heap.size _ _ (by omega) (by simp)).mono ?_
  rintro e w2 ⟨⟨gp, rfl, hown⟩, hB⟩
  have HM2 : Hid (Mx w w2 b n cap vs1 Ms) := (HM1.out.low hB1.out).low hB
  have HP2 : Hid (w2.ownsRow w.heap.size 3 1 (.slice (some ⟨gp, 0, none⟩) n n) n (zs (List.replicate n (-1)))) := own_base hown (Nat.le_trans HM1.out.below.size (by simp))
  have HD2 : Hid (∀ u ∈ vs1, u.ownBlock ≠ some gp) := fun u hu e => by
    obtain ⟨i, hi, rfl⟩ := List.getElem_of_mem hu
    have h1 := HM1.out.vlen
    have h2 := HM1.out.len
    have h3 := (HM1.out.rows i _ (Ms[i]'(by omega)) (List.getElem?_eq_getElem hi) (List.getElem?_eq_getElem (by omega))).lt gp e
    have h4 := (hown.lt gp rfl).1
    simp at h4
    omega
  clear hown hB
  go_wp2_with (fail)
  go_loopw [8, 19] (fun dv jv wr => ∃ (d j : Nat) (vs : List Value) (rows : List (List Nat)) (piv : List Int), dv = .int .i64 d ∧ jv = .int .i64 j ∧ j ≤ n ∧ d ≤ j ∧ Hid (Mx w wr b n cap vs rows) ∧ Hid (Q.RowsOk p n rows) ∧ Hid (wr.ownsRow w.heap.size 3 1 (.slice (some ⟨gp, 0, none⟩) n n) n (zs piv)) ∧ Hid (∀ u ∈ vs, u.ownBlock ≠ some gp) ∧ Hid (fin = Q.redLoop p n (n - j) d rows piv)) (fun _ jv _ => n - (intOf jv).toNat)
  case atStart => exact ⟨0, 0, vs1, Ms, _, rfl, rfl, by omega, by omega, HM2, hok, HP2, HD2, HF0⟩
  case round =>
    obtain ⟨d, j, vs, rows, piv, rfl, rfl, hj, hdj, HM, HO, HPV, HDs, HF⟩ := hrel
    by_cases hlt : j < n
    · obtain ⟨I, hI⟩ : ∃ I, I = Q.firstRow rows j d (n - d) := ⟨_, rfl⟩
      have HI := Lib.hid hI
      clear hI
      go_wp2_with (fail)
      go_loop [10] (fun iv => ∃ (i : Nat), iv = .int .i64 i ∧ i ≤ n ∧ d ≤ i ∧ Hid (I = Q.firstRow rows j i (n - i))) (fun iv => n - (intOf iv).toNat)
      case atStart => exact ⟨d, rfl, by omega, by omega, HI⟩
      case round =>
        obtain ⟨i, rfl, hi, hdi, HII⟩ := hrel
        by_cases hin : i < n
        · have hdec : decide (i < n) = true := by simpa using hin
          obtain ⟨X, hX⟩ : ∃ X, X = rows.getD i [] := ⟨_, rfl⟩
          have hXo := HO.out.getD hin
          rw [← hX] at hXo
          obtain ⟨aX, cpX, e1, e2, e3⟩ := HM.out.cell hin
          rw [← hX, hXo.2] at e1 e2 e3
          obtain ⟨x, hx⟩ : ∃ x, x = X.getD j 0 := ⟨_, rfl⟩
          obtain ⟨_, aX', cpX', hrv, hrc, hrcell⟩ := Rd.of_own e2
          rcases hrcell with h0 | ⟨gX, hgX, hgXl, hgXc⟩
          · omega
          have hare : aX = some ⟨gX, 0, none⟩ := by rw [← hgX]; injection hrv
          subst hare
          have e4 : wr.cell? ⟨gX, j, none⟩ = some (.int .i64 (x : Int)) := by
            rw [hgXc _ _ (nats_get X j (by omega)), hx, Q.getD_get (by omega)]
          have HX := Lib.hid (And.intro hX (And.intro hXo.2 (And.intro hx (And.intro e2 e3))))
          clear hX hXo hx e2 e3 hrv hrc hgXc
          by_cases hx0 : x = 0
          · have hz : ((x : Int) == 0) = true := by simp [hx0]
            have HN : Hid (I = Q.firstRow rows j (i + 1) (n - (i + 1))) := by
              have h1 := HII.out
              rw [Q.firstRow_next rows j i (n - i) (by omega) (by rw [← HX.out.1, ← HX.out.2.2.1]; exact hx0)] at h1
              rw [show n - (i + 1) = n - i - 1 by omega]; exact h1
            clear hx0
            go_wp2_with (fail)
            go_round
            case rel => exact ⟨i + 1, by go_num, by omega, by omega, HN⟩
            case measure => simp [intOf]; omega
          · have hz : ((x : Int) == 0) = false := by simp; omega
            have hIi : I = i := by rw [HII.out]; exact Q.firstRow_stop rows j i (n - i) (.inr (by rw [← HX.out.1, ← HX.out.2.2.1]; exact hx0))
            have hne : ((i : Int) == (n : Int)) = false := by rw [beq_eq_false_iff_ne]; omega
            have hdn : d < n := by omega
            have HF' : Hid (fin = Q.redLoop p n (n - (j + 1)) (d + 1) (Q.clearCol p (Q.swapRows rows i d) d j) (piv.set j (d : Int))) := by
              have h1 := HF.out
              rw [show n - j = (n - (j + 1)) + 1 by omega, Q.redLoop] at h1
              rw [show n - (n - (j + 1) + 1) = j by omega] at h1
              simp only [← HI.out, hIi] at h1
              rw [if_neg (by omega)] at h1
              exact h1
            have hsx : Hid (((Q.swapRows rows i d).getD d []).getD j 0 ≠ 0) := by
              show _ ≠ 0
              rw [Q.swapRows, Q.getD_set _ _ _ _ (by rw [List.length_set, HO.out.1]; exact hdn), if_pos rfl, ← HX.out.1, ← HX.out.2.2.1]
              exact hx0
            obtain ⟨D, hD⟩ : ∃ D, D = rows.getD d [] := ⟨_, rfl⟩
            have hDo := HO.out.getD hdn
            rw [← hD] at hDo
            obtain ⟨aD, cpD, q1, q2, q3⟩ := HM.out.cell hdn
            rw [← hD, hDo.2] at q1 q2 q3
            have f1 := HM.out.free i
            have f2 := HM.out.free d
            have HD := Lib.hid (And.intro hD (And.intro hDo.2 (And.intro q2 q3)))
            have hdn1 : (d : Int) < (n : Int) := by omega
            have hin1 : (i : Int) < (n : Int) := by omega
            clear hx0 hD hDo q2 q3 hIi HI HII
            go_wp2_with (fail)
            obtain ⟨old2, f3⟩ := cell?_setCell_some (w := wr) (p := ⟨b, i, none⟩) (q := ⟨b, d, none⟩) (x := .slice aD n cpD) (v := .slice aD n cpD) q1
            go_cut [] (fun wx => ∃ (W5 : World) (vs5 : List Value), W5 = wx ∧ Hid (Mx w wx b n cap vs5 (Q.swapRows rows i d)) ∧ Hid (KeepB b wr wx) ∧ Hid (∀ u ∈ vs5, u.ownBlock ≠ some gp))
            case first =>
              go_region
              all_goals
                go_wp2_with (fail)
                go_meet
                refine ⟨_, (vs.set i (.slice aD n cpD)).set d (.slice (some ⟨gX, 0, none⟩) n cpX), rfl, ?_, ?_, ?_⟩
                · have h1 := (HM.out.set (i := i) (v := .slice aD n cpD) (M := rows.getD d []) (by rw [← HD.out.1, HD.out.2.1]; exact HD.out.2.2.1))
                  have h2 := h1.set (i := d) (v := .slice (some ⟨gX, 0, none⟩) n cpX) (M := rows.getD i []) (by rw [← HX.out.1, HX.out.2.1]; exact own_set_other HX.out.2.2.2.1 (own_ty_ne HX.out.2.2.2.1 HM.out.own (by decide)) _)
                  exact h2.low (Below.refl _ _).drew
                · exact (((KeepB.refl b wr).set i _).set d _).low (Below.refl _ _).drew
                · intro u hu
                  rcases List.mem_or_eq_of_mem_set hu with h1 | h1
                  · rcases List.mem_or_eq_of_mem_set h1 with h2 | h2
                    · exact HDs.out u h2
                    · rw [h2]; exact HDs.out _ (List.mem_of_getElem? HD.out.2.2.2)
                  · rw [h1]; exact HDs.out _ (List.mem_of_getElem? HX.out.2.2.2.2)
            case rest =>
              obtain ⟨W5, vs5, rfl, HM5, HK5, HD5⟩ := hcut
              have HO5 : Hid (Q.RowsOk p n (Q.swapRows rows i d)) := HO.out.swap hin hdn
              have HPV5 : Hid (W5.ownsRow w.heap.size 3 1 (.slice (some ⟨gp, 0, none⟩) n n) n (zs piv)) := HK5.out.own HPV.out (own_ty_ne HPV.out HM.out.own (by decide))
              clear q1 f1 f2 f3 e1 e4 HK5 HM HPV
              go_wp2_with (fail)
              refine (clearColumn_is p b n cap d j vs5 (Q.swapRows rows i d) w _ hP hp2 HM5 (by omega) hdn hlt (fun X hX => HO5.out.2 X hX) hsx hcap).mono ?_
              rintro e w6 ⟨rfl, hM6, hK6⟩
              obtain ⟨vs6, hM6, hf6⟩ := hM6
              have HM6 := Lib.hid hM6
              have HPV6 : Hid (w6.ownsRow w.heap.size 3 1 (.slice (some ⟨gp, 0, none⟩) n n) n (zs piv)) := hK6.own HPV5.out (own_ty_ne HPV5.out HM5.out.own (by decide))
              have HO6 : Hid (Q.RowsOk p n (Q.clearCol p (Q.swapRows rows i d) d j)) := HO5.out.clear (by omega) hdn
              have HD6 : Hid (∀ u ∈ vs6, u.ownBlock ≠ some gp) := fun u hu e => by
                rcases hf6 u hu with h1 | h1
                · exact HD5.out u h1 e
                · have h2 := h1 gp e
                  have h3 := (HPV5.out.lt gp rfl).2
                  omega
              have g1 : ∃ old, w6.cell? ⟨gp, j, none⟩ = some (.int .i64 old) := by
                have hpl : piv.length = n := by have := HPV6.out.1; rw [zs_length] at this; omega
                exact ⟨piv[j], by rw [HPV6.out.cellAt j (by omega), zs_get piv j (by omega)]⟩
              obtain ⟨oldp, g1⟩ := g1
              have g2 : w6.frozen? ⟨gp, j, none⟩ = false := HPV6.out.frozenAt j
              have HPV7 : Hid ((w6.setCell ⟨gp, j, none⟩ (.int .i64 (d : Int))).ownsRow w.heap.size 3 1 (.slice (some ⟨gp, 0, none⟩) n n) n (zs (piv.set j (d : Int)))) := by
                have := (HPV6.out.stored j (.int .i64 (d : Int))).1
                rw [← zs_set] at this
                exact this
              have HM7 : Hid (Mx w (w6.setCell ⟨gp, j, none⟩ (.int .i64 (d : Int))) b n cap vs6 (Q.clearCol p (Q.swapRows rows i d) d j)) := HM6.out.putInt HPV6.out HD6.out
              clear hM6 hK6 hf6
              go_wp2_with (fail)
              go_roundw
              case rel => exact ⟨d + 1, j + 1, vs6, _, _, by go_num, by go_num, by omega, by omega, HM7, HO6, HPV7, HD6, HF'⟩
              case measure => simp [intOf]; omega
        · obtain rfl : i = n := by omega
          have hdec : decide (i < i) = false := by simp
          have hIi : Hid (I = i) := by show _ = _; rw [HII.out]; exact Q.firstRow_stop rows j i (i - i) (.inl (by omega))
          have hne : ((i : Int) == (i : Int)) = true := by simp
          have HF' : Hid (fin = Q.redLoop p i (i - (j + 1)) d rows piv) := by
            have h1 := HF.out
            rw [show i - j = (i - (j + 1)) + 1 by omega, Q.redLoop] at h1
            rw [show i - (i - (j + 1) + 1) = j by omega] at h1
            simp only [← HI.out, hIi.out, if_true] at h1
            exact h1
          clear hin
          go_wp2_with (fail)
          go_roundw
          case rel => exact ⟨d, j + 1, vs, rows, piv, rfl, by go_num, by omega, by omega, HM, HO, HPV, HDs, HF'⟩
          case measure => simp [intOf]; omega
    · obtain rfl : j = n := by omega
      have HE : Hid (fin = (rows, piv)) := by have h1 := HF.out; rw [Nat.sub_self, Q.redLoop] at h1; exact h1
      go_wp2_with (fail)
      go_ret2
      have hl : rows.length = j := HM.out.len
      rw [HE.out]
      refine ⟨b, cap, gp, vs, ?_, ?_, ?_⟩
      · simp only [hl]; rfl
      · rw [hl]; exact HM.out
      · rw [hl]; exact HPV.out

end Go.Proofs.YtbehihanhfmmhaaGreat

namespace Go.Proofs.YtbehihanhfmmhaaGreat
open Go.RowKit

/-! ### What reduced gives -/
theorem Q.redLoop_ok {p n : Nat} (hp : 0 < p) : ∀ (k d : Nat) (rows : List (List Nat)) (piv : List Int), d ≤ n - k → k ≤ n → Q.RowsOk p n rows → piv.length = n → (∀ r ∈ piv, r < n) →
    Q.RowsOk p n (Q.redLoop p n k d rows piv).1 ∧ (Q.redLoop p n k d rows piv).2.length = n ∧ ∀ r ∈ (Q.redLoop p n k d rows piv).2, r < n
  | 0, d, rows, piv, _, _, h1, h2, h3 => by rw [Q.redLoop]; exact ⟨h1, h2, h3⟩
  | k + 1, d, rows, piv, hd, hk, h1, h2, h3 => by
    rw [Q.redLoop]
    split
    · exact Q.redLoop_ok hp k d rows piv (by omega) (by omega) h1 h2 h3
    · next hi =>
      have hle : ∀ (m i : Nat), Q.firstRow rows (n - (k + 1)) i m ≤ i + m := fun m => by
        induction m with
        | zero => intro i; simp [Q.firstRow]
        | succ m ih =>
          intro i
          rw [Q.firstRow]
          split
          · have := ih (i + 1); omega
          · omega
      have hI := hle (n - d) d
      have hdn : d < n := by omega
      have hin : Q.firstRow rows (n - (k + 1)) d (n - d) < n := by omega
      refine Q.redLoop_ok hp k (d + 1) _ _ (by omega) (by omega) ((h1.swap hin hdn).clear hp hdn) (by rw [List.length_set]; exact h2) fun r hr => ?_
      rcases List.mem_or_eq_of_mem_set hr with h4 | h4
      · exact h3 r h4
      · rw [h4]; omega

theorem Q.reduced_ok {p n : Nat} (hp : 0 < p) {Ms : List (List Nat)} (h : Q.RowsOk p n Ms) : Q.RowsOk p n (Q.reducedP p Ms).1 ∧ (Q.reducedP p Ms).2.length = n ∧ ∀ r ∈ (Q.reducedP p Ms).2, r < n := by
  rw [Q.reducedP, h.1]
  exact Q.redLoop_ok hp n 0 Ms _ (by omega) (Nat.le_refl _) h (by simp) fun r hr => by rw [List.eq_of_mem_replicate hr]; omega

/-- The column under way: k numbers are in. -/
def Q.colK (p n j : Nat) (rows : List (List Nat)) (piv : List Int) (k : Nat) : List Nat :=
  (List.range n).map fun i => if i < k ∧ 0 ≤ piv.getD i (-1) then (p - (rows.getD (piv.getD i (-1)).toNat []).getD j 0) % p else if i = j then 1 else 0
theorem Q.colK_length (p n j : Nat) (rows : List (List Nat)) (piv : List Int) (k : Nat) : (Q.colK p n j rows piv k).length = n := by simp [Q.colK]
theorem Q.colK_getD (p n j : Nat) (rows : List (List Nat)) (piv : List Int) (k i : Nat) (h : i < n) : (Q.colK p n j rows piv k).getD i 0 = if i < k ∧ 0 ≤ piv.getD i (-1) then (p - (rows.getD (piv.getD i (-1)).toNat []).getD j 0) % p else if i = j then 1 else 0 := by
  rw [Q.getD_get (by rw [Q.colK_length]; exact h)]; simp [Q.colK]
theorem Q.colK_zero (p n j : Nat) (rows : List (List Nat)) (piv : List Int) (hj : j < n) : (List.replicate n 0).set j 1 = Q.colK p n j rows piv 0 := by
  refine Q.ext_getD (by simp [Q.colK_length]) fun i hi => ?_
  rw [List.length_set, List.length_replicate] at hi
  rw [Q.colK_getD _ _ _ _ _ _ _ hi, if_neg (by omega), List.getD_eq_getElem?_getD, List.getElem?_set]
  by_cases h : j = i
  · rw [if_pos h, if_pos (by simpa using hj), if_pos h.symm]; rfl
  · rw [if_neg h, if_neg (Ne.symm h)]; simp [hi]
theorem Q.colK_no (p n j : Nat) (rows : List (List Nat)) (piv : List Int) (k : Nat) (h : piv.getD k (-1) < 0) : Q.colK p n j rows piv k = Q.colK p n j rows piv (k + 1) := by
  refine Q.ext_getD (by simp [Q.colK_length]) fun i hi => ?_
  rw [Q.colK_length] at hi
  rw [Q.colK_getD _ _ _ _ _ _ _ hi, Q.colK_getD _ _ _ _ _ _ _ hi]
  by_cases h1 : i < k ∧ 0 ≤ piv.getD i (-1)
  · rw [if_pos h1, if_pos ⟨by omega, h1.2⟩]
  · have h2 : ¬ (i < k + 1 ∧ 0 ≤ piv.getD i (-1)) := fun h2 => by
      by_cases hik : i = k
      · subst hik; omega
      · exact h1 ⟨by omega, h2.2⟩
    rw [if_neg h1, if_neg h2]
theorem Q.colK_yes (p n j : Nat) (rows : List (List Nat)) (piv : List Int) (k : Nat) (_hk : k < n) (h : 0 ≤ piv.getD k (-1)) : (Q.colK p n j rows piv k).set k ((p - (rows.getD (piv.getD k (-1)).toNat []).getD j 0) % p) = Q.colK p n j rows piv (k + 1) := by
  refine Q.ext_getD (by simp [Q.colK_length]) fun i hi => ?_
  rw [List.length_set, Q.colK_length] at hi
  rw [Q.colK_getD _ _ _ _ _ _ _ hi, List.getD_eq_getElem?_getD, List.getElem?_set]
  by_cases hik : k = i
  · subst hik
    rw [if_pos rfl, if_pos (by rw [Q.colK_length]; exact hi), if_pos ⟨by omega, h⟩]; rfl
  · rw [if_neg hik, ← List.getD_eq_getElem?_getD, Q.colK_getD _ _ _ _ _ _ _ hi]
    by_cases h1 : i < k ∧ 0 ≤ piv.getD i (-1)
    · rw [if_pos h1, if_pos ⟨by omega, h1.2⟩]
    · have h2 : ¬ (i < k + 1 ∧ 0 ≤ piv.getD i (-1)) := fun h2 => h1 ⟨by omega, h2.2⟩
      rw [if_neg h1, if_neg h2]
theorem Q.colK_done (p n j : Nat) (rows : List (List Nat)) (piv : List Int) : Q.colK p n j rows piv n = Q.column p n j rows piv := by
  unfold Q.colK Q.column
  refine List.map_congr_left fun i hi => ?_
  have hi' := List.mem_range.1 hi
  dsimp only
  by_cases h : 0 ≤ piv.getD i (-1)
  · rw [if_pos ⟨hi', h⟩, if_pos h]
  · rw [if_neg (fun h1 => h h1.2), if_neg h]

theorem Q.filter_range_succ (P : Nat → Bool) (k : Nat) : (List.range (k + 1)).filter P = (List.range k).filter P ++ if P k then [k] else [] := by
  rw [List.range_succ, List.filter_append]
  congr 1
  by_cases h : P k <;> simp [h]

/-! ### A list of lists that grows -/
structure MxV (w wr : World) (v : Value) (vs : List Value) (Ms : List (List Nat)) : Prop where
  own : wr.ownsRow w.heap.size 22 1 v Ms.length vs
  rows : ∀ (i : Nat) (u : Value) (M : List Nat), vs[i]? = some u → Ms[i]? = some M → wr.ownsRow w.heap.size 3 1 u M.length (nats M)
  below : Below w.heap.size w wr

theorem own_ty_ne2 {w : World} {base base' size size' n n' : Nat} {e e' : TypeId} {v v' : Value} {xs xs' : List Value} (h : w.ownsRow base e size v n xs) (h' : w.ownsRow base' e' size' v' n' xs') (hne : e ≠ e') : v.ownBlock = none ∨ v.ownBlock ≠ v'.ownBlock := by
  rcases h.2 with ⟨rfl, _⟩ | ⟨k, cp, cur, h3, _, h5, _⟩
  · exact .inl rfl
  · right
    intro e
    rcases h'.2 with ⟨rfl, _⟩ | ⟨k', cp', cur', h3', _, h5', _⟩
    · rw [h3] at e; simp [Value.ownBlock] at e
    · rw [h3, h3'] at e
      simp [Value.ownBlock] at e
      subst e
      rw [h5] at h5'
      injection h5' with h5'
      injection h5' with _ h5' _
      exact hne h5'

theorem MxV.nil {w wr : World} (hB : Below w.heap.size w wr) : MxV w wr (.slice none 0 0) [] [] := ⟨World.ownsRow_nil _ _ _ _, fun i u M h => by simp at h, hB⟩
theorem MxV.low {w wr wx : World} {v : Value} {vs : List Value} {Ms : List (List Nat)} (h : MxV w wr v vs Ms) (hB : Below wr.heap.size wr wx) : MxV w wx v vs Ms :=
  ⟨own_kept h.own hB, fun i u M hv hM => own_kept (h.rows i u M hv hM) hB, h.below.trans (hB.mono h.below.size)⟩
theorem MxV.rd {w wr : World} {v : Value} {vs : List Value} {Ms : List (List Nat)} (h : MxV w wr v vs Ms) : RdN wr v Ms :=
  ⟨vs, Rd.of_own h.own, fun i hi hi' => Rd.of_own (h.rows i _ _ (List.getElem?_eq_getElem hi') (List.getElem?_eq_getElem hi))⟩
theorem MxV.vlen {w wr : World} {v : Value} {vs : List Value} {Ms : List (List Nat)} (h : MxV w wr v vs Ms) : vs.length = Ms.length := by have := h.own.1; omega
theorem MxV.putInt {w wr : World} {v : Value} {gp m cp j : Nat} {vs : List Value} {Ms : List (List Nat)} {xs : List Value} {z : Value} (h : MxV w wr v vs Ms) (hp : wr.ownsRow w.heap.size 3 1 (.slice (some ⟨gp, 0, none⟩) m cp) m xs) (hne : ∀ u ∈ vs, u.ownBlock ≠ some gp) :
    MxV w (wr.setCell ⟨gp, j, none⟩ z) v vs Ms := by
  have hg := (hp.lt gp rfl).1
  have h1 : v.ownBlock ≠ some gp := by
    rcases own_ty_ne2 h.own hp (by decide) with h1 | h1
    · rw [h1]; simp
    · exact h1
  exact ⟨own_set_other h.own h1 _, fun i u M hv hM => own_set_other (h.rows i u M hv hM) (hne u (List.mem_of_getElem? hv)) _, h.below.trans ((Below.refl _ _).setCell hg _)⟩
/-- A row is appended. -/
theorem MxV.append {w wr wx : World} {v v' u : Value} {vs : List Value} {Ms : List (List Nat)} {M : List Nat} {o : Obj} (h : MxV w wr v vs Ms) (hu : wr.ownsRow w.heap.size 3 1 u M.length (nats M))
    (hown : wx.ownsRow w.heap.size 22 1 v' (Ms.length + 1) (vs ++ [u])) (hg : (wr.alloc o).grownBy wx v.ownBlock) : MxV w wx v' (vs ++ [u]) (Ms ++ [M]) := by
  have hBa : Below wr.heap.size wr (wr.alloc o) := (Below.refl _ _).alloc (Nat.le_refl _) _
  have hvl := h.vlen
  refine ⟨by rw [List.length_append]; exact hown, fun i t N ht hN => ?_, (h.below.trans (hBa.mono h.below.size)).grown hg (Nat.le_trans h.below.size hBa.size) fun g hg' => (h.own.lt g hg').1⟩
  have hk : ∀ (t : Value) (N : List Nat), wr.ownsRow w.heap.size 3 1 t N.length (nats N) → wx.ownsRow w.heap.size 3 1 t N.length (nats N) := fun t N h1 =>
    (own_kept h1 hBa).kept hg (own_ty_ne2 h1 h.own (by decide))
  rw [List.getElem?_append] at ht hN
  split at ht
  · rw [if_pos (by omega)] at hN
    exact hk t N (h.rows i t N ht hN)
  · rw [if_neg (by omega)] at hN
    rw [hvl] at ht
    have h0 : i - Ms.length = 0 := by
      by_cases h0 : i - Ms.length = 0
      · exact h0
      · rw [List.getElem?_eq_none (by simp; omega)] at ht; cases ht
    rw [h0] at ht hN
    simp at ht hN
    subst ht hN
    exact hk u M hu

theorem MxV.from {w0 w wr : World} {v : Value} {vs : List Value} {Ms : List (List Nat)} (h : MxV w wr v vs Ms) (hB : Below w0.heap.size w0 w) : MxV w0 wr v vs Ms :=
  ⟨own_base h.own hB.size, fun i u M hv hM => own_base (h.rows i u M hv hM) hB.size, hB.trans (h.below.mono hB.size)⟩

/-- What a function that makes a list of lists returns. -/
def RetV (w : World) (Ms : List (List Nat)) (x : Ending) (w' : World) : Prop := ∃ v vs, x = .returned v ∧ MxV w w' v vs Ms

end Go.Proofs.YtbehihanhfmmhaaGreat

namespace Go.Proofs.YtbehihanhfmmhaaGreat
open Go.RowKit

set_option maxRecDepth 100000 in
set_option maxHeartbeats 4000000 in
theorem kernel_is (p n : Nat) (Ms : List (List Nat)) (v : Value) (w : World) (hP : Hid (M.Pr p)) (hp2 : p ≤ 1021) (hr : Hid (RdN w v Ms)) (hok : Hid (Q.RowsOk p n Ms)) (hn : n ≤ 10000) :
    Calls Tryz.prog 70 #[.int .i64 p, v] w (RetV w (Q.kernelP p Ms)) := by
  have hp : 2 ≤ p := hP.out.1
  obtain ⟨rows, hrows⟩ : ∃ rows, rows = (Q.reducedP p Ms).1 := ⟨_, rfl⟩
  obtain ⟨piv, hpiv⟩ : ∃ piv, piv = (Q.reducedP p Ms).2 := ⟨_, rfl⟩
  have hq := Q.reduced_ok (p := p) (n := n) (by omega) hok.out
  rw [← hrows, ← hpiv] at hq
  have HO : Hid (Q.RowsOk p n rows) := hq.1
  have HPL : Hid (piv.length = n) := hq.2.1
  have HPV : Hid (∀ r ∈ piv, r < n) := hq.2.2
  have HFIN : Hid (Q.kernelP p Ms = ((List.range n).filter fun j => decide (piv.getD j (-1) < 0)).map fun j => Q.trim (Q.column p n j rows piv)) := by
    show _ = _
    rw [Q.kernelP, hok.out.1, hrows, hpiv]
  rw [HFIN.out]
  have hrc := Lib.hid (reduced_is p n Ms v w hP hp2 hr hok hn)
  rw [← hrows, ← hpiv] at hrc
  obtain ⟨vs00, hrd00, _⟩ := hr.out
  obtain ⟨av, cv, hv⟩ := hrd00.shape
  subst hv
  have hml : Ms.length = n := hok.out.1
  rw [hml] at hrc ⊢
  clear hrd00 hq hrows hpiv hml
  obtain ⟨i0, hi, hz0, hz1, hz2⟩ := info_parts Tryz.infoZ
  obtain ⟨i1, hi1, hy0, hy1, hy2⟩ := info_parts Tryz.infoS
  have hzp : ((p : Int) == 0) = false := by simp; omega
  go_enter Tryz.func70, Tryz.ntmps70
  go_wp2_with (fail)
  refine hrc.out.mono ?_
  rintro e w1 ⟨b, cap, gp, vs1, rfl, hM1, hP1⟩
  have hrl : rows.length = n := HO.out.1
  rw [hrl] at hM1 hP1 ⊢
  have hcap : n ≤ cap := by obtain ⟨_, _, h1, h2, _⟩ := own_form hM1.own; injection h1 with _ _ h1; omega
  have HM := Lib.hid hM1
  have HP := Lib.hid hP1
  have hbl : b < w1.heap.size := (hM1.own.lt b rfl).2
  have hgl : gp < w1.heap.size := (hP1.lt gp rfl).2
  have hwl : w.heap.size ≤ w1.heap.size := hM1.below.size
  have HWB := Lib.hid hM1.below
  have HV0 : Hid (MxV w1 w1 (.slice none 0 0) [] []) := MxV.nil (Below.refl _ _)
  clear hM1 hP1 hrc hrl hr
  go_wp2_with (fail)
  go_loopw [7, 20] (fun bv jv wr => ∃ (j m cp : Nat) (a : Option Addr) (vs : List Value) (Bs : List (List Nat)), bv = .slice a m cp ∧ jv = .int .i64 j ∧ j ≤ n ∧ m ≤ j ∧ Hid (Below w1.heap.size w1 wr) ∧ Hid (m = Bs.length) ∧ Hid (MxV w1 wr (.slice a m cp) vs Bs) ∧ Hid (Bs = ((List.range j).filter fun j => decide (piv.getD j (-1) < 0)).map fun j => Q.trim (Q.column p n j rows piv))) (fun _ jv _ => n - (intOf jv).toNat)
  case atStart => exact ⟨0, 0, 0, none, [], [], rfl, rfl, by omega, by omega, Below.refl _ _, (by show _ = _; rfl), HV0, (by show _ = _; rfl)⟩
  case round =>
    obtain ⟨j, m, cp, a, vs, Bs, rfl, rfl, hj, hmj, HB, Hm, HV, HBs⟩ := hrel
    by_cases hlt : j < n
    · have hpj : ∃ r, piv.getD j (-1) = r ∧ w1.cell? ⟨gp, j, none⟩ = some (.int .i64 r) := by
        have hjl : j < piv.length := by have := HPL.out; omega
        exact ⟨piv[j], by simp [List.getD, hjl], by rw [HP.out.cellAt j (by omega), zs_get piv j hjl]⟩
      obtain ⟨r, hr1, hr2⟩ := hpj
      have HR := Lib.hid hr1
      have c1 : wr.cell? ⟨gp, j, none⟩ = some (.int .i64 r) := (HB.out.cell (p := ⟨gp, j, none⟩) hgl).trans hr2
      clear hr1 hr2
      by_cases hneg : r < 0
      · have hd : decide (0 ≤ r) = false := by simp; omega
        have HBn : Hid (Bs ++ [Q.trim (Q.column p n j rows piv)] = ((List.range (j + 1)).filter fun j => decide (piv.getD j (-1) < 0)).map fun j => Q.trim (Q.column p n j rows piv)) := by
          show _ = _
          rw [Q.filter_range_succ, HR.out, if_pos (by simpa using hneg), List.map_append, ← HBs.out]; rfl
        clear hneg
        go_wp2_with (at_make; refine wpList_make_full _ rfl _ _ 22 rfl w1.heap.size 3 i0 (.int .i64 0) 1 Tryz.underlying22 hi hz0 hz1 .i64 .i64 _ _ n rfl rfl rfl rfl (by rw [hz2]; omega) (by unfold maxLen; omega) HB.out.size ?_)
        intro w2 hown2 hgrow2
        have hB2 := below_of_grown hgrow2
        obtain ⟨g, hg⟩ : ∃ g, g = wr.heap.size := ⟨_, rfl⟩
        have HS2 : Hid (RSt w1 w2 g n n (List.replicate n 0)) := by
          refine ⟨?_, HV.out.below.trans (hB2.mono HV.out.below.size)⟩
          rw [← nats_zeros, hg]; exact hown2
        have HV2 : Hid (MxV w1 w2 (.slice a m cp) vs Bs) := HV.out.low hB2
        have HB2 : Hid (Below w1.heap.size w1 w2) := HB.out.trans (hB2.mono HB.out.size)
        have hg1 : w1.heap.size ≤ g := by rw [hg]; exact HB.out.size
        have d1 : ∃ old, w2.cell? ⟨g, j, none⟩ = some (.int .i64 old) := ⟨_, HS2.out.cell hlt⟩
        obtain ⟨old, d1⟩ := d1
        have d2 : w2.frozen? ⟨g, j, none⟩ = false := HS2.out.free j
        have HS3 : Hid (RSt w1 (w2.setCell ⟨g, j, none⟩ (.int .i64 1)) g n n (Q.colK p n j rows piv 0)) := by
          have := HS2.out.set j 1
          rw [Q.colK_zero p n j rows piv hlt] at this
          exact this
        have hgv : Hid (∀ u ∈ vs, u.ownBlock ≠ some g) := fun u hu e => by
          obtain ⟨i, hi', rfl⟩ := List.getElem_of_mem hu
          have h1 := HV.out.vlen
          have h3 := (HV.out.rows i _ (Bs[i]'(by omega)) (List.getElem?_eq_getElem hi') (List.getElem?_eq_getElem (by omega))).lt g e
          omega
        have HB3 : Hid (Below w1.heap.size w1 (w2.setCell ⟨g, j, none⟩ (.int .i64 1))) := HB2.out.setCell hg1 _
        have HV3 : Hid (MxV w1 (w2.setCell ⟨g, j, none⟩ (.int .i64 1)) (.slice a m cp) vs Bs) := HV2.out.putInt HS2.out.own hgv.out
        rw [← hg]
        clear hown2 hgrow2 hB2 hg
        go_wp2_with (fail)
        go_loopw [36] (fun iv wq => ∃ (k : Nat), iv = .int .i64 k ∧ k ≤ n ∧ Hid (RSt w1 wq g n n (Q.colK p n j rows piv k)) ∧ Hid (Below w1.heap.size w1 wq) ∧ Hid (MxV w1 wq (.slice a m cp) vs Bs)) (fun iv _ => n - (intOf iv).toNat)
        case atStart => exact ⟨0, rfl, by omega, HS3, HB3, HV3⟩
        case round =>
          obtain ⟨k, rfl, hk, HSk, HBk, HVk⟩ := hrel
          by_cases hkn : k < n
          · have hpk : ∃ r, piv.getD k (-1) = r ∧ r ∈ piv ∧ w1.cell? ⟨gp, k, none⟩ = some (.int .i64 r) := by
              have hkl : k < piv.length := by have := HPL.out; omega
              exact ⟨piv[k], by simp [List.getD, hkl], List.getElem_mem hkl, by rw [HP.out.cellAt k (by omega), zs_get piv k hkl]⟩
            obtain ⟨r2, hr1, hrm, hr2⟩ := hpk
            have hrn := HPV.out r2 hrm
            have c2 : wr.cell? ⟨gp, k, none⟩ = some (.int .i64 r2) := (HBk.out.cell (p := ⟨gp, k, none⟩) hgl).trans hr2
            have HR2 := Lib.hid hr1
            clear hr1 hr2 hrm
            by_cases hneg2 : r2 < 0
            · have hd2 : decide (0 ≤ r2) = false := by simp; omega
              have HSn : Hid (RSt w1 wr g n n (Q.colK p n j rows piv (k + 1))) := by
                have := HSk.out; rw [Q.colK_no p n j rows piv k (by rw [HR2.out]; exact hneg2)] at this; exact this
              clear hneg2
              go_wp2_with (fail)
              go_roundw
              case rel => exact ⟨k + 1, by go_num, by omega, HSn, HBk, HVk⟩
              case measure => simp [intOf]; omega
            · obtain ⟨R, rfl⟩ := Int.eq_ofNat_of_zero_le (show 0 ≤ r2 by omega)
              have hRn : R < n := by omega
              have hXo := HO.out.getD hRn
              obtain ⟨X, hX⟩ : ∃ X, X = rows.getD R [] := ⟨_, rfl⟩
              rw [← hX] at hXo
              obtain ⟨aX, cpX, e1, e2, e3⟩ := (HM.out.low HBk.out).cell hRn
              rw [← hX, hXo.2] at e1 e2
              obtain ⟨x, hx⟩ : ∃ x, x = X.getD j 0 := ⟨_, rfl⟩
              have hxp : x < p := by rw [hx]; exact hXo.1.getD (by omega) _
              obtain ⟨_, aX', cpX', hrv, hrc, hrcell⟩ := Rd.of_own e2
              rcases hrcell with h0 | ⟨gX, hgX, hgXl, hgXc⟩
              · omega
              have hare : aX = some ⟨gX, 0, none⟩ := by rw [← hgX]; injection hrv
              subst hare
              have e4 : wr.cell? ⟨gX, j, none⟩ = some (.int .i64 (x : Int)) := by
                rw [hgXc _ _ (nats_get X j (by omega)), hx, Q.getD_get (by omega)]
              have d3 : wr.cell? ⟨g, k, none⟩ = some (.int .i64 ((Q.colK p n j rows piv k).getD k 0 : Nat)) := HSk.out.cell hkn
              have d4 : wr.frozen? ⟨g, k, none⟩ = false := HSk.out.free k
              have HSn : Hid (RSt w1 (wr.setCell ⟨g, k, none⟩ (.int .i64 (-(x : Int) % (p : Int)))) g n n (Q.colK p n j rows piv (k + 1))) := by
                have := HSk.out.set k ((p - (rows.getD (piv.getD k (-1)).toNat []).getD j 0) % p)
                rw [Q.colK_yes p n j rows piv k hkn (by rw [HR2.out]; omega)] at this
                rw [HR2.out, Int.toNat_natCast, ← hX, ← hx] at this
                have e : -(x : Int) % (p : Int) = (((p - x) % p : Nat) : Int) := by
                  rw [show -(x : Int) % (p : Int) = ((p : Int) - (x : Int)) % (p : Int) by simp, show (p : Int) - (x : Int) = ((p - x : Nat) : Int) by omega]; rfl
                show RSt _ _ _ _ _ _
                rw [e]; exact this
              have HBn2 : Hid (Below w1.heap.size w1 (wr.setCell ⟨g, k, none⟩ (.int .i64 (-(x : Int) % (p : Int))))) := HBk.out.setCell hg1 _
              have HVn : Hid (MxV w1 (wr.setCell ⟨g, k, none⟩ (.int .i64 (-(x : Int) % (p : Int)))) (.slice a m cp) vs Bs) := HVk.out.putInt HSk.out.own hgv.out
              have hj1 : (j : Int) < (n : Int) := by omega
              have hR1 : (R : Int) < (n : Int) := by omega
              have hpx : 0 ≤ (p : Int) - (x : Int) := by omega
              obtain ⟨old3, hold3⟩ : ∃ o, o = (Q.colK p n j rows piv k).getD k 0 := ⟨_, rfl⟩
              rw [← hold3] at d3
              clear hneg2 hX hx hXo e2 e3 hrv hrc hgXc hgX hold3
              go_wp2_with (fail)
              go_roundw
              case rel => exact ⟨k + 1, by go_num, by omega, HSn, HBn2, HVn⟩
              case measure => simp [intOf]; omega
          · obtain rfl : k = n := by omega
            have HSd : Hid (RSt w1 wr g k k (Q.column p k j rows piv)) := by have := HSk.out; rw [Q.colK_done] at this; exact this
            have hcl : (Q.column p k j rows piv).length = k := HSd.out.len
            obtain ⟨C, hC⟩ : ∃ C, C = Q.column p k j rows piv := ⟨_, rfl⟩
            rw [← hC] at HSd hcl HBn
            have hcut := own_cut HSd.out.own (show Q.trimLen C ≤ k by have := Q.trimLen_le C; omega)
            rw [Nat.mul_one, ← nats_take] at hcut
            have HCU : Hid (wr.ownsRow w1.heap.size 3 1 (.slice (some ⟨g, 0, none⟩) (Q.trimLen C) k) (Q.trim C).length (nats (Q.trim C))) := by rw [Q.trim_length]; exact hcut
            have HRC : Hid (Rd wr (.slice (some ⟨g, 0, none⟩) k k) 1 C.length (nats C)) := by show Rd _ _ _ _ _; rw [hcl]; exact Rd.of_own HSd.out.own
            have HCL := Lib.hid hcl
            clear hcut hC hcl
            go_wp2_with (first
              | (go_at_call 60; refine (trim_is C _ k k _ HCL.out.symm HRC (by omega) (by omega) (by omega)).mono ?_; rintro e w' ⟨rfl, rfl⟩)
              | (at_builtin; refine wpList_append_own _ rfl _ _ 53 rfl w1.heap.size 22 i1 (.slice none 0 0) 1 24 Tryz.underlying53 hi1 hy0 hy1 hy2 rfl (by decide) _ _ _ rfl (HVk.out.own.alloc _) ⟨wr.heap.size, 0, none⟩ 1 1 [.slice (some ⟨g, 0, none⟩) (Q.trimLen C) k] rfl rfl ?c1 ?c2 ?c3 ?c4 ?c5 ?_))
            case c1 => exact cell_one_new _ _ _
            case c2 => intro u hu; simp at hu; rw [hu]; rfl
            case c3 => unfold maxLen; have := Hm.out; omega
            case c4 => have := Hm.out; omega
            case c5 => simp; have := HVk.out.below.size; omega
            intro v' w3 hown3 hgrow3 _
            have HV4 : Hid (MxV w1 w3 v' (vs ++ [.slice (some ⟨g, 0, none⟩) (Q.trimLen C) k]) (Bs ++ [Q.trim C])) := HVk.out.append HCU.out hown3 hgrow3
            have HB4 : Hid (Below w1.heap.size w1 w3) := HV4.out.below
            have HM4 : Hid (Bs.length + 1 = (Bs ++ [Q.trim C]).length) := by show _ = _; simp
            have HOW := Lib.hid hown3
            obtain ⟨a4, cap4, hv4, _⟩ := own_form hown3
            subst hv4
            have hml : m + 1 = Bs.length + 1 := by have := Hm.out; omega
            have hm1 : Bs.length + 1 ≤ j + 1 := by omega
            clear hown3 hgrow3
            go_wp2_with (fail)
            go_roundw
            case rel => exact ⟨j + 1, Bs.length + 1, _, _, _, _, rfl, by go_num, by omega, hm1, HB4, HM4, HV4, HBn⟩
            case measure => simp [intOf]; omega
      · have hd : decide (0 ≤ r) = true := by simp; omega
        have HBn : Hid (Bs = ((List.range (j + 1)).filter fun j => decide (piv.getD j (-1) < 0)).map fun j => Q.trim (Q.column p n j rows piv)) := by
          show _ = _
          rw [Q.filter_range_succ, HR.out, if_neg (by simpa using hneg), List.append_nil, ← HBs.out]
        clear hneg
        go_wp2_with (fail)
        go_roundw
        case rel => exact ⟨j + 1, m, _, _, vs, Bs, rfl, by go_num, by omega, by omega, HB, Hm, HV, HBn⟩
        case measure => simp [intOf]; omega
    · obtain rfl : j = n := by omega
      have HE : Hid (MxV w1 wr (.slice a m cp) vs (((List.range j).filter fun j' => decide (piv.getD j' (-1) < 0)).map fun j' => Q.trim (Q.column p j j' rows piv))) := by have := HV.out; rw [HBs.out] at this; exact this
      go_wp2_with (fail)
      go_ret
      exact ⟨_, vs, rfl, HE.out.from HWB.out⟩

end Go.Proofs.YtbehihanhfmmhaaGreat

namespace Go.Proofs.YtbehihanhfmmhaaGreat
open Go.RowKit

/-- The matrix under way: j columns are in, and k numbers of the next. -/
def Q.fixM (p n : Nat) (f step pw : List Nat) (j k : Nat) : List (List Nat) :=
  (List.range n).map fun i => (List.range n).map fun c => if c < j then Q.fixedCell p f step i c else if c = j ∧ i < k then pw.getD i 0 else 0

theorem Q.fixM_length (p n : Nat) (f step pw : List Nat) (j k : Nat) : (Q.fixM p n f step pw j k).length = n := by simp [Q.fixM]
theorem Q.fixM_row (p n : Nat) (f step pw : List Nat) (j k i : Nat) (h : i < n) : (Q.fixM p n f step pw j k).getD i [] = (List.range n).map fun c => if c < j then Q.fixedCell p f step i c else if c = j ∧ i < k then pw.getD i 0 else 0 := by
  simp [Q.fixM, List.getD, h]
theorem Q.fixM_cell (p n : Nat) (f step pw : List Nat) (j k i c : Nat) (h : i < n) (hc : c < n) : ((Q.fixM p n f step pw j k).getD i []).getD c 0 = if c < j then Q.fixedCell p f step i c else if c = j ∧ i < k then pw.getD i 0 else 0 := by
  rw [Q.fixM_row _ _ _ _ _ _ _ _ h]
  simp [List.getD, hc]
theorem Q.fixM_rowlen (p n : Nat) (f step pw : List Nat) (j k i : Nat) (h : i < n) : ((Q.fixM p n f step pw j k).getD i []).length = n := by rw [Q.fixM_row _ _ _ _ _ _ _ _ h]; simp

theorem Q.ext_mat {A B : List (List Nat)} {n : Nat} (hA : A.length = n) (hB : B.length = n) (hAr : ∀ i, i < n → (A.getD i []).length = n) (hBr : ∀ i, i < n → (B.getD i []).length = n)
    (h : ∀ i c, i < n → c < n → (A.getD i []).getD c 0 = (B.getD i []).getD c 0) : A = B := by
  refine Q.ext_rows (by omega) fun i hi => Q.ext_getD (by rw [hAr i (by omega), hBr i (by omega)]) fun c hc => h i c (by omega) (by rw [hAr i (by omega)] at hc; exact hc)

theorem Q.set_row_len {A : List (List Nat)} {n i c x : Nat} (hA : A.length = n) (hAr : ∀ i, i < n → (A.getD i []).length = n) (hi : i < n) : ∀ k, k < n → ((A.set i ((A.getD i []).set c x)).getD k []).length = n := fun k hk => by
  rw [Q.getD_set _ _ _ _ (by omega)]
  split
  · rw [List.length_set]; exact hAr i hi
  · exact hAr k hk
theorem Q.set_row_cell {A : List (List Nat)} {n i c x : Nat} (hA : A.length = n) (hAr : ∀ i, i < n → (A.getD i []).length = n) (hi : i < n) (hc : c < n) (k d : Nat) : ((A.set i ((A.getD i []).set c x)).getD k []).getD d 0 = if k = i ∧ d = c then x else (A.getD k []).getD d 0 := by
  rw [Q.getD_set _ _ _ _ (by omega)]
  by_cases hk : k = i
  · subst hk
    rw [if_pos rfl, List.getD_eq_getElem?_getD, List.getElem?_set]
    by_cases hd : c = d
    · subst hd; rw [if_pos rfl, if_pos (by rw [hAr k hi]; exact hc), if_pos ⟨rfl, rfl⟩]; rfl
    · rw [if_neg hd, if_neg (fun h => hd h.2.symm), List.getD_eq_getElem?_getD (l := A.getD k [])]
  · rw [if_neg hk, if_neg (fun h => hk h.1)]

theorem Q.fixM_step (p n : Nat) (f step pw : List Nat) (j k : Nat) (hj : j < n) (hk : k < n) :
    (Q.fixM p n f step pw j k).set k (((Q.fixM p n f step pw j k).getD k []).set j (pw.getD k 0)) = Q.fixM p n f step pw j (k + 1) := by
  have hl := Q.fixM_length p n f step pw j k
  have hr := fun i => Q.fixM_rowlen p n f step pw j k i
  refine Q.ext_mat (by rw [List.length_set]; exact hl) (Q.fixM_length ..) (Q.set_row_len hl hr hk) (fun i => Q.fixM_rowlen p n f step pw j (k + 1) i) fun i c hi hc => ?_
  rw [Q.set_row_cell hl hr hk hj, Q.fixM_cell _ _ _ _ _ _ _ _ _ hi hc, Q.fixM_cell _ _ _ _ _ _ _ _ _ hi hc]
  by_cases h : i = k ∧ c = j
  · rw [if_pos h, if_neg (by omega), if_pos ⟨h.2, by omega⟩, h.1]
  · rw [if_neg h]
    by_cases h1 : c < j
    · rw [if_pos h1, if_pos h1]
    · rw [if_neg h1, if_neg h1]
      by_cases h2 : c = j ∧ i < k
      · rw [if_pos h2, if_pos ⟨h2.1, by omega⟩]
      · have h3 : ¬ (c = j ∧ i < k + 1) := by omega
        rw [if_neg h2, if_neg h3]

theorem Q.fixM_full (p n : Nat) (f step pw : List Nat) (j k : Nat) (hk : pw.length ≤ k) : Q.fixM p n f step pw j k = Q.fixM p n f step pw j n := by
  refine Q.ext_mat (Q.fixM_length ..) (Q.fixM_length ..) (fun i => Q.fixM_rowlen p n f step pw j k i) (fun i => Q.fixM_rowlen p n f step pw j n i) fun i c hi hc => ?_
  rw [Q.fixM_cell _ _ _ _ _ _ _ _ _ hi hc, Q.fixM_cell _ _ _ _ _ _ _ _ _ hi hc]
  by_cases h1 : c < j
  · rw [if_pos h1, if_pos h1]
  · rw [if_neg h1, if_neg h1]
    by_cases h2 : c = j ∧ i < k
    · rw [if_pos h2, if_pos ⟨h2.1, hi⟩]
    · by_cases h3 : c = j ∧ i < n
      · rw [if_neg h2, if_pos h3, Q.getD_out (by omega)]
      · rw [if_neg h2, if_neg h3]

theorem Q.fixM_diag (p n : Nat) (f step : List Nat) (pw' : List Nat) (j : Nat) (hj : j < n) :
    (Q.fixM p n f step (Q.powSeq p f step j) j n).set j (((Q.fixM p n f step (Q.powSeq p f step j) j n).getD j []).set j (((Q.powSeq p f step j).getD j 0 + p - 1) % p)) = Q.fixM p n f step pw' (j + 1) 0 := by
  have hl := Q.fixM_length p n f step (Q.powSeq p f step j) j n
  have hr := fun i => Q.fixM_rowlen p n f step (Q.powSeq p f step j) j n i
  refine Q.ext_mat (by rw [List.length_set]; exact hl) (Q.fixM_length ..) (Q.set_row_len hl hr hj) (fun i => Q.fixM_rowlen p n f step pw' (j + 1) 0 i) fun i c hi hc => ?_
  rw [Q.set_row_cell hl hr hj hj, Q.fixM_cell _ _ _ _ _ _ _ _ _ hi hc, Q.fixM_cell _ _ _ _ _ _ _ _ _ hi hc]
  by_cases h : i = j ∧ c = j
  · rw [if_pos h, if_pos (by omega), h.1, h.2, Q.fixedCell, if_pos rfl]
  · rw [if_neg h]
    by_cases h1 : c < j
    · rw [if_pos h1, if_pos (by omega)]
    · rw [if_neg h1]
      by_cases h2 : c = j ∧ i < n
      · rw [if_pos h2, if_pos (by omega), h2.1, Q.fixedCell, if_neg (by omega)]
      · have h3 : ¬ c < j + 1 := by omega
        have h4 : ¬ (c = j + 1 ∧ i < 0) := by omega
        rw [if_neg h2, if_neg h3, if_neg h4]

theorem Q.fixM_zero (p n : Nat) (f step pw : List Nat) : List.replicate n (List.replicate n 0) = Q.fixM p n f step pw 0 0 := by
  refine Q.ext_mat (by simp) (Q.fixM_length ..) (fun i hi => by simp [List.getD, hi]) (fun i => Q.fixM_rowlen p n f step pw 0 0 i) fun i c hi hc => ?_
  rw [Q.fixM_cell _ _ _ _ _ _ _ _ _ hi hc, if_neg (by omega), if_neg (by omega)]
  simp [List.getD, hi, hc]

theorem Q.fixM_done (p n : Nat) (f step pw : List Nat) (h : n = f.length - 1) (hs : step = Q.raiseP p [0, 1] p f) : Q.fixM p n f step pw n 0 = Q.fixedMat p f := by
  subst h hs
  unfold Q.fixM Q.fixedMat
  refine List.map_congr_left fun i _ => List.map_congr_left fun c hc => ?_
  rw [if_pos (List.mem_range.1 hc)]

/-- No two rows lie in one block. -/
def Dist (vs : List Value) : Prop := ∀ (i j : Nat) (u v : Value) (g : Nat), i ≠ j → vs[i]? = some u → vs[j]? = some v → u.ownBlock = some g → v.ownBlock ≠ some g

theorem Dist.nils (n : Nat) : Dist (List.replicate n (.slice none 0 0)) := fun i j u v g _ hu _ hg => by
  rw [List.getElem?_replicate] at hu
  split at hu
  · injection hu with hu; subst hu; simp [Value.ownBlock] at hg
  · cases hu
theorem Dist.set {vs : List Value} (h : Dist vs) {k : Nat} {x : Value} (hx : ∀ u ∈ vs, ∀ g, u.ownBlock = some g → x.ownBlock ≠ some g) : Dist (vs.set k x) := fun i j u v g hij hu hv hg => by
  rw [List.getElem?_set] at hu hv
  by_cases h1 : k = i
  · rw [if_pos h1] at hu
    split at hu
    · injection hu with hu; subst hu
      rw [if_neg (by omega)] at hv
      intro e
      exact hx v (List.mem_of_getElem? hv) g e hg
    · cases hu
  · rw [if_neg h1] at hu
    by_cases h2 : k = j
    · rw [if_pos h2] at hv
      split at hv
      · injection hv with hv; subst hv
        exact hx u (List.mem_of_getElem? hu) g hg
      · cases hv
    · rw [if_neg h2] at hv
      exact h i j u v g hij hu hv hg

/-- A number is put into a row. -/
theorem Mx.putAt {w wr : World} {b n cap i g cp j x : Nat} {vs : List Value} {Ms : List (List Nat)} (h : Mx w wr b n cap vs Ms) (hd : Dist vs) (hi : vs[i]? = some (.slice (some ⟨g, 0, none⟩) (Ms.getD i []).length cp))
    (ho : wr.ownsRow w.heap.size 3 1 (.slice (some ⟨g, 0, none⟩) (Ms.getD i []).length cp) (Ms.getD i []).length (nats (Ms.getD i []))) :
    Mx w (wr.setCell ⟨g, j, none⟩ (.int .i64 (x : Int))) b n cap vs (Ms.set i ((Ms.getD i []).set j x)) := by
  have hs := ho.stored j (.int .i64 (x : Int))
  rw [← nats_set] at hs
  refine h.row hi (by simpa [Value.ownBlock] using hs.2) (by rw [List.length_set]; exact hs.1) (fun k u q hk hu hq => ?_) (by rw [List.length_set]; exact ho)
  exact hd k i u _ q hk hu hi hq

theorem lit2_own (w : World) (c d : Nat) : (w.alloc (.cells #[.int .i64 (c : Int), .int .i64 (d : Int)] 3)).ownsRow w.heap.size 3 1 (.slice (some ⟨w.heap.size, 0, none⟩) 2 2) 2 (nats [c, d]) := by
  have := World.ownsRow_lit (base := w.heap.size) (e := 3) (size := 1) w #[Value.int .i64 (c : Int), Value.int .i64 (d : Int)] 2 (Nat.le_refl _) (by unfold maxLen; omega) rfl
  exact this

end Go.Proofs.YtbehihanhfmmhaaGreat

namespace Go.Proofs.YtbehihanhfmmhaaGreat
open Go.RowKit

theorem Q.powSeq_ok {p : Nat} (hP : M.Pr p) {f step : List Nat} (hf : Q.Pol p f) (hs : Q.Pol p step) (h2 : 2 ≤ f.length) : ∀ j, Q.Pol p (Q.powSeq p f step j) ∧ (Q.powSeq p f step j).length ≤ f.length - 1
  | 0 => ⟨Q.pol_const hP.1 (by omega), by show 1 ≤ _; omega⟩
  | j + 1 => by
    have ih := Q.powSeq_ok hP hf hs h2 j
    have D := Q.div_is hP (Q.pol_prod hP ih.1 hs) hf (by omega)
    have hl := D.rlen
    refine ⟨D.rpol, ?_⟩
    show (Q.divP p _ f).2.length ≤ _
    omega

theorem Q.raise_ok {p : Nat} (hP : M.Pr p) {g : List Nat} (hg : Q.Pol p g) (h2 : g.length ≠ 0) : ∀ (n : Nat) (r s : List Nat) (e : Nat), Q.Pol p r → Q.Pol p s → r.length ≤ max 1 g.length → Q.Pol p (Q.raiseLoop p g n r s e) ∧ (Q.raiseLoop p g n r s e).length ≤ max 1 g.length
  | 0, r, s, e, hr, hs, hl => ⟨hr, hl⟩
  | n + 1, r, s, e, hr, hs, hl => by
    rw [Q.raiseLoop]
    split
    · exact ⟨hr, hl⟩
    · have D1 := Q.div_is hP (Q.pol_prod hP hr hs) hg h2
      have D2 := Q.div_is hP (Q.pol_prod hP hs hs) hg h2
      refine Q.raise_ok hP hg h2 n _ _ _ ?_ D2.rpol ?_
      · split
        · exact D1.rpol
        · exact hr
      · split
        · have := D1.rlen; show (Q.divP p _ g).2.length ≤ _; omega
        · exact hl

theorem own_cells {w : World} {base n cp : Nat} {a : Option Addr} {L : List Nat} (h : w.ownsRow base 3 1 (.slice a n cp) n (nats L)) (h0 : 0 < n) :
    ∃ g, a = some ⟨g, 0, none⟩ ∧ base ≤ g ∧ g < w.heap.size ∧ (∀ i, i < n → w.cell? ⟨g, i, none⟩ = some (.int .i64 (L.getD i 0 : Nat))) ∧ ∀ i, w.frozen? ⟨g, i, none⟩ = false := by
  have hl : L.length = n := by have := h.1; simpa [nats] using this
  obtain ⟨_, a', cp', hv, _, hc⟩ := Rd.of_own h
  rcases hc with h1 | ⟨g, hg, _, hcell⟩
  · omega
  have ha : a = some ⟨g, 0, none⟩ := by rw [← hg]; injection hv
  subst ha
  refine ⟨g, rfl, (h.lt g rfl).1, (h.lt g rfl).2, fun i hi => ?_, fun i => h.frozenAt i⟩
  rw [hcell _ _ (nats_get L i (by omega)), Q.getD_get (by omega)]

theorem Q.fixedCell_lt {p : Nat} (hp : 2 ≤ p) {f step : List Nat} (h : ∀ j, Q.Pol p (Q.powSeq p f step j)) (i j : Nat) : Q.fixedCell p f step i j < p := by
  unfold Q.fixedCell
  split
  · exact Nat.mod_lt _ (by omega)
  · exact (h j).1.getD (by omega) _

theorem Q.fixedMat_ok {p : Nat} (hp : 2 ≤ p) {f : List Nat} (h : ∀ j, Q.Pol p (Q.powSeq p f (Q.raiseP p [0, 1] p f) j)) : Q.RowsOk p (f.length - 1) (Q.fixedMat p f) := by
  refine ⟨by simp [Q.fixedMat], fun X hX => ?_⟩
  simp only [Q.fixedMat, List.mem_map, List.mem_range] at hX
  obtain ⟨i, _, rfl⟩ := hX
  refine ⟨fun x hx => ?_, by simp⟩
  simp only [List.mem_map, List.mem_range] at hx
  obtain ⟨j, _, rfl⟩ := hx
  exact Q.fixedCell_lt hp h i j

set_option maxRecDepth 100000 in
set_option maxHeartbeats 4000000 in
theorem fixed_is (p : Nat) (F : List Nat) (v : Value) (w : World) (hP : Hid (M.Pr p)) (hp2 : p ≤ 1021) (hr : Hid (Rd w v 1 F.length (nats F))) (hF : Hid (Q.Pol p F)) (hl : F.length ≤ 10000) (h2 : 2 ≤ F.length) :
    Calls Tryz.prog 45 #[.int .i64 p, v] w (RetV w (Q.fixedP p F)) := by
  have hp : 2 ≤ p := hP.out.1
  obtain ⟨a, cv, rfl⟩ := hr.out.shape
  obtain ⟨n, hn⟩ : ∃ n, F.length = n + 1 := ⟨F.length - 1, by omega⟩
  have HN := Lib.hid hn
  have HR : Hid (Rd w (.slice a (n + 1) cv) 1 F.length (nats F)) := by show Rd _ _ _ _ _; rw [← hn]; exact hr.out
  have hn1 : ((n + 1 : Nat) : Int) - 1 = (n : Int) := by omega
  rw [hn] at hl h2 ⊢
  clear hn hr
  obtain ⟨step, hstep⟩ : ∃ step, step = Q.raiseP p [0, 1] p F := ⟨_, rfl⟩
  have hp01 : Q.Pol p [0, 1] := Q.pol_of (by intro x hx; simp at hx; omega) (by simp)
  have hso := Q.raise_ok hP.out hF.out (by have := HN.out; omega) p [1] [0, 1] p (Q.pol_const hP.out.1 (by omega)) hp01 (by simp; omega)
  have HSP : Hid (Q.Pol p step) := by show Q.Pol _ _; rw [hstep]; exact hso.1
  have HSL : Hid (step.length ≤ 10000) := by
    show _ ≤ _
    have h1 := hso.2
    have h3 := HN.out
    rw [hstep]
    have : (Q.raiseP p [0, 1] p F).length ≤ max 1 F.length := h1
    omega
  have HPW : Hid (∀ j, Q.Pol p (Q.powSeq p F step j) ∧ (Q.powSeq p F step j).length ≤ n) := fun j => by
    have := Q.powSeq_ok hP.out hF.out HSP.out (by have := HN.out; omega) j
    exact ⟨this.1, by have := HN.out; omega⟩
  have HST := Lib.hid hstep
  have HP01 := Lib.hid hp01
  have HFM : Hid (Q.fixM p n F step (Q.powSeq p F step n) n 0 = Q.fixedMat p F) := Q.fixM_done p n F step _ (by have := HN.out; omega) hstep
  clear hstep hso hp01
  obtain ⟨i0, hi, hz0, hz1, hz2⟩ := info_parts Tryz.infoZ
  obtain ⟨i1, hi1, hy0, hy1, hy2⟩ := info_parts Tryz.infoS
  have hzp : ((p : Int) == 0) = false := by simp; omega
  go_enter Tryz.func45, Tryz.ntmps45
  go_wp2_with (at_make; refine wpList_make_full _ rfl _ _ 53 rfl w.heap.size 22 i1 (.slice none 0 0) 1 Tryz.underlying53 hi1 hy0 hy1 .i64 .i64 _ _ n rfl rfl rfl rfl (by rw [hy2]; omega) (by unfold maxLen; omega) (Nat.le_refl _) ?_)
  intro w0 hown0 hgrow0
  have HM0 : Hid (Mx w w0 w.heap.size n n (List.replicate n (.slice none 0 0)) (List.replicate 0 (List.replicate n 0) ++ List.replicate (n - 0) [])) := by
    have := Mx.start hown0 hgrow0
    rw [Nat.sub_zero, List.replicate_zero, List.nil_append]; exact this
  clear hown0 hgrow0
  go_wp2_with (fail)
  go_loopw [19] (fun iv wr => ∃ (k : Nat) (vs : List Value), iv = .int .i64 k ∧ k ≤ n ∧ Hid (Mx w wr w.heap.size n n vs (List.replicate k (List.replicate n 0) ++ List.replicate (n - k) [])) ∧ Hid (Dist vs)) (fun iv _ => n - (intOf iv).toNat)
  case atStart => exact ⟨0, _, rfl, by omega, HM0, Dist.nils n⟩
  case round =>
    obtain ⟨k, vs, rfl, hk, HM, HD⟩ := hrel
    by_cases hlt : k < n
    · obtain ⟨a', cp', c2, _, _⟩ := HM.out.cell hlt
      have f2 := HM.out.free k
      go_wp2_with (at_make; refine wpList_make_full _ rfl _ _ 22 rfl w.heap.size 3 i0 (.int .i64 0) 1 Tryz.underlying22 hi hz0 hz1 .i64 .i64 _ _ n rfl rfl rfl rfl (by rw [hz2]; omega) (by unfold maxLen; omega) HM.out.below.size ?_)
      intro w1 hown1 hgrow1
      have hB1 := below_of_grown hgrow1
      have d1 := (hB1.cell (p := ⟨w.heap.size, k, none⟩) (HM.out.own.lt _ rfl).2).trans c2
      have d2 := (hB1.frozen (p := ⟨w.heap.size, k, none⟩) (HM.out.own.lt _ rfl).2).trans f2
      have HM1 : Hid (Mx w (w1.setCell ⟨w.heap.size, k, none⟩ (.slice (some ⟨wr.heap.size, 0, none⟩) n n)) w.heap.size n n (vs.set k (.slice (some ⟨wr.heap.size, 0, none⟩) n n)) (List.replicate (k + 1) (List.replicate n 0) ++ List.replicate (n - (k + 1)) [])) := by
        have h1 := (HM.out.low hB1).set (i := k) (v := .slice (some ⟨wr.heap.size, 0, none⟩) n n) (M := List.replicate n 0) (by rw [← nats_zeros, List.length_replicate]; exact hown1)
        have e : (List.replicate k (List.replicate n 0) ++ List.replicate (n - k) []).set k (List.replicate n 0) = List.replicate (k + 1) (List.replicate n 0) ++ List.replicate (n - (k + 1)) ([] : List Nat) := by
          rw [List.set_append, if_neg (by simp), List.length_replicate, Nat.sub_self, show n - k = (n - (k + 1)) + 1 by omega, List.replicate_succ, List.set_cons_zero, List.replicate_succ' (n := k), List.append_assoc]
          rfl
        rw [e] at h1
        exact h1
      have HD1 : Hid (Dist (vs.set k (.slice (some ⟨wr.heap.size, 0, none⟩) n n))) := HD.out.set fun u hu g hg e => by
        obtain ⟨i, hi', rfl⟩ := List.getElem_of_mem hu
        have h1 := HM.out.vlen
        have h2 := HM.out.len
        have h3 := (HM.out.rows i _ ((List.replicate k (List.replicate n 0) ++ List.replicate (n - k) [])[i]'(by omega)) (List.getElem?_eq_getElem hi') (List.getElem?_eq_getElem (by omega))).lt g hg
        simp [Value.ownBlock] at e
        omega
      clear hown1 hgrow1 hB1 c2 f2
      go_wp2_with (fail)
      go_roundw
      case rel => exact ⟨k + 1, _, by go_num, by omega, HM1, HD1⟩
      case measure => simp [intOf]; omega
    · obtain rfl : k = n := by omega
      have HMz : Hid (Mx w wr w.heap.size k k vs (Q.fixM p k F step (Q.powSeq p F step 0) 0 0)) := by
        have := HM.out
        rw [Nat.sub_self, List.replicate_zero, List.append_nil, Q.fixM_zero p k F step (Q.powSeq p F step 0)] at this
        exact this
      have hA : Below wr.heap.size wr (wr.alloc (.cells #[.int .i64 0, .int .i64 1] 3)) := (Below.refl _ _).alloc (Nat.le_refl _) _
      have hr01 : Hid (Rd (wr.alloc (.cells #[.int .i64 0, .int .i64 1] 3)) (.slice (some ⟨wr.heap.size, 0, none⟩) 2 2) 1 [0, 1].length (nats [0, 1])) := Rd.of_own (lit2_own wr 0 1)
      have hrF : Hid (Rd (wr.alloc (.cells #[.int .i64 0, .int .i64 1] 3)) (.slice a (k + 1) cv) 1 F.length (nats F)) := HR.out.below (HM.out.below.trans (hA.mono HM.out.below.size)) (Nat.le_refl _)
      have HA := Lib.hid hA
      clear hA
      go_wp2_with (fail)
      refine (raise_is p p [0, 1] F _ _ _ hP hp2 hr01 hrF HP01 hF (by simp) (by have := HN.out; omega) (by have := HN.out; omega) (by omega)).mono ?_
      rintro e w2 ⟨⟨v2, rfl, hN2⟩, hB2⟩
      rw [← HST.out] at hN2
      have HM2 : Hid (Mx w w2 w.heap.size k k vs (Q.fixM p k F step (Q.powSeq p F step 0) 0 0)) := (HMz.out.low HA.out).low hB2
      have HS2 : Hid (Rd w2 v2 1 step.length (nats step)) := hN2.rd
      obtain ⟨aS, cS, hvs⟩ := HS2.out.shape
      subst hvs
      have hone := lit1_own w2 1
      have hA3 : Below w2.heap.size w2 (w2.alloc (.cells #[.int .i64 ((1 : Nat) : Int)] 3)) := (Below.refl _ _).alloc (Nat.le_refl _) _
      have HM3 : Hid (Mx w (w2.alloc (.cells #[.int .i64 1] 3)) w.heap.size k k vs (Q.fixM p k F step (Q.powSeq p F step 0) 0 0)) := HM2.out.low hA3
      have HS3 : Hid (Rd (w2.alloc (.cells #[.int .i64 1] 3)) (.slice aS step.length cS) 1 step.length (nats step)) := HS2.out.below hA3 (Nat.le_refl _)
      have HP3 : Hid (Rd (w2.alloc (.cells #[.int .i64 1] 3)) (.slice (some ⟨w2.heap.size, 0, none⟩) 1 1) 1 (Q.powSeq p F step 0).length (nats (Q.powSeq p F step 0))) := Rd.of_own hone
      have HK3 : Hid (∀ g cp, Value.slice (some ⟨g, 0, none⟩) k cp ∈ vs → g ≠ w2.heap.size) := fun g cp hm e => by
        obtain ⟨i, hi', he⟩ := List.getElem_of_mem hm
        have h1 := HM2.out.vlen
        have h2 := HM2.out.len
        have h3 := (HM2.out.rows i _ ((Q.fixM p k F step (Q.powSeq p F step 0) 0 0)[i]'(by omega)) (List.getElem?_eq_getElem hi') (List.getElem?_eq_getElem (by omega))).lt g (by rw [he]; rfl)
        omega
      obtain ⟨B, hBe⟩ : ∃ B, B = wr.heap.size := ⟨_, rfl⟩
      have hsz : wr.heap.size ≤ w2.heap.size := Nat.le_trans (by simp) hB2.size
      have HG : Hid (∀ u ∈ vs, ∀ g, u.ownBlock = some g → g < B) := fun u hu g hg => by
        obtain ⟨i, hi', rfl⟩ := List.getElem_of_mem hu
        have h1 := HM.out.vlen
        have h2 := HM.out.len
        have h3 := (HM.out.rows i _ _ (List.getElem?_eq_getElem hi') (List.getElem?_eq_getElem (by omega))).lt g hg
        rw [hBe]; exact h3.2
      have HOS : Hid ((w2.alloc (.cells #[.int .i64 1] 3)).ownsRow B 3 1 (.slice aS step.length cS) step.length (nats step)) :=
        own_base (own_kept (show w2.ownsRow _ _ _ _ _ _ from hN2) hA3) (by rw [hBe]; simp)
      have HOP : Hid ((w2.alloc (.cells #[.int .i64 1] 3)).ownsRow B 3 1 (.slice (some ⟨w2.heap.size, 0, none⟩) 1 1) 1 (nats (Q.powSeq p F step 0))) :=
        own_base hone (by rw [hBe]; exact hsz)
      obtain ⟨ls, hls⟩ : ∃ ls, ls = step.length := ⟨_, rfl⟩
      rw [← hls] at HOS ⊢
      have HLS := Lib.hid hls
      have HBE := Lib.hid hBe
      have HL0 : Hid ((Q.powSeq p F step 0).length = 1) := rfl
      clear hN2 hB2 hone hA3 hls hBe HS3 HP3 HK3 HS2 HM2 HMz HA hrF hr01 HM
      go_wp2_with (fail)
      go_loopw [9, 35] (fun pv jv wr => ∃ (j m cp : Nat) (ap : Option Addr), pv = .slice ap m cp ∧ jv = .int .i64 j ∧ j ≤ k ∧ Hid ((Q.powSeq p F step j).length = m) ∧ Hid (Mx w wr w.heap.size k k vs (Q.fixM p k F step (Q.powSeq p F step j) j 0)) ∧ Hid (wr.ownsRow B 3 1 (.slice ap m cp) m (nats (Q.powSeq p F step j))) ∧ Hid (wr.ownsRow B 3 1 (.slice aS ls cS) ls (nats step)) ∧ B ≤ wr.heap.size) (fun _ jv _ => k - (intOf jv).toNat)
      case atStart => exact ⟨0, 1, 1, _, rfl, rfl, by omega, HL0, HM3, HOP, HOS, by rw [HBE.out]; simp; omega⟩
      case round =>
        obtain ⟨j, m, cp, ap, rfl, rfl, hj, HL, HM, HOP, HOS, hBw⟩ := hrel
        by_cases hjk : j < k
        · have hPj := HPW.out j
          have hmk : m ≤ k := by rw [← HL.out]; exact hPj.2
          have hjn : (j : Int) < (k : Int) := by omega
          clear hPj
          go_wp2_with (fail)
          go_loopw [40] (fun iv wr => ∃ (i : Nat), iv = .int .i64 i ∧ i ≤ m ∧ Hid (Mx w wr w.heap.size k k vs (Q.fixM p k F step (Q.powSeq p F step j) j i)) ∧ Hid (wr.ownsRow B 3 1 (.slice ap m cp) m (nats (Q.powSeq p F step j))) ∧ Hid (wr.ownsRow B 3 1 (.slice aS ls cS) ls (nats step)) ∧ B ≤ wr.heap.size) (fun iv _ => m - (intOf iv).toNat)
          case atStart => exact ⟨0, rfl, by omega, HM, HOP, HOS, hBw⟩
          case round =>
            obtain ⟨i, rfl, hi', HM, HOP, HOS, hBw⟩ := hrel
            by_cases him : i < m
            · obtain ⟨gp, rfl, hgB, hgl, hcell, hfro⟩ := own_cells HOP.out (by omega : 0 < m)
              have e1 := hcell i him
              obtain ⟨x, hx⟩ : ∃ x, x = (Q.powSeq p F step j).getD i 0 := ⟨_, rfl⟩
              rw [← hx] at e1
              have hik : i < k := by omega
              obtain ⟨aR, cR, c1, c2, c3⟩ := HM.out.cell hik
              have hrl : ((Q.fixM p k F step (Q.powSeq p F step j) j i).getD i []).length = k := Q.fixM_rowlen _ _ _ _ _ _ _ _ hik
              obtain ⟨g, rfl, hg1, hg2, hgc, hgf⟩ := own_cells c2 (by omega)
              have hgB2 : g < B := HG.out _ (List.mem_of_getElem? c3) g rfl
              have HMN : Hid (Mx w (wr.setCell ⟨g, j, none⟩ (.int .i64 (x : Int))) w.heap.size k k vs (Q.fixM p k F step (Q.powSeq p F step j) j (i + 1))) := by
                have h1 := HM.out.putAt (j := j) (x := x) HD.out c3 c2
                rw [hx, Q.fixM_step p k F step (Q.powSeq p F step j) j i hjk hik, ← hx] at h1
                exact h1
              have HOPN : Hid ((wr.setCell ⟨g, j, none⟩ (.int .i64 (x : Int))).ownsRow B 3 1 (.slice (some ⟨gp, 0, none⟩) m cp) m (nats (Q.powSeq p F step j))) :=
                own_set_other HOP.out (by intro e; simp [Value.ownBlock] at e; omega) _
              have HOSN : Hid ((wr.setCell ⟨g, j, none⟩ (.int .i64 (x : Int))).ownsRow B 3 1 (.slice aS ls cS) ls (nats step)) :=
                own_set_other HOS.out (by intro e; have := (HOS.out.lt g e).1; omega) _
              have f1 := hgf j
              rw [hrl] at c1
              have hgcj : ∃ y : Nat, wr.cell? ⟨g, j, none⟩ = some (.int .i64 (y : Int)) := ⟨_, hgc j (by rw [hrl]; exact hjk)⟩
              obtain ⟨y, hy⟩ := hgcj
              have hin : (i : Int) < (k : Int) := by omega
              have him' : (i : Int) < (m : Int) := by omega
              clear hcell hfro hx c2 c3 hgc hgf hrl HM HOP HOS
              go_wp2_with (fail)
              go_roundw
              case rel => exact ⟨i + 1, by go_num, by omega, HMN, HOPN, HOSN, by simpa [World.setCell] using hBw⟩
              case measure => simp [intOf]; omega
            · have HME : Hid (Mx w wr w.heap.size k k vs (Q.fixM p k F step (Q.powSeq p F step j) j k)) := by
                have h1 := HM.out
                rw [Q.fixM_full p k F step _ j i (by rw [HL.out]; omega)] at h1
                exact h1
              have him2 : ¬ (i : Int) < (m : Int) := by omega
              obtain ⟨x, hx⟩ : ∃ x, x = (Q.powSeq p F step j).getD j 0 := ⟨_, rfl⟩
              have hxp : x < p := by rw [hx]; exact (HPW.out j).1.1.getD (by omega) _
              obtain ⟨aR, cR, c1, c2, c3⟩ := HME.out.cell hjk
              have hrl : ((Q.fixM p k F step (Q.powSeq p F step j) j k).getD j []).length = k := Q.fixM_rowlen _ _ _ _ _ _ _ _ hjk
              obtain ⟨g, rfl, hg1, hg2, hgc, hgf⟩ := own_cells c2 (by omega)
              have hgB2 : g < B := HG.out _ (List.mem_of_getElem? c3) g rfl
              have e1 : wr.cell? ⟨g, j, none⟩ = some (.int .i64 (x : Int)) := by
                rw [hgc j (by rw [hrl]; exact hjk), Q.fixM_cell _ _ _ _ _ _ _ _ _ hjk hjk, if_neg (by omega), if_pos ⟨rfl, hjk⟩, hx]
              obtain ⟨X, hX⟩ : ∃ X, X = (x + p - 1) % p := ⟨_, rfl⟩
              have hXp : X < p := by rw [hX]; exact Nat.mod_lt _ (by omega)
              have hgne : ¬ g = w.heap.size := by
                intro e
                apply own_ty_ne c2 HME.out.own (by decide)
                simp [Value.ownBlock, e]
              have hgne' : ¬ w.heap.size = g := fun e => hgne e.symm
              have hXi : ((x : Int) + (p : Int) - 1).tmod (p : Int) = (X : Int) := by
                rw [hX, show (x : Int) + (p : Int) - 1 = ((x + p - 1 : Nat) : Int) by omega]; rfl
              have hMW : ∀ W : World, Below wr.heap.size wr W → Hid (Mx w (W.setCell ⟨g, j, none⟩ (.int .i64 (X : Int))) w.heap.size k k vs (Q.fixM p k F step (Q.powSeq p F step (j + 1)) (j + 1) 0) ∧ (W.setCell ⟨g, j, none⟩ (.int .i64 (X : Int))).ownsRow B 3 1 (.slice ap m cp) m (nats (Q.powSeq p F step j)) ∧ (W.setCell ⟨g, j, none⟩ (.int .i64 (X : Int))).ownsRow B 3 1 (.slice aS ls cS) ls (nats step)) := fun W hW => by
                have h1 := (HME.out.low hW).putAt (j := j) (x := X) HD.out c3 (own_kept c2 hW)
                rw [hX, hx, Q.fixM_diag p k F step (Q.powSeq p F step (j + 1)) j hjk, ← hx, ← hX] at h1
                refine ⟨h1, own_set_other (own_kept HOP.out hW) (fun e => ?_) _, own_set_other (own_kept HOS.out hW) (fun e => ?_) _⟩
                · have := (HOP.out.lt g e).1; omega
                · have := (HOS.out.lt g e).1; omega
              have HMW := Lib.hid hMW
              have f1 : ∀ W : World, Below wr.heap.size wr W → W.frozen? ⟨g, j, none⟩ = false := fun W hW => (own_kept c2 hW).frozenAt j
              have HF1 := Lib.hid f1
              have fw := f1 wr (Below.refl _ _)
              rw [hrl] at c1
              clear hX hx c2 c3 hgc hgf hrl HM HOP HOS hMW f1 HME
              have hw1 : IntKind.i64.wrap ((x : Int) + (p : Int)) = (x : Int) + (p : Int) := IntWalk.i64_in _ (by omega)
              have hw2 : IntKind.i64.wrap ((x : Int) + (p : Int) - 1) = (x : Int) + (p : Int) - 1 := IntWalk.i64_in _ (by omega)
              have hw3 : IntKind.i64.wrap (X : Int) = (X : Int) := IntWalk.i64_in _ (by omega)
              go_wp2_with (fail)
              go_region
              obtain ⟨HM6, HOP6, HOS6⟩ := (HMW.out wr (Below.refl _ _)).out
              have hdr : Below (wr.setCell ⟨g, j, none⟩ (.int .i64 (X : Int))).heap.size (wr.setCell ⟨g, j, none⟩ (.int .i64 (X : Int))) (wr.setCell ⟨g, j, none⟩ (.int .i64 (X : Int))).drew := (Below.refl _ _).drew
              have HM7 : Hid (Mx w (wr.setCell ⟨g, j, none⟩ (.int .i64 (X : Int))).drew w.heap.size k k vs (Q.fixM p k F step (Q.powSeq p F step (j + 1)) (j + 1) 0)) := HM6.low hdr
              have HOP7 := Lib.hid (own_kept HOP6 hdr)
              have HOS7 := Lib.hid (own_kept HOS6 hdr)
              clear HM6 HOP6 HOS6 hdr HMW HF1 e1 c1 fw hw1 hw2 hw3 hXi
              have hB6 : B ≤ (wr.setCell ⟨g, j, none⟩ (.int .i64 (X : Int))).drew.heap.size := by simpa [World.setCell] using hBw
              generalize (wr.setCell ⟨g, j, none⟩ (.int .i64 (X : Int))).drew = W6 at *
              have hPp := HPW.out j
              have HPr : Hid (Q.Red p (Q.powSeq p F step j)) := hPp.1.1
              have HSr : Hid (Q.Red p step) := HSP.out.1
              have HRP : Hid (Rd W6 (.slice ap m cp) 1 (Q.powSeq p F step j).length (nats (Q.powSeq p F step j))) := by show Rd _ _ _ _ _; rw [HL.out]; exact Rd.of_own HOP7.out
              have HRS : Hid (Rd W6 (.slice aS ls cS) 1 step.length (nats step)) := by show Rd _ _ _ _ _; rw [← HLS.out]; exact Rd.of_own HOS7.out
              have hlp : (Q.powSeq p F step j).length ≤ 1000000 := by have := hPp.2; omega
              have hls : step.length ≤ 1000000 := by have := HSL.out; omega
              have HRX : Hid (Q.Red p (Q.prodP' p (Q.powSeq p F step j) step)) := Q.red_prod (by omega) _ _
              have hlx : (Q.prodP' p (Q.powSeq p F step j) step).length ≤ 1000000 := by
                have h1 := hPp.2
                have h2 := HSL.out
                by_cases h0 : (Q.powSeq p F step j).length = 0 ∨ step.length = 0
                · rw [Q.prod_nil h0]; simp
                · rw [Q.prod_length (by omega) (by omega)]; omega
              have hF0 : F.length ≠ 0 := by have := HN.out; omega
              clear hPp
              go_wp2_with (fail)
              refine (product_is p (Q.powSeq p F step j) step _ _ _ hp hp2 HRP HRS HPr HSr hlp hls).mono ?_
              rintro e w8 ⟨⟨v8, rfl, hN8⟩, hB8⟩
              have HR8 : Hid (Rd w8 v8 1 (Q.prodP' p (Q.powSeq p F step j) step).length (nats (Q.prodP' p (Q.powSeq p F step j) step))) := hN8.rd
              have HM8 := Lib.hid (HM7.out.low hB8)
              have HOS8 := Lib.hid (own_kept HOS7.out hB8)
              have HRF : Hid (Rd w8 (.slice a (k + 1) cv) 1 F.length (nats F)) := HR.out.below HM8.out.below (Nat.le_refl _)
              have hBs : B ≤ w8.heap.size := Nat.le_trans hB6 hB8.size
              obtain ⟨a8, c8, hv8⟩ := HR8.out.shape
              subst hv8
              clear hN8 hB8 HM7 HOS7 HOP7
              go_wp2_with (fail)
              refine (remainder_is p (Q.prodP' p (Q.powSeq p F step j) step) F _ _ _ hP hp2 HR8 HRF HRX hF hlx hF0).mono ?_
              rintro e w9 ⟨⟨v9, rfl, hN9⟩, hB9⟩
              have hBs9 := hB9.size
              have HM9 := Lib.hid (HM8.out.low hB9)
              have HOS9 := Lib.hid (own_kept HOS8.out hB9)
              obtain ⟨a9, c9, hv9⟩ := hN9.rd.shape
              subst hv9
              obtain ⟨m9, hm9⟩ : ∃ m9, m9 = (Q.remP p (Q.prodP' p (Q.powSeq p F step j) step) F).length := ⟨_, rfl⟩
              have HOP9 : Hid (w9.ownsRow B 3 1 (.slice a9 m9 c9) m9 (nats (Q.powSeq p F step (j + 1)))) := by
                rw [hm9]; exact own_base hN9 hBs
              have HL9 : Hid ((Q.powSeq p F step (j + 1)).length = m9) := hm9.symm
              rw [← hm9]
              clear hN9 hB9 HM8 HOS8 hm9
              go_wp2_with (fail)
              go_roundw
              case rel => exact ⟨j + 1, m9, c9, a9, rfl, by go_num, by omega, HL9, HM9, HOP9, HOS9, Nat.le_trans hBs hBs9⟩
              case measure => simp [intOf]; omega
        · obtain rfl : j = k := by omega
          have HOKM : Hid (Q.RowsOk p j (Q.fixedMat p F)) := by
            have h1 := Q.fixedMat_ok hp (f := F) (fun i => by rw [← HST.out]; exact (HPW.out i).1)
            have h2 := HN.out
            rw [show F.length - 1 = j by omega] at h1
            exact h1
          have HMM : Hid (Mx w wr w.heap.size j j vs (Q.fixedMat p F)) := by
            have h1 := HM.out
            rw [HFM.out] at h1
            exact h1
          have HRM : Hid (RdN wr (.slice (some ⟨w.heap.size, 0, none⟩) j j) (Q.fixedMat p F)) := HMM.out.rd
          have HBW := Lib.hid HMM.out.below
          clear HM HOP HOS HMM
          go_wp2_with (fail)
          refine (kernel_is p j (Q.fixedMat p F) _ _ hP hp2 HRM HOKM (by omega)).mono ?_
          rintro e w9 ⟨v9, vs9, rfl, hN9⟩
          have HN9 := Lib.hid (hN9.from HBW.out)
          obtain ⟨a9, c9, hv9⟩ := (Rd.of_own hN9.own).shape
          subst hv9
          clear hN9
          go_wp2_with (fail)
          go_ret
          exact ⟨_, vs9, rfl, HN9.out⟩

end Go.Proofs.YtbehihanhfmmhaaGreat

namespace Go.Proofs.YtbehihanhfmmhaaGreat
open Go.RowKit
namespace Q

theorem firstRow_none (rows : List (List Nat)) (j : Nat) : ∀ (m i : Nat), (∀ k, (rows.getD k []).getD j 0 = 0) → firstRow rows j i m = i + m
  | 0, i, _ => rfl
  | m + 1, i, h => by rw [firstRow, if_pos (h i), firstRow_none rows j m (i + 1) h]; omega

theorem redLoop_keep (p n : Nat) : ∀ (k d : Nat) (rows : List (List Nat)) (piv : List Int) (i : Nat), i + k < n → (redLoop p n k d rows piv).2.getD i (-1) = piv.getD i (-1)
  | 0, d, rows, piv, i, _ => rfl
  | k + 1, d, rows, piv, i, h => by
    rw [redLoop]
    split
    · exact redLoop_keep p n k _ _ _ i (by omega)
    · rw [redLoop_keep p n k _ _ _ i (by omega)]
      have : n - (k + 1) ≠ i := by omega
      simp [List.getD, this]

theorem fixed_ne {p : Nat} (hp : 2 ≤ p) {f : List Nat} (h : 2 ≤ f.length) : 1 ≤ (fixedP p f).length := by
  obtain ⟨m, hm⟩ : ∃ m, f.length - 1 = m + 1 := ⟨f.length - 2, by omega⟩
  have hl : (fixedMat p f).length = m + 1 := by simp [fixedMat, hm]
  have hz : ∀ k, ((fixedMat p f).getD k []).getD 0 0 = 0 := fun k => by
    by_cases hk : k < m + 1
    · have h1 : (fixedMat p f).getD k [] = (List.range (f.length - 1)).map fun j => fixedCell p f (raiseP p [0, 1] p f) k j := by
        simp [fixedMat, List.getD, hm, hk]
      rw [h1, hm, List.range_succ_eq_map]
      show fixedCell p f _ k 0 = 0
      unfold fixedCell
      split
      · next h2 => subst h2; show (1 + p - 1) % p = 0; rw [show 1 + p - 1 = p by omega, Nat.mod_self]
      · next h2 => obtain ⟨k', rfl⟩ : ∃ k', k = k' + 1 := ⟨k - 1, by omega⟩
                   rfl
    · have h1 : (fixedMat p f).getD k [] = [] := by rw [List.getD_eq_getElem?_getD, List.getElem?_eq_none (by rw [hl]; omega)]; rfl
      rw [h1]; rfl
  have hr : (reducedP p (fixedMat p f)).2.getD 0 (-1) = -1 := by
    unfold reducedP
    rw [hl, redLoop]
    simp only [Nat.sub_self, Nat.sub_zero]
    rw [firstRow_none _ _ _ _ hz, if_pos (by omega), redLoop_keep p (m + 1) m 0 _ _ 0 (by omega)]
    simp [List.getD]
  rw [fixedP, kernelP]
  simp only [List.length_map]
  apply List.length_pos_iff_exists_mem.2
  exact ⟨0, List.mem_filter.2 ⟨List.mem_range.2 (by rw [hl]; omega), by rw [hr]; rfl⟩⟩

theorem column_red {p : Nat} (hp : 2 ≤ p) (n j : Nat) (rows : List (List Nat)) (piv : List Int) : Red p (column p n j rows piv) := by
  intro x hx
  simp only [column, List.mem_map, List.mem_range] at hx
  obtain ⟨i, _, rfl⟩ := hx
  split
  · exact Nat.mod_lt _ (by omega)
  · split <;> omega

theorem kernel_rows {p : Nat} (hp : 2 ≤ p) (m : List (List Nat)) : ∀ X ∈ kernelP p m, Pol p X ∧ X.length ≤ m.length := by
  intro X hX
  simp only [kernelP, List.mem_map] at hX
  obtain ⟨j, _, rfl⟩ := hX
  refine ⟨Red.trim (column_red hp _ _ _ _), ?_⟩
  rw [trim_length]
  exact Nat.le_trans (trimLen_le _) (by simp [column])

theorem fixed_rows {p : Nat} (hp : 2 ≤ p) (f : List Nat) : ∀ X ∈ fixedP p f, Pol p X ∧ X.length ≤ f.length - 1 := by
  intro X hX
  have := kernel_rows hp (fixedMat p f) X hX
  simp [fixedMat] at this
  exact this

theorem fixed_len (p : Nat) (f : List Nat) : (fixedP p f).length ≤ f.length - 1 := by
  rw [fixedP, kernelP]
  simp only [List.length_map]
  refine Nat.le_trans (List.length_filter_le _ _) ?_
  simp [fixedMat]

theorem dif_le (p : Nat) (f g : List Nat) : (difP p f g).length ≤ max f.length g.length := by
  rw [difP, trim_length]
  refine Nat.le_trans (trimLen_le _) ?_
  rw [comb_length]; exact Nat.le_refl _

/-- The parts of a polynomial: the degrees add up to at most L. -/
def SumOk (p L : Nat) (Ms : List (List Nat)) : Prop := (∀ M ∈ Ms, Pol p M ∧ 2 ≤ M.length) ∧ (Ms.map fun M => M.length - 1).sum ≤ L

theorem sum_mem_le : ∀ (Ms : List (List Nat)) (M : List Nat), M ∈ Ms → M.length - 1 ≤ (Ms.map fun M => M.length - 1).sum
  | [], M, h => by simp at h
  | X :: Ms, M, h => by
    rw [List.map_cons, List.sum_cons]
    rcases List.mem_cons.1 h with rfl | h
    · omega
    · have := sum_mem_le Ms M h; omega
theorem len_le_sum : ∀ (Ms : List (List Nat)), (∀ M ∈ Ms, 2 ≤ M.length) → Ms.length ≤ (Ms.map fun M => M.length - 1).sum
  | [], _ => by simp
  | X :: Ms, h => by
    rw [List.map_cons, List.sum_cons, List.length_cons]
    have := h X (by simp)
    have := len_le_sum Ms fun M hM => h M (by simp [hM])
    omega

theorem splitOne_ok {p : Nat} (hP : M.Pr p) {v X : List Nat} (hv : Pol p v) (hX : Pol p X) (h2 : 2 ≤ X.length) : (∀ M ∈ splitOne p v X, Pol p M ∧ 2 ≤ M.length) ∧ ((splitOne p v X).map fun M => M.length - 1).sum = X.length - 1 := by
  have G := gcdP_is hP hX hv
  unfold splitOne
  simp only
  split
  · next h =>
    have D := div_is hP hX G.pol (by omega)
    have hl := D.qlen
    refine ⟨fun M hM => ?_, ?_⟩
    · simp at hM
      rcases hM with rfl | rfl
      · exact ⟨G.pol, by omega⟩
      · exact ⟨D.qpol, by omega⟩
    · simp; omega
  · refine ⟨fun M hM => ?_, by simp⟩
    simp at hM
    subst hM
    exact ⟨hX, h2⟩

theorem splitBy_ok {p : Nat} (hP : M.Pr p) {v : List Nat} (hv : Pol p v) : ∀ {Ms : List (List Nat)} {L : Nat}, SumOk p L Ms → SumOk p L (splitBy p Ms v)
  | [], L, h => h
  | X :: Ms, L, h => by
    have h1 := h.1 X (by simp)
    have h2 := splitOne_ok hP hv h1.1 h1.2
    have h3 := h.2
    rw [List.map_cons, List.sum_cons] at h3
    have ih := splitBy_ok hP hv (Ms := Ms) (L := L - (X.length - 1)) ⟨fun M hM => h.1 M (by simp [hM]), by omega⟩
    have e : splitBy p (X :: Ms) v = splitOne p v X ++ splitBy p Ms v := by simp [splitBy]
    rw [e]
    refine ⟨fun M hM => ?_, ?_⟩
    · rcases List.mem_append.1 hM with h | h
      · exact h2.1 M h
      · exact ih.1 M h
    · rw [List.map_append, List.sum_append, h2.2]
      have := ih.2
      omega

theorem SumOk.part {p L : Nat} {Ms : List (List Nat)} (h : SumOk p L Ms) : ∀ M ∈ Ms, Pol p M ∧ 2 ≤ M.length ∧ M.length ≤ L + 1 := fun M hM => by
  have h1 := h.1 M hM
  have h2 := sum_mem_le Ms M hM
  have h3 := h.2
  exact ⟨h1.1, h1.2, by omega⟩
theorem SumOk.count {p L : Nat} {Ms : List (List Nat)} (h : SumOk p L Ms) : Ms.length ≤ L := Nat.le_trans (len_le_sum Ms fun M hM => (h.1 M hM).2) h.2

end Q
end Go.Proofs.YtbehihanhfmmhaaGreat

namespace Go.Proofs.YtbehihanhfmmhaaGreat
open Go.RowKit
namespace Q

theorem splitS_keep {p : Nat} (R : List (List Nat) → Prop) (nb : Nat) (v : List Nat) (hR : ∀ Ms u, R Ms → (∃ s, u = difP p v (trim [s])) → R (splitBy p Ms u)) : ∀ (n s : Nat) (Ms : List (List Nat)), R Ms → R (splitS p nb v n s Ms).2
  | 0, s, Ms, h => h
  | n + 1, s, Ms, h => by
    rw [splitS]
    split
    · exact h
    · exact splitS_keep R nb v hR n (s + 1) _ (hR Ms _ h ⟨s, rfl⟩)

theorem splitV_keep {p : Nat} (R : List (List Nat) → Prop) (nb : Nat) : ∀ (vs : List (List Nat)) (Ms : List (List Nat)), (∀ v ∈ vs, ∀ Ms u, R Ms → (∃ s, u = difP p v (trim [s])) → R (splitBy p Ms u)) → R Ms → R (splitV p nb vs Ms)
  | [], Ms, _, h => h
  | v :: vs, Ms, hR, h => by
    rw [splitV]
    have h1 := splitS_keep R nb v (hR v (by simp)) p 0 Ms h
    split
    · exact h1
    · exact splitV_keep R nb vs _ (fun u hu => hR u (by simp [hu])) h1

theorem splitP_sum {p : Nat} (hP : M.Pr p) {f : List Nat} (hf : Pol p f) (h2 : 2 ≤ f.length) : SumOk p (f.length - 1) (splitP p f) := by
  have hp := hP.1
  unfold splitP
  refine splitV_keep (SumOk p (f.length - 1)) _ _ _ (fun v _ Ms u hM hu => ?_) ⟨fun M hM => ?_, ?_⟩
  · obtain ⟨s, rfl⟩ := hu
    exact splitBy_ok hP (pol_dif (by omega) _ _) hM
  · simp at hM; subst hM; exact ⟨hf, h2⟩
  · simp

/-- Every part divides the whole, and there is one. -/
theorem splitP_dv {p : Nat} (hP : M.Pr p) {f : List Nat} (hf : Pol p f) (h2 : 2 ≤ f.length) : (∀ M ∈ splitP p f, Dv p M f) ∧ splitP p f ≠ [] := by
  have hp := hP.1
  have H : (fun Ms => ((∀ M ∈ Ms, Pol p M ∧ 2 ≤ M.length) ∧ (∀ M ∈ Ms, Dv p M f) ∧ Ms ≠ [])) (splitP p f) := by
    unfold splitP
    refine splitV_keep (fun Ms => ((∀ M ∈ Ms, Pol p M ∧ 2 ≤ M.length) ∧ (∀ M ∈ Ms, Dv p M f) ∧ Ms ≠ [])) _ _ _ (fun v _ Ms u hM hu => ?_) ⟨fun M hM => ?_, fun M hM => ?_, by simp⟩
    · obtain ⟨s, rfl⟩ := hu
      have hu := pol_dif (p := p) (by omega) v (trim [s])
      refine ⟨fun M hM' => ?_, fun M hM' => ?_, fun h => ?_⟩
      · simp only [splitBy, List.mem_flatMap] at hM'
        obtain ⟨X, hX, hMX⟩ := hM'
        exact (splitOne_ok hP hu (hM.1 X hX).1 (hM.1 X hX).2).1 M hMX
      · simp only [splitBy, List.mem_flatMap] at hM'
        obtain ⟨X, hX, hMX⟩ := hM'
        have h1 := hM.2.1 X hX
        have hXp := hM.1 X hX
        have G := gcdP_is hP hXp.1 hu
        unfold splitOne at hMX
        simp only at hMX
        split at hMX
        · next hc =>
          simp at hMX
          rcases hMX with rfl | rfl
          · exact G.left.trans hP h1
          · have D := div_is hP hXp.1 G.pol (by omega)
            have hr := (rem_nil_iff hP hXp.1 G.pol (by omega)).2 G.left
            refine Dv.trans hP ⟨_, G.pol, ?_⟩ h1
            rw [D.val, hr, ev_nil, Px.add_zero, Px.mul_comm]
        · simp at hMX
          subst hMX
          exact h1
      · have hne := hM.2.2
        cases Ms with
        | nil => exact hne rfl
        | cons X Ms =>
          simp only [splitBy, List.flatMap_cons, List.append_eq_nil_iff] at h
          have := h.1
          unfold splitOne at this
          simp only at this
          split at this <;> simp at this
    · simp at hM; subst hM; exact ⟨hf, h2⟩
    · simp at hM; subst hM; exact Dv.refl hp _
  exact ⟨H.2.1, H.2.2⟩

end Q
end Go.Proofs.YtbehihanhfmmhaaGreat

namespace Go.Proofs.YtbehihanhfmmhaaGreat
open Go.RowKit

theorem Q.deriv_red {p : Nat} (hp : 0 < p) (f : List Nat) : Q.Red p ((List.range (f.length - 1)).map fun i => (i + 1) * f.getD (i + 1) 0 % p) := by
  intro x hx
  simp only [List.mem_map, List.mem_range] at hx
  obtain ⟨i, _, rfl⟩ := hx
  exact Nat.mod_lt _ hp
theorem Q.deriv_pol {p : Nat} (hp : 0 < p) (f : List Nat) : Q.Pol p (Q.deriv p f) := Q.Red.trim (Q.deriv_red hp f)
theorem Q.deriv_le (p : Nat) (f : List Nat) : (Q.deriv p f).length ≤ f.length - 1 := by
  rw [Q.deriv, Q.trim_length]
  refine Nat.le_trans (Q.trimLen_le _) ?_
  simp

set_option maxRecDepth 100000 in
set_option maxHeartbeats 4000000 in
theorem isIrreducible_is (p : Nat) (F : List Nat) (v : Value) (w : World) (hP : Hid (M.Pr p)) (hp2 : p ≤ 1021) (hr : Hid (Rd w v 1 F.length (nats F))) (hF : Hid (Q.Pol p F)) (hl : F.length ≤ 10000) :
    Calls Tryz.prog 17 #[.int .i64 p, v] w fun x w' => x = .returned (.bool (Q.irredP p F)) ∧ Below w.heap.size w w' := by
  have hp : 2 ≤ p := hP.out.1
  obtain ⟨a, cv, rfl⟩ := hr.out.shape
  by_cases h2 : F.length < 2
  · have he : Hid (Q.irredP p F = false) := by show _ = _; rw [Q.irredP, if_pos (.inl h2)]
    have hz : decide ((F.length : Int) < 2) = true := by rw [decide_eq_true_iff]; omega
    have hz2 : (F.length : Int) < 2 := by omega
    rw [he.out]
    go_enter Tryz.func17, Tryz.ntmps17
    go_wp2_with (fail)
    go_ret
    exact ⟨rfl, Below.refl _ _⟩
  · have hz2 : ¬ (F.length : Int) < 2 := by omega
    obtain ⟨n, hn⟩ : ∃ n, F.length = n := ⟨_, rfl⟩
    have hln : n ≤ 10000 := by omega
    have hn2 : 2 ≤ n := by omega
    have HN := Lib.hid hn
    rw [hn] at hz2 ⊢
    obtain ⟨D, hD⟩ : ∃ D, D = Q.deriv p F := ⟨_, rfl⟩
    obtain ⟨G, hG⟩ : ∃ G, G = Q.gcdP p F (Q.deriv p F) := ⟨_, rfl⟩
    have HDG := Lib.hid (And.intro hD hG)
    have HRW : Hid (Rd w (.slice a n cv) 1 F.length (nats F)) := by show Rd _ _ _ _ _; rw [← hn]; exact hr.out
    clear hn hr h2 hD hG
    go_enter Tryz.func17, Tryz.ntmps17
    go_wp2_with (fail)
    refine (derivative_is p F _ _ hp hp2 HRW hF.out.1 (by have := HN.out; omega) (by have := HN.out; omega)).mono ?_
    rintro e w1 ⟨⟨v1, rfl, hN1⟩, hB1⟩
    have hdl : (Q.deriv p F).length ≤ n := by have := HN.out; have := Q.deriv_le p F; omega
    have HR1 : Hid (Rd w1 v1 1 (Q.deriv p F).length (nats (Q.deriv p F))) := hN1.rd
    have HRF : Hid (Rd w1 (.slice a n cv) 1 F.length (nats F)) := HRW.out.below hB1 (Nat.le_refl _)
    have HB1 := Lib.hid hB1
    have HPD : Hid (Q.Pol p (Q.deriv p F)) := Q.deriv_pol (by omega) F
    obtain ⟨a1, c1, hv1⟩ := HR1.out.shape
    subst hv1
    clear hN1 hB1
    go_wp2_with (fail)
    refine (divisorOf_is p F (Q.deriv p F) _ _ _ hP hp2 HRF HR1 hF HPD (by have := HN.out; omega) (by omega)).mono ?_
    rintro e w2 ⟨⟨v2, rfl, hN2⟩, hB2⟩
    have HB2 := Lib.hid (HB1.out.trans (hB2.mono HB1.out.size))
    obtain ⟨a2, c2, hv2⟩ := hN2.rd.shape
    subst hv2
    obtain ⟨m, hm⟩ : ∃ m, m = (Q.gcdP p F (Q.deriv p F)).length := ⟨_, rfl⟩
    rw [← hm]
    by_cases hm1 : 1 < m
    · have he : Hid (Q.irredP p F = false) := by show _ = _; rw [Q.irredP, if_pos (.inr (by omega))]
      have hz3 : (1 : Int) < (m : Int) := by omega
      clear hN2 hB2 hm hm1
      go_wp2_with (fail)
      go_ret
      exact ⟨by rw [he.out]; rfl, HB2.out⟩
    · have he : Hid (Q.irredP p F = ((Q.fixedP p F).length == 1)) := by show _ = _; rw [Q.irredP, if_neg (by have := HN.out; omega)]
      have hz3 : ¬ (1 : Int) < (m : Int) := by omega
      have HRF2 : Hid (Rd w2 (.slice a n cv) 1 F.length (nats F)) := HRW.out.below HB2.out (Nat.le_refl _)
      clear hN2 hB2 hm hm1
      go_wp2_with (fail)
      refine (fixed_is p F _ _ hP hp2 HRF2 hF (by have := HN.out; omega) (by have := HN.out; omega)).mono ?_
      rintro e w3 ⟨v3, vs3, rfl, hN3⟩
      have HB3 := Lib.hid (HB2.out.trans (hN3.below.mono HB2.out.size))
      obtain ⟨a3, c3, hv3⟩ := (Rd.of_own hN3.own).shape
      subst hv3
      have hbe : (((Q.fixedP p F).length : Int) == 1) = ((Q.fixedP p F).length == 1) := by
        rw [Bool.eq_iff_iff]; simp; omega
      have HBE := Lib.hid hbe
      clear hN3 hbe
      go_wp2_with (fail)
      go_ret
      exact ⟨by rw [he.out, ← HBE.out]; rfl, HB3.out⟩

/-! ### Lists of lists, of which some were there -/
/-- A row that is new: none that was there in the first world comes back. -/
def RowS (w wr : World) (u : Value) (M : List Nat) : Prop := (False ∧ Rd w u 1 M.length (nats M)) ∨ wr.ownsRow w.heap.size 3 1 u M.length (nats M)

theorem RowS.rd {w wr : World} {u : Value} {M : List Nat} (h : RowS w wr u M) (_hB : Below w.heap.size w wr) : Rd wr u 1 M.length (nats M) := by
  rcases h with h | h
  · exact h.1.elim
  · exact Rd.of_own h
theorem RowS.own {w wr : World} {u : Value} {M : List Nat} (h : RowS w wr u M) : wr.ownsRow w.heap.size 3 1 u M.length (nats M) := h.resolve_left fun h => h.1
theorem RowS.low {w wr wx : World} {u : Value} {M : List Nat} (h : RowS w wr u M) (hB : Below wr.heap.size wr wx) : RowS w wx u M := by
  rcases h with h | h
  · exact .inl h
  · exact .inr (own_kept h hB)

structure MxS (w wr : World) (v : Value) (vs : List Value) (Ms : List (List Nat)) : Prop where
  own : wr.ownsRow w.heap.size 22 1 v Ms.length vs
  rows : ∀ (i : Nat) (u : Value) (M : List Nat), vs[i]? = some u → Ms[i]? = some M → RowS w wr u M
  below : Below w.heap.size w wr

theorem MxS.nil {w wr : World} (hB : Below w.heap.size w wr) : MxS w wr (.slice none 0 0) [] [] := ⟨World.ownsRow_nil _ _ _ _, fun i u M h => by simp at h, hB⟩
theorem MxS.low {w wr wx : World} {v : Value} {vs : List Value} {Ms : List (List Nat)} (h : MxS w wr v vs Ms) (hB : Below wr.heap.size wr wx) : MxS w wx v vs Ms :=
  ⟨own_kept h.own hB, fun i u M hv hM => (h.rows i u M hv hM).low hB, h.below.trans (hB.mono h.below.size)⟩
theorem MxS.vlen {w wr : World} {v : Value} {vs : List Value} {Ms : List (List Nat)} (h : MxS w wr v vs Ms) : vs.length = Ms.length := by have := h.own.1; omega
theorem MxS.rd {w wr : World} {v : Value} {vs : List Value} {Ms : List (List Nat)} (h : MxS w wr v vs Ms) : RdN wr v Ms :=
  ⟨vs, Rd.of_own h.own, fun i hi hi' => (h.rows i _ _ (List.getElem?_eq_getElem hi') (List.getElem?_eq_getElem hi)).rd h.below⟩
/-- Rows are appended. -/
theorem MxS.append {w wr wx : World} {v v' : Value} {vs us : List Value} {Ms Ns : List (List Nat)} {o : Obj} (h : MxS w wr v vs Ms) (_hl : us.length = Ns.length) (hu : ∀ (i : Nat) (u : Value) (N : List Nat), us[i]? = some u → Ns[i]? = some N → RowS w wr u N)
    (hown : wx.ownsRow w.heap.size 22 1 v' (Ms.length + Ns.length) (vs ++ us)) (hg : (wr.alloc o).grownBy wx v.ownBlock) : MxS w wx v' (vs ++ us) (Ms ++ Ns) := by
  have hBa : Below wr.heap.size wr (wr.alloc o) := (Below.refl _ _).alloc (Nat.le_refl _) _
  have hvl := h.vlen
  refine ⟨by rw [List.length_append]; exact hown, fun i t N ht hN => ?_, (h.below.trans (hBa.mono h.below.size)).grown hg (Nat.le_trans h.below.size hBa.size) fun g hg' => (h.own.lt g hg').1⟩
  have hk : ∀ (t : Value) (N : List Nat), RowS w wr t N → RowS w wx t N := fun t N h1 => by
    rcases h1 with h1 | h1
    · exact .inl h1
    · exact .inr ((own_kept h1 hBa).kept hg (own_ty_ne2 h1 h.own (by decide)))
  rw [List.getElem?_append] at ht hN
  split at ht
  · rw [if_pos (by omega)] at hN
    exact hk t N (h.rows i t N ht hN)
  · rw [if_neg (by omega)] at hN
    rw [hvl] at ht
    exact hk t N (hu _ t N ht hN)

/-- What a function that makes a list of lists returns, some of which were there. -/
def RetS (w : World) (Ms : List (List Nat)) (x : Ending) (w' : World) : Prop := ∃ v vs, x = .returned v ∧ MxS w w' v vs Ms

theorem MxS.cell {w wr : World} {v : Value} {vs : List Value} {Ms : List (List Nat)} (h : MxS w wr v vs Ms) {i : Nat} (hi : i < Ms.length) :
    ∃ g cp, v = .slice (some ⟨g, 0, none⟩) Ms.length cp ∧ ∃ a c, wr.cell? ⟨g, i, none⟩ = some (.slice a (Ms.getD i []).length c) ∧ RowS w wr (.slice a (Ms.getD i []).length c) (Ms.getD i []) := by
  have hv := h.vlen
  have h1 : vs[i]? = some vs[i] := List.getElem?_eq_getElem (by omega)
  have h2 : Ms[i]? = some (Ms.getD i []) := by simp [List.getD, hi]
  obtain ⟨_, a, cp, h3, _, hc⟩ := Rd.of_own h.own
  rcases hc with h4 | ⟨g, hg, _, hcell⟩
  · omega
  have hr := h.rows i _ _ h1 h2
  obtain ⟨a', c', hs⟩ := (hr.rd h.below).shape
  refine ⟨g, cp, by rw [h3, hg], a', c', ?_, ?_⟩
  · rw [← hs]; exact hcell _ _ h1
  · rw [← hs]; exact hr

end Go.Proofs.YtbehihanhfmmhaaGreat

namespace Go.Proofs.YtbehihanhfmmhaaGreat
open Go.RowKit

/-- Parts: polynomials of degree at least 1. -/
def Q.PartsOk (p L : Nat) (Ms : List (List Nat)) : Prop := ∀ M ∈ Ms, Q.Pol p M ∧ 2 ≤ M.length ∧ M.length ≤ L

theorem cell_2_new (w : World) (x y : Value) (t : TypeId) : ∀ j u, [x, y][j]? = some u → (w.alloc (.cells #[x, y] t)).cell? ((⟨w.heap.size, 0, none⟩ : Addr).add j) = some u := by
  intro j u hj
  rcases j with _ | _ | j
  · simp at hj; subst hj; simp [Addr.add]
  · simp at hj; subst hj; simp [Addr.add]
  · simp at hj

theorem Q.splitOne_yes {p : Nat} {v part : List Nat} (h : 1 < (Q.gcdP p part v).length ∧ (Q.gcdP p part v).length < part.length) : Q.splitOne p v part = [Q.gcdP p part v, (Q.divP p part (Q.gcdP p part v)).1] := by
  simp only [Q.splitOne]; rw [if_pos h]
theorem Q.splitOne_no {p : Nat} {v part : List Nat} (h : ¬ (1 < (Q.gcdP p part v).length ∧ (Q.gcdP p part v).length < part.length)) : Q.splitOne p v part = [part] := by
  simp only [Q.splitOne]; rw [if_neg h]

theorem Q.take_succ_flatMap {α β : Type} (L : List α) (f : α → List β) (k : Nat) (d : α) (h : k < L.length) : (L.take (k + 1)).flatMap f = (L.take k).flatMap f ++ f (L.getD k d) := by
  have hk : L.getD k d = L[k] := by simp [List.getD, h]
  rw [hk, List.take_add_one, List.getElem?_eq_getElem h, List.flatMap_append]
  simp

set_option maxRecDepth 100000 in
set_option maxHeartbeats 4000000 in
theorem splitBy_is (p : Nat) (V : List Nat) (v u : Value) (vs : List Value) (Ms : List (List Nat)) (w ws : World) (hP : Hid (M.Pr p)) (hp2 : p ≤ 1021) (hM : Hid (MxS w ws v vs Ms)) (hu : Hid (Rd ws u 1 V.length (nats V))) (hV : Hid (Q.Pol p V)) (hl : V.length ≤ 10000)
    (hok : Hid (Q.PartsOk p 10000 Ms)) (hn : Ms.length ≤ 10000) :
    Calls Tryz.prog 64 #[.int .i64 p, v, u] ws fun x w' => RetS w (Q.splitBy p Ms V) x w' ∧ Below ws.heap.size ws w' := by
  have hp : 2 ≤ p := hP.out.1
  obtain ⟨i1, hi1, hy0, hy1, hy2⟩ := info_parts Tryz.infoS
  obtain ⟨au, cu, rfl⟩ := hu.out.shape
  obtain ⟨av, cv, rfl⟩ := (Rd.of_own hM.out.own).shape
  obtain ⟨n, hnm⟩ : ∃ n, n = Ms.length := ⟨_, rfl⟩
  obtain ⟨m, hmv⟩ : ∃ m, m = V.length := ⟨_, rfl⟩
  have HN := Lib.hid hnm
  have HMV := Lib.hid hmv
  have HM0 : Hid (MxS w ws (.slice av n cv) vs Ms) := by show MxS _ _ _ _ _; rw [hnm]; exact hM.out
  have HU0 : Hid (Rd ws (.slice au m cu) 1 V.length (nats V)) := by show Rd _ _ _ _ _; rw [hmv]; exact hu.out
  rw [← hnm] at hn ⊢
  rw [← hmv] at hl ⊢
  clear hnm hmv hM hu
  have HV0 : Hid (MxS w ws (.slice none 0 0) [] []) := MxS.nil HM0.out.below
  have HB0 : Hid (Below ws.heap.size ws ws) := Below.refl _ _
  have HT0 : Hid (([] : List (List Nat)) = (Ms.take 0).flatMap (Q.splitOne p V)) := by show _ = _; rfl
  go_enter Tryz.func64, Tryz.ntmps64
  go_wp2_with (fail)
  go_loopw [7, 15] (fun lv kv wr => ∃ (k m cp : Nat) (a : Option Addr) (us : List Value) (Bs : List (List Nat)), lv = .slice a m cp ∧ kv = .int .i64 k ∧ k ≤ n ∧ m ≤ 2 * k ∧ Hid (m = Bs.length) ∧ Hid (Below ws.heap.size ws wr) ∧ Hid (MxS w wr (.slice a m cp) us Bs) ∧ Hid (Bs = (Ms.take k).flatMap (Q.splitOne p V)) ∧ Hid (wr.ownsRow ws.heap.size 22 1 (.slice a m cp) Bs.length us)) (fun _ kv _ => n - (intOf kv).toNat)
  case atStart => exact ⟨0, 0, 0, none, [], [], rfl, rfl, by omega, by omega, (by show _ = _; rfl), HB0, HV0, HT0, World.ownsRow_nil _ _ _ _⟩
  case round =>
    obtain ⟨k, mb, cp, a, us, Bs, rfl, rfl, hk, hmk, Hm, HB, HS, HT, HO⟩ := hrel
    by_cases hlt : k < n
    · have HMr : MxS w wr (.slice av n cv) vs Ms := HM0.out.low HB.out
      have hkl : k < Ms.length := by have := HN.out; omega
      obtain ⟨g, cp1, hg, aX, cX, e1, e2⟩ := HMr.cell hkl
      injection hg with hg1 hg2 hg3
      subst hg1
      obtain ⟨X, hX⟩ : ∃ X, X = Ms.getD k [] := ⟨_, rfl⟩
      rw [← hX] at e1 e2
      have HTn : Hid (Bs ++ Q.splitOne p V X = (Ms.take (k + 1)).flatMap (Q.splitOne p V)) := by show _ = _; rw [Q.take_succ_flatMap _ _ _ [] hkl, ← HT.out, hX]
      have hXm : X ∈ Ms := by rw [hX]; simp [List.getD, hkl]
      have hXo := hok.out X hXm
      have HXP : Hid (Q.Pol p X) := hXo.1
      have hX2 := hXo.2.1
      have hX3 := hXo.2.2
      have HUr : Hid (Rd wr (.slice au m cu) 1 V.length (nats V)) := HU0.out.below HB.out (Nat.le_refl _)
      obtain ⟨x, hx⟩ : ∃ x, x = X.length := ⟨_, rfl⟩
      have HXR : Hid (Rd wr (.slice aX x cX) 1 X.length (nats X)) := by show Rd _ _ _ _ _; rw [hx]; exact e2.rd HMr.below
      have HXS : Hid (RowS w wr (.slice aX x cX) X) := by show RowS _ _ _ _; rw [hx]; exact e2
      rw [← hx] at e1 hX2 hX3
      have HX := Lib.hid hx
      have hkn : (k : Int) < (n : Int) := by omega
      clear hX hXm hXo e2 HMr hx hg2 hg3
      go_wp2_with (fail)
      refine (divisorOf_is p X V _ _ _ hP hp2 HXR HUr HXP hV (by have := HX.out; omega) (by have := HMV.out; omega)).mono ?_
      rintro e w2 ⟨⟨v2, rfl, hN2⟩, hB2⟩
      obtain ⟨G, hG⟩ : ∃ G, G = Q.gcdP p X V := ⟨_, rfl⟩
      have hGp : Q.Pol p G := by rw [hG]; exact (Q.gcdP_is hP.out HXP.out hV.out).pol
      rw [← hG] at hN2
      have HG := Lib.hid hG
      have HGP := Lib.hid hGp
      obtain ⟨a2, c2, hv2⟩ := hN2.rd.shape
      subst hv2
      obtain ⟨q, hq⟩ : ∃ q, q = G.length := ⟨_, rfl⟩
      have HGR : Hid (Rd w2 (.slice a2 q c2) 1 G.length (nats G)) := by show Rd _ _ _ _ _; rw [hq]; exact hN2.rd
      have HGS : Hid (RowS w w2 (.slice a2 q c2) G) := by show RowS _ _ _ _; rw [hq]; exact .inr (own_base hN2 (by have := HM0.out.below.size; have := HB.out.size; omega))
      have HQ := Lib.hid hq
      have HB2 : Hid (Below ws.heap.size ws w2) := HB.out.trans (hB2.mono HB.out.size)
      have HS2 : Hid (MxS w w2 (.slice a mb cp) us Bs) := HS.out.low hB2
      have HO2 := Lib.hid (own_kept HO.out hB2)
      have HXR2 : Hid (Rd w2 (.slice aX x cX) 1 X.length (nats X)) := HXR.out.below hB2 (Nat.le_refl _)
      have HXS2 : Hid (RowS w w2 (.slice aX x cX) X) := HXS.out.low hB2
      rw [← hq]
      clear hN2 hB2 hG hGp hq HS HXR HXS HUr e1
      by_cases hyes : 1 < q ∧ q < x
      · have ht1 : (1 : Int) < (q : Int) := by omega
        have ht2 : (q : Int) < (x : Int) := by omega
        have HY : Hid (Q.splitOne p V X = [G, (Q.divP p X G).1]) := by
          have h1 := HG.out
          have h2 := HX.out
          have h3 := HQ.out
          show _ = _
          rw [Q.splitOne_yes (by rw [← h1, ← h2, ← h3]; exact hyes), ← h1]
        have hq0 : G.length ≠ 0 := by have := HQ.out; omega
        have HXRed : Hid (Q.Red p X) := HXP.out.1
        have hx1 : X.length ≤ 1000000 := by have := HX.out; omega
        clear hyes
        go_wp2_with (fail)
        refine (divide_is p X G _ _ _ hP hp2 HXR2 HGR HXRed HGP hx1 hq0).mono ?_
        rintro e w3 ⟨⟨vq, vr, rfl, hNq, hNr⟩, hB3⟩
        obtain ⟨D, hD⟩ : ∃ D, D = (Q.divP p X G).1 := ⟨_, rfl⟩
        rw [← hD] at hNq HY
        obtain ⟨aq, cq, hvq⟩ := hNq.rd.shape
        obtain ⟨ar, cr, hvr⟩ := hNr.rd.shape
        subst hvq hvr
        have HDS0 : RowS w w3 (.slice aq D.length cq) D := .inr (own_base hNq (by have := HM0.out.below.size; have := HB2.out.size; omega))
        have HB3 : Hid (Below ws.heap.size ws w3) := HB2.out.trans (hB3.mono HB2.out.size)
        have HO3 := Lib.hid (own_kept HO2.out hB3)
        have HS3 : Hid (MxS w w3 (.slice a mb cp) us Bs) := HS2.out.low hB3
        have HGS3 : Hid (RowS w w3 (.slice a2 q c2) G) := HGS.out.low hB3
        obtain ⟨d, hd⟩ : ∃ d, d = D.length := ⟨_, rfl⟩
        have HDS : Hid (RowS w w3 (.slice aq d cq) D) := by show RowS _ _ _ _; rw [hd]; exact HDS0
        rw [← hd]
        clear HDS0 hNq hNr hB3 hD hd HS2 HXR2 HXS2 HGS HGR
        go_wp2_with (first
          | (at_builtin; refine wpList_append_own _ rfl _ _ 53 rfl ws.heap.size 22 i1 (.slice none 0 0) 1 24 Tryz.underlying53 hi1 hy0 hy1 hy2 rfl (by decide) _ _ _ rfl (HO3.out.alloc _) ⟨w3.heap.size, 0, none⟩ 2 2 [.slice a2 q c2, .slice aq d cq] rfl rfl ?c1 ?c2 ?c3 ?c4 ?c5 ?_))
        case c1 => exact cell_2_new _ _ _ _
        case c2 => intro u hu; simp at hu; rcases hu with rfl | rfl <;> rfl
        case c3 => unfold maxLen; have := Hm.out; omega
        case c4 => have := Hm.out; omega
        case c5 => simp; have := HB3.out.size; omega
        intro v' w4 hown4 hgrow4 _
        have HS4 : Hid (MxS w w4 v' (us ++ [.slice a2 q c2, .slice aq d cq]) (Bs ++ [G, D])) := HS3.out.append rfl (fun i u N hu hN => by
          rcases i with _ | _ | i
          · simp at hu hN; subst hu hN; exact HGS3.out
          · simp at hu hN; subst hu hN; exact HDS.out
          · simp at hu) (own_base hown4 HM0.out.below.size) hgrow4
        have HB4 : Hid (Below ws.heap.size ws w4) :=
          (HB3.out.trans (((Below.refl _ _).alloc (Nat.le_refl _) _ : Below w3.heap.size w3 _).mono HB3.out.size)).grown hgrow4 (by simp; have := HB3.out.size; omega) fun g hg => (HO3.out.lt g hg).1
        obtain ⟨a4, c4, hv4, _⟩ := own_form hown4
        subst hv4
        have HO4 : Hid (w4.ownsRow ws.heap.size 22 1 (.slice a4 (Bs.length + 2) c4) (Bs ++ [G, D]).length (us ++ [.slice a2 q c2, .slice aq d cq])) := by show World.ownsRow _ _ _ _ _ _ _; rw [List.length_append]; exact hown4
        have HM4 : Hid (Bs.length + 2 = (Bs ++ [G, D]).length) := by show _ = _; simp
        have HT4 : Hid (Bs ++ [G, D] = (Ms.take (k + 1)).flatMap (Q.splitOne p V)) := by show _ = _; rw [← HTn.out, HY.out]
        have hmk4 : Bs.length + 2 ≤ 2 * (k + 1) := by have := Hm.out; omega
        clear hown4 hgrow4
        go_wp2_with (fail)
        go_roundw
        case rel => exact ⟨k + 1, Bs.length + 2, _, _, _, _, rfl, by go_num, by omega, hmk4, HM4, HB4, HS4, HT4, HO4⟩
        case measure => simp [intOf]; omega
      · have HY : Hid (Q.splitOne p V X = [X]) := by
          have h1 := HG.out
          have h2 := HX.out
          have h3 := HQ.out
          show _ = _
          rw [Q.splitOne_no (by rw [← h1, ← h2, ← h3]; exact hyes)]
        have hc : (1 < q ∧ x ≤ q) ∨ q ≤ 1 := by omega
        clear hyes
        rcases hc with ⟨hc1, hc2⟩ | hc1
        all_goals
          try have ht1 : (1 : Int) < (q : Int) := by omega
          try have ht1 : ¬ (1 : Int) < (q : Int) := by omega
          try have ht2 : ¬ (q : Int) < (x : Int) := by omega
          clear hc1
          try clear hc2
          go_wp2_with (first
            | (at_builtin; refine wpList_append_own _ rfl _ _ 53 rfl ws.heap.size 22 i1 (.slice none 0 0) 1 24 Tryz.underlying53 hi1 hy0 hy1 hy2 rfl (by decide) _ _ _ rfl (HO2.out.alloc _) ⟨w2.heap.size, 0, none⟩ 1 1 [.slice aX x cX] rfl rfl ?c1 ?c2 ?c3 ?c4 ?c5 ?_))
          try case c1 => exact cell_one_new _ _ _
          case c2 => first | rfl | (intro u hu; simp at hu; subst hu; rfl)
          case c3 => unfold maxLen; have := Hm.out; omega
          case c4 => have := Hm.out; omega
          case c5 => (try simp); have := HB2.out.size; omega
          intro v' w4 hown4 hgrow4 _
          have HS4 : Hid (MxS w w4 v' (us ++ [.slice aX x cX]) (Bs ++ [X])) := HS2.out.append rfl (fun i u N hu hN => by
            rcases i with _ | i
            · simp at hu hN; subst hu hN; exact HXS2.out
            · simp at hu) (own_base hown4 HM0.out.below.size) hgrow4
          have HB4 : Hid (Below ws.heap.size ws w4) :=
            (HB2.out.trans (((Below.refl _ _).alloc (Nat.le_refl _) _ : Below w2.heap.size w2 _).mono HB2.out.size)).grown hgrow4 (by simp; have := HB2.out.size; omega) fun g hg => (HO2.out.lt g hg).1
          obtain ⟨a4, c4, hv4, _⟩ := own_form hown4
          subst hv4
          have HO4 : Hid (w4.ownsRow ws.heap.size 22 1 (.slice a4 (Bs.length + 1) c4) (Bs ++ [X]).length (us ++ [.slice aX x cX])) := by show World.ownsRow _ _ _ _ _ _ _; rw [List.length_append]; exact hown4
          have HM4 : Hid (Bs.length + 1 = (Bs ++ [X]).length) := by show _ = _; simp
          have HT4 : Hid (Bs ++ [X] = (Ms.take (k + 1)).flatMap (Q.splitOne p V)) := by show _ = _; rw [← HTn.out, HY.out]
          have hmk4 : Bs.length + 1 ≤ 2 * (k + 1) := by have := Hm.out; omega
          clear hown4 hgrow4
          go_wp2_with (fail)
          go_roundw
          case rel => exact ⟨k + 1, Bs.length + 1, _, _, _, _, rfl, by go_num, by omega, hmk4, HM4, HB4, HS4, HT4, HO4⟩
          case measure => simp [intOf]; omega
    · obtain rfl : k = n := by omega
      have HE : Hid (MxS w wr (.slice a mb cp) us (Q.splitBy p Ms V)) := by
        have h1 := HS.out
        rw [HT.out, List.take_of_length_le (by have := HN.out; omega)] at h1
        exact h1
      go_wp2_with (fail)
      go_ret
      exact ⟨⟨_, us, rfl, HE.out⟩, HB.out⟩

end Go.Proofs.YtbehihanhfmmhaaGreat

namespace Go.Proofs.YtbehihanhfmmhaaGreat
open Go.RowKit

theorem MxV.toS {w wr : World} {v : Value} {vs : List Value} {Ms : List (List Nat)} (h : MxV w wr v vs Ms) : MxS w wr v vs Ms := ⟨h.own, fun i u M h1 h2 => .inr (h.rows i u M h1 h2), h.below⟩

theorem litV_own (w : World) (u : Value) (_hu : u.oneCell' = true) : (w.alloc (.cells #[u] 22)).ownsRow w.heap.size 22 1 (.slice (some ⟨w.heap.size, 0, none⟩) 1 1) 1 [u] := by
  have := World.ownsRow_lit (base := w.heap.size) (e := 22) (size := 1) w #[u] 1 (Nat.le_refl _) (by unfold maxLen; omega) rfl
  exact this

set_option maxRecDepth 100000 in
set_option maxHeartbeats 4000000 in
theorem split_is (p : Nat) (F : List Nat) (v : Value) (w ws : World) (hP : Hid (M.Pr p)) (hp2 : p ≤ 1021) (hr : Hid (RowS w ws v F)) (hB : Hid (Below w.heap.size w ws)) (hF : Hid (Q.Pol p F)) (hl : F.length ≤ 9999) (h2 : 2 ≤ F.length) :
    Calls Tryz.prog 40 #[.int .i64 p, v] ws fun x w' => RetS w (Q.splitP p F) x w' ∧ Below ws.heap.size ws w' := by
  have hp : 2 ≤ p := hP.out.1
  have hrd : Hid (Rd ws v 1 F.length (nats F)) := hr.out.rd hB.out
  obtain ⟨a, cv, rfl⟩ := hrd.out.shape
  have HBW := hB
  obtain ⟨n, hn⟩ : ∃ n, n = F.length := ⟨_, rfl⟩
  obtain ⟨B, hBf⟩ : ∃ B, B = Q.fixedP p F := ⟨_, rfl⟩
  obtain ⟨nb, hnb⟩ : ∃ nb, nb = B.length := ⟨_, rfl⟩
  have hnb1 : 1 ≤ nb := by rw [hnb, hBf]; exact Q.fixed_ne hp h2
  have HRW : Hid (∀ X ∈ B, Q.Pol p X ∧ X.length ≤ F.length - 1) := by show ∀ _, _; rw [hBf]; exact Q.fixed_rows hp F
  obtain ⟨fin, hfin⟩ : ∃ fin, fin = Q.splitP p F := ⟨_, rfl⟩
  have HF0 : Hid (fin = Q.splitV p nb (B.drop 1) [F]) := by show _ = _; rw [hfin, Q.splitP, hnb, hBf]
  have HX := Lib.hid (fixed_is p F _ ws hP hp2 hrd hF (by omega) h2)
  rw [← hBf, ← hn] at HX
  rw [← hfin, ← hn]
  have HNN := Lib.hid (And.intro hn (And.intro hBf (And.intro hnb hfin)))
  rw [← hn] at hl h2
  have HFw : Hid (RowS w ws (.slice a n cv) F) := by show RowS _ _ _ _; rw [hn]; exact hr.out
  have HSU : Hid (Q.SumOk p 9999 [F]) := ⟨fun M hM => by simp at hM; subst hM; exact ⟨hF.out, by omega⟩, by simp; omega⟩
  clear hn hB hBf hnb hfin hr hrd
  go_enter Tryz.func40, Tryz.ntmps40
  go_wp2_with (fail)
  go_step3
  go_wp2_with (fail)
  refine HX.out.mono ?_
  rintro e w1 ⟨v1, vs1, rfl, hN0⟩
  have HWS := Lib.hid hN0.below
  have hN1 := hN0.from HBW.out
  clear hN0
  have hnbl : B.length = nb := HNN.out.2.2.1.symm
  obtain ⟨gB, cp, hg, _⟩ := hN1.toS.cell (show 0 < B.length by omega)
  subst hg
  rw [hnbl] at hN1 ⊢
  have hcap : nb ≤ cp := by obtain ⟨_, _, h1, h2, _⟩ := own_form hN1.own; injection h1 with _ _ h1; omega
  have HB1 : Hid (MxS w w1 (.slice (some ⟨gB, 0, none⟩) nb cp) vs1 B) := hN1.toS
  have HL1 : Hid (MxS w (w1.alloc (.cells #[.slice a n cv] 22)) (.slice (some ⟨w1.heap.size, 0, none⟩) 1 1) [.slice a n cv] [F]) := by
    refine ⟨own_base (litV_own w1 _ rfl) hN1.below.size, fun i u M hu hM => ?_, hN1.below.trans (((Below.refl _ _).alloc (Nat.le_refl _) _ : Below w1.heap.size w1 _).mono hN1.below.size)⟩
    rcases i with _ | i
    · simp at hu hM
      subst hu hM
      exact HFw.out.low (HWS.out.trans (((Below.refl _ _).alloc (Nat.le_refl _) _ : Below w1.heap.size w1 _).mono HWS.out.size))
    · simp at hu
  have HB2 : Hid (MxS w (w1.alloc (.cells #[.slice a n cv] 22)) (.slice (some ⟨gB, 0, none⟩) nb cp) vs1 B) := HB1.out.low ((Below.refl _ _).alloc (Nat.le_refl _) _)
  have HWA : Hid (Below ws.heap.size ws (w1.alloc (.cells #[.slice a n cv] 22))) := HWS.out.trans (((Below.refl _ _).alloc (Nat.le_refl _) _ : Below w1.heap.size w1 _).mono HWS.out.size)
  obtain ⟨m, hm⟩ : ∃ m, nb = m + 1 := ⟨nb - 1, by omega⟩
  obtain ⟨c, hc⟩ : ∃ c, cp = c + 1 := ⟨cp - 1, by omega⟩
  subst hm hc
  have hm2 : (1 : Int) ≤ ((m + 1 : Nat) : Int) := by omega
  have hmb : m ≤ 10000 := by have := Q.fixed_len p F; have h3 := HNN.out; rw [← h3.2.1, ← h3.2.2.1, ← h3.1] at this; omega
  clear hN1 HX hnbl HB1
  by_cases hc0 : c = 0
  · subst hc0
    have hm0 : m = 0 := by omega
    subst hm0
    have HE : Hid (MxS w (w1.alloc (.cells #[.slice a n cv] 22)) (.slice (some ⟨w1.heap.size, 0, none⟩) 1 1) [.slice a n cv] fin) := by
      have h1 : B.drop 1 = [] := List.drop_eq_nil_of_le (by have := HNN.out.2.2.1; omega)
      have h2 := HF0.out
      rw [h1] at h2
      show MxS _ _ _ _ _
      rw [h2]
      exact HL1.out
    go_wp2_with (fail)
    go_step3
    go_wp2_with (fail)
    go_loopg [6, 18] 0 (fun gk s6 s18 wx => s6 = .slice (some ⟨w1.heap.size, 0, none⟩) 1 1 ∧ s18 = .int .i64 0 ∧ wx = (w1.alloc (.cells #[.slice a n cv] 22)))
    case atStart => exact ⟨rfl, rfl, rfl⟩
    case round =>
      obtain ⟨rfl, rfl, rfl⟩ := hrel
      go_wp2_with (fail)
      rw [Exit.noGoto_ret]
      go_ret
      exact ⟨⟨_, _, rfl, HE.out⟩, HWA.out⟩
  · have HF1 : Hid (fin = Q.splitV p (m + 1) (B.drop (0 + 1)) [F]) := HF0
    have H10 : Hid (1 = [F].length) := by show _ = _; rfl
    go_wp2_with (fail)
    go_step3
    go_wp2_with (fail)
    go_loopg [6, 18] m (fun gk s6 s18 wx => ∃ (k q cq : Nat) (aq : Option Addr) (us : List Value) (Ps : List (List Nat)), k + gk = m ∧ s18 = .int .i64 k ∧ s6 = .slice aq q cq ∧ Hid (q = Ps.length) ∧ Hid (MxS w wx (.slice aq q cq) us Ps) ∧ Hid (Q.SumOk p 9999 Ps) ∧ Hid (MxS w wx (.slice (some ⟨gB, 0, none⟩) (m + 1) (c + 1)) vs1 B) ∧ Hid (fin = Q.splitV p (m + 1) (B.drop (k + 1)) Ps) ∧ Hid (Below ws.heap.size ws wx))
    case atStart => exact ⟨0, 1, 1, _, _, [F], by omega, rfl, rfl, H10, HL1, HSU, HB2, HF1, HWA⟩
    case round =>
      obtain ⟨k, q, cq, aq, us, Ps, hkg, rfl, rfl, Hq, HM, HS, HB, HF, HW⟩ := hrel
      cases gk with
      | zero =>
        have hkz : ¬ ((k : Int) < (m : Int)) := by omega
        have HE : Hid (MxS w wr (.slice aq q cq) us fin) := by
          have h2 := HF.out
          rw [List.drop_eq_nil_of_le (by have := HNN.out.2.2.1; omega)] at h2
          show MxS _ _ _ _ _
          rw [h2]
          exact HM.out
        go_wp2_with (fail)
        go_ret
        exact ⟨⟨_, us, rfl, HE.out⟩, HW.out⟩
      | succ g =>
        have hkz : (k : Int) < (m : Int) := by omega
        have hkB : k + 1 < B.length := by have := HNN.out.2.2.1; omega
        obtain ⟨gB', cp', hgB, aV, cV, e1, e2⟩ := HB.out.cell hkB
        injection hgB with hgB1 hgB2 hgB3
        injection hgB1 with hgB1
        injection hgB1 with hgB1
        subst hgB1
        obtain ⟨V, hV⟩ : ∃ V, V = B.getD (k + 1) [] := ⟨_, rfl⟩
        rw [← hV] at e1 e2
        have HV := Lib.hid hV
        have hdrop : B.drop (k + 1) = V :: B.drop (k + 1 + 1) := by
          rw [List.drop_eq_getElem_cons hkB, hV]; simp [List.getD, hkB]
        have HF2 : Hid (fin = (if (Q.splitS p (m + 1) V p 0 Ps).1 then (Q.splitS p (m + 1) V p 0 Ps).2 else Q.splitV p (m + 1) (B.drop (k + 1 + 1)) (Q.splitS p (m + 1) V p 0 Ps).2)) := by
          have h2 := HF.out
          rw [hdrop, Q.splitV] at h2
          exact h2
        have hVm := HRW.out V (by rw [hV]; simp [List.getD, hkB])
        have HVP : Hid (Q.Pol p V) := hVm.1
        obtain ⟨x, hx⟩ : ∃ x, x = V.length := ⟨_, rfl⟩
        have HX := Lib.hid hx
        have hx2 : x ≤ 9999 := by have := hVm.2; have := HNN.out.1; omega
        have HVS : Hid (RowS w wr (.slice aV x cV) V) := by show RowS _ _ _ _; rw [hx]; exact e2
        rw [← hx, Nat.add_comm k 1] at e1
        clear hgB2 hgB3 hdrop hVm hx hV e2
        go_wp2_with (fail)
        go_loopg [6, 23] p (fun g2 s6 s23 wx => ∃ (s q cq : Nat) (aq : Option Addr) (us : List Value) (Ps : List (List Nat)), s + g2 = p ∧ s23 = .int .i64 s ∧ s6 = .slice aq q cq ∧ Hid (q = Ps.length) ∧ Hid (MxS w wx (.slice aq q cq) us Ps) ∧ Hid (Q.SumOk p 9999 Ps) ∧ Hid (MxS w wx (.slice (some ⟨gB, 0, none⟩) (m + 1) (c + 1)) vs1 B) ∧ Hid (RowS w wx (.slice aV x cV) V) ∧ Hid (fin = (if (Q.splitS p (m + 1) V g2 s Ps).1 then (Q.splitS p (m + 1) V g2 s Ps).2 else Q.splitV p (m + 1) (B.drop (k + 1 + 1)) (Q.splitS p (m + 1) V g2 s Ps).2)) ∧ Hid (Below ws.heap.size ws wx))
        case atStart => exact ⟨0, q, cq, _, us, Ps, by omega, rfl, rfl, Hq, HM, HS, HB, HVS, HF2, HW⟩
        case round =>
          clear Hq HM HS HB HF HF2 HVS e1 HW
          obtain ⟨s, q, cq, aq, us, Ps, hsg, rfl, rfl, Hq, HM, HS, HB, HVS, HF, HW⟩ := hrel
          cases gk with
          | zero =>
            have hsz : ¬ ((s : Int) < (p : Int)) := by omega
            have HF3 : Hid (fin = Q.splitV p (m + 1) (B.drop (k + 1 + 1)) Ps) := by
              have h2 := HF.out
              have e : Q.splitS p (m + 1) V 0 s Ps = (false, Ps) := rfl
              rw [e, if_neg (by simp)] at h2
              exact h2
            go_wp2_with (fail)
            go_roundg g
            case measure => omega
            case rel => exact ⟨k + 1, q, cq, _, us, Ps, by omega, by first | rfl | go_num, rfl, Hq, HM, HS, HB, HF3, HW⟩
          | succ g2 =>
            have hsz : (s : Int) < (p : Int) := by omega
            by_cases hqm : q = m + 1
            · have hd : ((q : Int) == ((m + 1 : Nat) : Int)) = true := by rw [beq_iff_eq]; omega
              have HE : Hid (MxS w wr (.slice aq q cq) us fin) := by
                have h2 := HF.out
                have e : Q.splitS p (m + 1) V (g2 + 1) s Ps = (true, Ps) := by rw [Q.splitS, if_pos (by rw [← Hq.out]; exact hqm)]
                rw [e, if_pos rfl] at h2
                show MxS _ _ _ _ _
                rw [h2]
                exact HM.out
              clear hqm
              go_wp2_with (fail)
              rw [Exit.noGoto_ret]
              go_ret
              exact ⟨⟨_, us, rfl, HE.out⟩, HW.out⟩
            · have hd : ((q : Int) == ((m + 1 : Nat) : Int)) = false := by rw [beq_eq_false_iff_ne]; omega
              obtain ⟨D, hD⟩ : ∃ D, D = Q.difP p V (Q.trim [s]) := ⟨_, rfl⟩
              have HF3 : Hid (fin = (if (Q.splitS p (m + 1) V g2 (s + 1) (Q.splitBy p Ps D)).1 then (Q.splitS p (m + 1) V g2 (s + 1) (Q.splitBy p Ps D)).2 else Q.splitV p (m + 1) (B.drop (k + 1 + 1)) (Q.splitS p (m + 1) V g2 (s + 1) (Q.splitBy p Ps D)).2)) := by
                have h2 := HF.out
                have e : Q.splitS p (m + 1) V (g2 + 1) s Ps = Q.splitS p (m + 1) V g2 (s + 1) (Q.splitBy p Ps (Q.difP p V (Q.trim [s]))) := by rw [Q.splitS, if_neg (by rw [← Hq.out]; exact hqm)]
                rw [e, ← hD] at h2
                exact h2
              have HDP : Hid (Q.Pol p D) := by show Q.Pol _ _; rw [hD]; exact Q.pol_dif (by omega) _ _
              have HT1 : Hid (Q.Pol p (Q.trim [s])) := Q.pol_trim1 (by omega) s (by omega)
              have htl : (Q.trim [s]).length ≤ 1 := Q.trim1_len s
              have hDl : D.length ≤ 10000 := by
                rw [hD]
                refine Nat.le_trans (Q.dif_le p V (Q.trim [s])) ?_
                have := HX.out
                omega
              have HS' : Hid (Q.SumOk p 9999 (Q.splitBy p Ps D)) := Q.splitBy_ok hP.out HDP.out HS.out
              have HPO : Hid (Q.PartsOk p 10000 Ps) := fun M hM => HS.out.part M hM
              have hcnt := HS.out.count
              have HDD := Lib.hid hD
              clear hqm hD
              have hlit := lit1_own wr s
              have hBa : Below wr.heap.size wr (wr.alloc (.cells #[.int .i64 (s : Int)] 3)) := (Below.refl _ _).alloc (Nat.le_refl _) _
              have HL : Hid (Rd (wr.alloc (.cells #[.int .i64 (s : Int)] 3)) (.slice (some ⟨wr.heap.size, 0, none⟩) 1 1) 1 [s].length (nats [s])) := Rd.of_own hlit
              have hcut := own_cut hlit (show Q.trimLen [s] ≤ 1 from Q.trimLen_le [s])
              rw [Nat.mul_one, ← nats_take] at hcut
              obtain ⟨t, ht⟩ : ∃ t, t = Q.trimLen [s] := ⟨_, rfl⟩
              have HC : Hid (Rd (wr.alloc (.cells #[.int .i64 (s : Int)] 3)) (.slice (some ⟨wr.heap.size, 0, none⟩) t 1) 1 (Q.trim [s]).length (nats (Q.trim [s]))) := by
                show Rd _ _ _ _ _
                rw [Q.trim_length, ht]; exact Rd.of_own hcut
              have HT := Lib.hid ht
              have HM1 := Lib.hid (HM.out.low hBa)
              have HB1 := Lib.hid (HB.out.low hBa)
              have HVS1 := Lib.hid (HVS.out.low hBa)
              have HV1 : Hid (Rd (wr.alloc (.cells #[.int .i64 (s : Int)] 3)) (.slice aV x cV) 1 V.length (nats V)) := HVS1.out.rd HM1.out.below
              have HW1 := Lib.hid (HW.out.trans (hBa.mono HW.out.size))
              clear hlit hBa hcut HM HB HVS
              go_wp2_with (fail)
              refine (trim_is [s] _ 1 1 _ (by show _ = _; rfl) HL (by omega) (Nat.le_refl _) (by omega)).mono ?_
              rintro e w2 ⟨rfl, rfl⟩
              rw [← ht]
              clear ht
              go_wp2_with (fail)
              refine (difference_is p V (Q.trim [s]) _ _ _ hp hp2 HV1 HC HVP.out.1 HT1.out.1 (by have := HX.out; omega) (by omega)).mono ?_
              rintro e w3 ⟨⟨v3, rfl, hN3⟩, hB3⟩
              rw [← HDD.out] at hN3
              have HD3 : Hid (Rd w3 v3 1 D.length (nats D)) := hN3.rd
              have HM3 := Lib.hid (HM1.out.low hB3)
              have HW3 := Lib.hid (HW1.out.trans (hB3.mono HW1.out.size))
              have HB3 := Lib.hid (HB1.out.low hB3)
              have HVS3 := Lib.hid (HVS1.out.low hB3)
              obtain ⟨a3, c3, hv3⟩ := HD3.out.shape
              subst hv3
              clear hN3 hB3 HM1 HB1 HVS1
              go_wp2_with (fail)
              refine (splitBy_is p D _ _ us Ps w _ hP hp2 HM3 HD3 HDP hDl HPO (by omega)).mono ?_
              rintro e w4 ⟨⟨v4, us4, rfl, hM4⟩, hB4⟩
              obtain ⟨a4, c4, hv4, _⟩ := own_form hM4.own
              subst hv4
              obtain ⟨q4, hq4⟩ : ∃ q4, q4 = (Q.splitBy p Ps D).length := ⟨_, rfl⟩
              have HQ4 := Lib.hid hq4
              have HM4 : Hid (MxS w w4 (.slice a4 q4 c4) us4 (Q.splitBy p Ps D)) := by show MxS _ _ _ _ _; rw [hq4]; exact hM4
              have HB4 := Lib.hid (HB3.out.low hB4)
              have HW4 := Lib.hid (HW3.out.trans (hB4.mono HW3.out.size))
              have HVS4 := Lib.hid (HVS3.out.low hB4)
              rw [← hq4]
              clear hM4 hB4 hq4 HM3 HB3 HVS3
              go_wp2_with (fail)
              go_roundg g2
              case measure => omega
              case rel => exact ⟨s + 1, q4, c4, _, us4, _, by omega, by first | rfl | go_num, rfl, HQ4, HM4, HS', HB4, HVS4, HF3, HW4⟩

end Go.Proofs.YtbehihanhfmmhaaGreat

namespace Go.Proofs.YtbehihanhfmmhaaGreat
open Go.RowKit

theorem Q.root_len (p : Nat) (f : List Nat) : (Q.rootP p f).length = (f.length - 1) / p + 1 := by simp [Q.rootP]

set_option maxRecDepth 100000 in
set_option maxHeartbeats 1000000 in
theorem rootOf_is (p : Nat) (F : List Nat) (v : Value) (w : World) (hp : 2 ≤ p) (hp2 : p ≤ 1021) (hr : Hid (Rd w v 1 F.length (nats F))) (hl : F.length ≤ 100000) (h0 : F.length ≠ 0) :
    Calls Tryz.prog 37 #[.int .i64 p, v] w (RetL w (Q.rootP p F)) := by
  obtain ⟨_, a, cap, rfl, hcap, hcell⟩ := hr.out
  rcases hcell with h | ⟨b, rfl, hb, hc⟩
  · omega
  have HC := Lib.hid hc
  clear hc hr
  obtain ⟨H, hH⟩ : ∃ H, H = Q.rootP p F := ⟨_, rfl⟩
  have HH := Lib.hid hH
  obtain ⟨m, hm⟩ : ∃ m, F.length = m + 1 := ⟨F.length - 1, by omega⟩
  obtain ⟨n, hn⟩ : ∃ n, n = m / p := ⟨_, rfl⟩
  have hnm : n ≤ m := by rw [hn]; exact Nat.div_le_self _ _
  have hnp : n * p ≤ m := by rw [hn]; exact Nat.div_mul_le_self _ _
  have hHl : H.length = n + 1 := by rw [hH, Q.root_len, hm, hn]; rfl
  have HN := Lib.hid (And.intro hm (And.intro hHl hnp))
  have hd : ((m + 1 : Nat) : Int) - 1 = (m : Int) := by omega
  have hd2 : (m : Int) / (p : Int) = (n : Int) := by rw [hn]; rfl
  have hd3 : (m : Int).tdiv (p : Int) = (n : Int) := by rw [hn]; rfl
  rw [hm] at hl hcap ⊢
  clear hH hn hHl h0 hm hnp
  have hzp : ((p : Int) == 0) = false := by simp; omega
  obtain ⟨i0, hi, hz0, hz1, hz2⟩ := info_parts Tryz.infoZ
  rw [← HH.out]
  go_enter Tryz.func37, Tryz.ntmps37
  go_wp2_with (at_make; refine wpList_make_full _ rfl _ _ 22 rfl w.heap.size 3 i0 (.int .i64 0) 1 Tryz.underlying22 hi hz0 hz1 .i64 .i64 _ _ (n + 1) rfl rfl rfl rfl (by rw [hz2]; omega) (by unfold maxLen; omega) (Nat.le_refl _) ?_)
  intro w0 hown0 hgrow0
  have hst : Hid (CSt w w0 w.heap.size (n + 1) 0 H) := CSt.start hown0 hgrow0 HN.out.2.1
  clear hown0 hgrow0
  go_wp2_with (fail)
  go_loopw [16] (fun i wr => ∃ (k : Nat), i = .int .i64 k ∧ k ≤ n + 1 ∧ Hid (CSt w wr w.heap.size (n + 1) k H)) (fun i _ => n + 1 - (intOf i).toNat)
  case atStart => exact ⟨0, rfl, by omega, hst⟩
  case round =>
    obtain ⟨k, rfl, hk, HS⟩ := hrel
    by_cases hlt : k < n + 1
    · have hcell := HS.out.cell hlt
      have hfr := HS.out.free k
      have hkH : k < H.length := by have := HN.out.2.1; omega
      have hkp : k * p ≤ m := Nat.le_trans (Nat.mul_le_mul_right p (by omega)) HN.out.2.2
      have hkF : k * p < F.length := by have := HN.out.1; omega
      obtain ⟨y, hy⟩ : ∃ y, y = F.getD (k * p) 0 := ⟨_, rfl⟩
      have c1 : wr.cell? ⟨b, k * p, none⟩ = some (.int .i64 (y : Int)) := by
        rw [HS.out.below.cell (p := ⟨b, k * p, none⟩) hb, HC.out _ _ (nats_get F (k * p) hkF), hy, Q.getD_get hkF]
      have hend : Hid (CSt w (wr.setCell ⟨w.heap.size, k, none⟩ (.int .i64 (y : Int))) w.heap.size (n + 1) (k + 1) H) := by
        have e : H[k] = y := by have := HH.out; subst this; simp only [Q.rootP, List.getElem_map, List.getElem_range]; rw [hy]
        show CSt _ _ _ _ _ _
        rw [← e]; exact HS.out.store hkH
      have hq1 : (k : Int) * (p : Int) = ((k * p : Nat) : Int) := by simp
      have hq2 : (0 : Int) ≤ (k : Int) * (p : Int) ∧ (k : Int) * (p : Int) < (m : Int) + 1 := by omega
      have hq3 : ((k : Int) * (p : Int)).toNat = k * p := by omega
      clear hy hkp hq1
      go_wp2_with (fail)
      go_roundw
      case rel => exact ⟨k + 1, by go_num, by omega, hend⟩
      case measure => simp [intOf]; omega
    · obtain rfl : k = n + 1 := by omega
      have hD := HS.out.done
      have HD : Hid (NewL w wr (.slice (some ⟨w.heap.size, 0, none⟩) (n + 1) (n + 1)) H) := by show World.ownsRow _ _ _ _ _ _ _; rw [HN.out.2.1]; exact hD
      have HB := Lib.hid HS.out.below
      clear hD
      go_wp2_with (fail)
      go_ret
      exact ⟨⟨_, rfl, HD.out⟩, HB.out⟩

end Go.Proofs.YtbehihanhfmmhaaGreat
namespace Go.Proofs.YtbehihanhfmmhaaGreat
open Go.RowKit

theorem Q.takeOut_step {p n e : Nat} {part f : List Nat} (h : (Q.divP p f part).2.length = 0) : Q.takeOut p part (n + 1) e f = Q.takeOut p part n (e + 1) (Q.divP p f part).1 := by
  simp only [Q.takeOut]; rw [if_pos h]
theorem Q.takeOut_stop {p n e : Nat} {part f : List Nat} (h : (Q.divP p f part).2.length ≠ 0) : Q.takeOut p part (n + 1) e f = some (e, f) := by
  simp only [Q.takeOut]; rw [if_neg h]

/-- An exact quotient of what is not 0 is not 0, and shorter. -/
theorem Q.quot_len {p : Nat} (hP : M.Pr p) {f g : List Nat} (hf : Q.Pol p f) (hg : Q.Pol p g) (h2 : 2 ≤ g.length) (h0 : f.length ≠ 0) (h : (Q.divP p f g).2.length = 0) :
    Q.Pol p (Q.divP p f g).1 ∧ (Q.divP p f g).1.length ≠ 0 ∧ (Q.divP p f g).1.length < f.length := by
  have D := Q.div_is hP hf hg (by omega)
  have hl := D.qlen
  refine ⟨D.qpol, ?_, by omega⟩
  by_cases hlt : f.length < g.length
  · rw [Q.divP, if_pos hlt] at h
    exact absurd h h0
  · omega

theorem Q.takeOut_some {p : Nat} (hP : M.Pr p) {g : List Nat} (hg : Q.Pol p g) (h2 : 2 ≤ g.length) : ∀ (n : Nat) (f : List Nat) (e : Nat), Q.Pol p f → f.length ≠ 0 → f.length < n →
    ∃ k f', Q.takeOut p g n e f = some (e + k, f') ∧ Q.Pol p f' ∧ f'.length ≠ 0 ∧ f'.length + k ≤ f.length
  | 0, f, e, _, _, h => by omega
  | n + 1, f, e, hf, h0, hl => by
    by_cases h : (Q.divP p f g).2.length = 0
    · obtain ⟨q1, q2, q3⟩ := Q.quot_len hP hf hg h2 h0 h
      obtain ⟨k, f', e1, e2, e3, e4⟩ := Q.takeOut_some hP hg h2 n _ (e + 1) q1 q2 (by omega)
      exact ⟨k + 1, f', by rw [Q.takeOut_step h, e1, show e + 1 + k = e + (k + 1) by omega], e2, e3, by omega⟩
    · exact ⟨0, f, Q.takeOut_stop h, hf, h0, by omega⟩

/-- The number of steps does not matter, if it suffices. -/
theorem Q.takeOut_more {p : Nat} (hP : M.Pr p) {g : List Nat} (hg : Q.Pol p g) (h2 : 2 ≤ g.length) : ∀ (n m : Nat) (f : List Nat) (e : Nat), Q.Pol p f → f.length ≠ 0 → f.length < n → f.length < m →
    Q.takeOut p g n e f = Q.takeOut p g m e f
  | 0, _, f, e, _, _, h, _ => by omega
  | _ + 1, 0, f, e, _, _, _, h => by omega
  | n + 1, m + 1, f, e, hf, h0, hn, hm => by
    by_cases h : (Q.divP p f g).2.length = 0
    · obtain ⟨q1, q2, q3⟩ := Q.quot_len hP hf hg h2 h0 h
      rw [Q.takeOut_step h, Q.takeOut_step h]
      exact Q.takeOut_more hP hg h2 n m _ (e + 1) q1 q2 (by omega) (by omega)
    · rw [Q.takeOut_stop h, Q.takeOut_stop h]

set_option maxRecDepth 100000 in
set_option maxHeartbeats 1000000 in
theorem takeOut_is (p : Nat) (F G : List Nat) (v u : Value) (w ws : World) (hP : Hid (M.Pr p)) (hp2 : p ≤ 1021) (hr : Hid (RowS w ws v F)) (hB : Hid (Below w.heap.size w ws)) (hu : Hid (Rd ws u 1 G.length (nats G))) (hF : Hid (Q.Pol p F)) (hG : Hid (Q.Pol p G)) (hl : F.length ≤ 10000) (h0 : F.length ≠ 0) (h2 : 2 ≤ G.length) (hl2 : G.length ≤ 10000) :
    Calls Tryz.prog 41 #[.int .i64 p, v, u] ws fun x w' => ∃ (e : Nat) (F' : List Nat) (v' : Value), Q.takeOut p G (F.length + 1) 0 F = some (e, F') ∧ x = .returned (.tuple #[.int .i64 e, v']) ∧ RowS w w' v' F' ∧ Below ws.heap.size ws w' := by
  have hp : 2 ≤ p := hP.out.1
  obtain ⟨res, hres⟩ : ∃ res, res = Q.takeOut p G (F.length + 1) 0 F := ⟨_, rfl⟩
  rw [← hres]
  obtain ⟨av, cv, rfl⟩ := (hr.out.rd hB.out).shape
  obtain ⟨au, cu, rfl⟩ := hu.out.shape
  obtain ⟨n, hn⟩ : ∃ n, n = F.length := ⟨_, rfl⟩
  obtain ⟨m, hm⟩ : ∃ m, m = G.length := ⟨_, rfl⟩
  have HM := Lib.hid hm
  have HN0 : Hid (n = F.length) := hn
  have HV0 : Hid (RowS w ws (.slice av n cv) F) := by show RowS _ _ _ _; rw [hn]; exact hr.out
  have HU : Hid (Rd ws (.slice au m cu) 1 G.length (nats G)) := by show Rd _ _ _ _ _; rw [hm]; exact hu.out
  have HR0 : Hid (res = Q.takeOut p G (n + 1) 0 F) := by show _ = _; rw [hres, hn]
  rw [← hn] at hl h0 ⊢
  rw [← hm] at h2 hl2 ⊢
  clear hn hm hr hu hres
  go_enter Tryz.func41, Tryz.ntmps41
  go_wp2_with (fail)
  go_loopw [1, 8] (fun fv ev wr => ∃ (e k cf : Nat) (af : Option Addr) (f : List Nat), fv = .slice af k cf ∧ ev = .int .i64 e ∧ e + k ≤ n ∧ k ≠ 0 ∧ Hid (k = f.length) ∧ Hid (RowS w wr (.slice af k cf) f) ∧ Hid (Q.Pol p f) ∧ Hid (Below ws.heap.size ws wr) ∧ Hid (res = Q.takeOut p G (k + 1) e f)) (fun fv _ _ => match fv with | .slice _ k _ => k | _ => 0)
  case atStart => exact ⟨0, n, cv, av, F, rfl, rfl, by omega, h0, HN0, HV0, hF, Below.refl _ _, HR0⟩
  case round =>
    obtain ⟨e, k, cf, af, f, rfl, rfl, hek, hk0, HK, HV, HP, HB, HR⟩ := hrel
    have HFr : Hid (Rd wr (.slice af k cf) 1 f.length (nats f)) := HV.out.rd (hB.out.trans (HB.out.mono hB.out.size))
    have HUr : Hid (Rd wr (.slice au m cu) 1 G.length (nats G)) := HU.out.below HB.out (Nat.le_refl _)
    go_wp2_with (fail)
    refine (divide_is p f G _ _ _ hP hp2 HFr HUr HP.out.1 hG (by have := HK.out; omega) (by have := HM.out; omega)).mono ?_
    rintro x w3 ⟨⟨vq, vr, rfl, hNq, hNr⟩, hB3⟩
    obtain ⟨aq, cq, hvq⟩ := hNq.rd.shape
    obtain ⟨ar, cr, hvr⟩ := hNr.rd.shape
    subst hvq hvr
    have HB3 : Hid (Below ws.heap.size ws w3) := HB.out.trans (hB3.mono HB.out.size)
    have HV3 : Hid (RowS w w3 (.slice af k cf) f) := HV.out.low hB3
    have hq1 : RowS w w3 (.slice aq (Q.divP p f G).1.length cq) (Q.divP p f G).1 := .inr (own_base hNq (by have := hB.out.size; have := HB.out.size; omega))
    have hql := fun h => Q.quot_len hP.out HP.out hG.out (by have := HM.out; omega) (by have := HK.out; omega) h
    obtain ⟨D, hD⟩ : ∃ D, D = (Q.divP p f G).1 := ⟨_, rfl⟩
    obtain ⟨r, hr⟩ : ∃ r, r = (Q.divP p f G).2.length := ⟨_, rfl⟩
    have hstop := fun h => Q.takeOut_stop (p := p) (n := k) (e := e) (part := G) (f := f) h
    have hstep := fun h => Q.takeOut_step (p := p) (n := k) (e := e) (part := G) (f := f) h
    rw [← hD] at hq1 hql hstep ⊢
    rw [← hr] at hql hstep hstop ⊢
    have hkf := HK.out
    obtain ⟨d, hd⟩ : ∃ d, d = D.length := ⟨_, rfl⟩
    rw [← hd] at hql hq1 ⊢
    have HD := Lib.hid hd
    by_cases hz : r = 0
    · have hq := hql hz
      have HQ1 := Lib.hid hq1
      have HQP : Hid (Q.Pol p D) := hq.1
      have hd0 : d ≠ 0 := hq.2.1
      have hdk : d < k := by rw [hkf]; exact hq.2.2
      have HR3 : Hid (res = Q.takeOut p G (d + 1) (e + 1) D) := by
        show _ = _
        rw [HR.out, hstep hz]
        exact Q.takeOut_more hP.out hG.out (by have := HM.out; omega) k (d + 1) D (e + 1) HQP.out (by omega) (by omega) (by omega)
      subst hz
      clear hq hql hstop hstep hq1 hD hr hd hkf hNq hNr hB3 HV HFr HUr
      go_wp2_with (fail)
      go_roundw
      case rel => exact ⟨e + 1, d, _, _, D, rfl, by go_num, by omega, hd0, HD, HQ1, HQP, HB3, HR3⟩
      case measure => simpa using hdk
    · have HR3 : Hid (res = some (e, f)) := by show _ = _; rw [HR.out, hstop hz]
      have hz1 : (0 : Int) < (r : Int) := by omega
      clear hql hstop hstep hq1 hD hr hd hkf hNq hNr hB3 HV HFr HUr hz
      go_wp2_with (fail)
      go_ret2
      exact ⟨e, f, _, HR3.out, rfl, HV3.out, HB3.out⟩

end Go.Proofs.YtbehihanhfmmhaaGreat

namespace Go.Proofs.YtbehihanhfmmhaaGreat
open Go.RowKit
namespace Q

theorem fact_small {p n t : Nat} {f : List Nat} (h : f.length ≤ 1) : factLoop p (n + 1) t f = some [] := by rw [factLoop, if_pos h]
theorem fact_root {p n t : Nat} {f : List Nat} (h : ¬ f.length ≤ 1) (hd : (deriv p f).length = 0) : factLoop p (n + 1) t f = factLoop p n (t * p) (rootP p f) := by rw [factLoop, if_neg h, if_pos hd]
theorem fact_take {p n t : Nat} {f : List Nat} {fin : List (List Nat × Nat)} (h : ¬ f.length ≤ 1) (hd : (deriv p f).length ≠ 0) (hf : factLoop p (n + 1) t f = some fin) :
    ∃ l f' l', takeAll p t (splitP p (divP p f (gcdP p f (deriv p f))).1) f = some (l, f') ∧ factLoop p n t f' = some l' ∧ fin = l ++ l' := by
  rw [factLoop, if_neg h, if_neg hd] at hf
  split at hf
  · cases hf
  · next l f' e =>
    split at hf
    · cases hf
    · next l' e2 =>
      injection hf with hf
      exact ⟨l, f', l', e, e2, hf.symm⟩
theorem take_cons {p t : Nat} {part f f' : List Nat} {parts : List (List Nat)} {l : List (List Nat × Nat)} (h : takeAll p t (part :: parts) f = some (l, f')) :
    ∃ e f1 l1, takeOut p part (f.length + 1) 0 f = some (e, f1) ∧ takeAll p t parts f1 = some (l1, f') ∧ l = (part, e * t) :: l1 := by
  rw [takeAll] at h
  split at h
  · cases h
  · next e f1 e1 =>
    split at h
    · cases h
    · next l1 f2 e2 =>
      injection h with h
      injection h with h1 h2
      subst h1 h2
      exact ⟨e, f1, l1, e1, e2, rfl⟩

theorem simple_ok {p : Nat} (hP : M.Pr p) {f : List Nat} (hf : Pol p f) (h2 : 2 ≤ f.length) (hd : (deriv p f).length ≠ 0) :
    Pol p (divP p f (gcdP p f (deriv p f))).1 ∧ 2 ≤ (divP p f (gcdP p f (deriv p f))).1.length ∧ (divP p f (gcdP p f (deriv p f))).1.length ≤ f.length ∧ (gcdP p f (deriv p f)).length ≠ 0 := by
  have hp := hP.1
  have hdp := deriv_pol (p := p) (by omega) f
  have hdl := deriv_le p f
  have G := gcdP_is hP hf hdp
  have hg := Dv.len hP G.pol hdp G.right hd
  have D := div_is hP hf G.pol hg.2
  have hl := D.qlen
  exact ⟨D.qpol, by omega, by omega, hg.2⟩

theorem root_ok {p : Nat} (hP : M.Pr p) {f : List Nat} (hf : Pol p f) (h2 : 2 ≤ f.length) (hd : (deriv p f).length = 0) : Pol p (rootP p f) := by
  have hp := hP.1
  obtain ⟨m, hm⟩ : ∃ m, f.length = m + 2 := ⟨f.length - 2, by omega⟩
  have h1 : (deriv p f).getD m 0 = 0 := by rw [List.length_eq_zero_iff.1 hd]; rfl
  rw [deriv, trim_getD, getD_get (by simp; omega)] at h1
  simp at h1
  have hne := hf.ne (by omega)
  have hlt := hf.red.getD (p := p) (by omega) (f.length - 1)
  have e1 : f.length - 1 = m + 1 := by omega
  rw [e1] at hne hlt
  have hdvd : p ∣ m + 1 := by
    have h3 : p ∣ (m + 1) * f.getD (m + 1) 0 := Nat.dvd_of_mod_eq_zero h1
    rcases (M.Pr.dvd_mul hP h3) with h4 | h4
    · exact h4
    · exact absurd (Nat.le_of_dvd (by omega) h4) (by omega)
  have hq : (m + 1) / p * p = m + 1 := Nat.div_mul_cancel hdvd
  have hl : (rootP p f).length = (m + 1) / p + 1 := by rw [root_len, e1]
  refine pol_of (fun x hx => ?_) (.inr ?_)
  · simp only [rootP, List.mem_map, List.mem_range] at hx
    obtain ⟨i, _, rfl⟩ := hx
    exact hf.red.getD (by omega) _
  · rw [hl, getD_get (by rw [hl]; exact Nat.lt_succ_self _)]
    simp only [rootP, List.getElem_map, List.getElem_range, Nat.add_sub_cancel]
    rw [hq]
    exact hne

theorem root_bound (p t : Nat) (f : List Nat) : t * p * ((rootP p f).length - 1) ≤ t * (f.length - 1) := by
  rw [root_len, Nat.add_sub_cancel, Nat.mul_assoc]
  exact Nat.mul_le_mul_left t (by rw [Nat.mul_comm]; exact Nat.div_mul_le_self _ _)

end Q
end Go.Proofs.YtbehihanhfmmhaaGreat

namespace Go.Proofs.YtbehihanhfmmhaaGreat
open Go.RowKit

theorem Q.ordP_lt : ∀ {f g : List Nat}, f.length < g.length → Q.ordP f g = -1
  | [], [], h => by simp at h
  | [], b :: g, _ => rfl
  | a :: f, [], h => by simp at h
  | a :: f, b :: g, h => by
    have ih := Q.ordP_lt (f := f) (g := g) (by simpa using h)
    simp only [Q.ordP]; rw [ih, if_neg (by omega)]
theorem Q.ordP_gt : ∀ {f g : List Nat}, g.length < f.length → Q.ordP f g = 1
  | [], [], h => by simp at h
  | [], b :: g, h => by simp at h
  | a :: f, [], h => rfl
  | a :: f, b :: g, h => by
    have ih := Q.ordP_gt (f := f) (g := g) (by simpa using h)
    simp only [Q.ordP]; rw [ih, if_neg (by omega)]
theorem Q.ordP_cons (a b : Nat) (f g : List Nat) : Q.ordP (a :: f) (b :: g) = if Q.ordP f g = 0 then Lib.compareInt (a : Int) (b : Int) else Q.ordP f g := by
  simp only [Lib.compareInt, gt_iff_lt, Int.ofNat_lt]
  rfl
theorem Q.ordP_drop (F G : List Nat) (t : Nat) (h1 : t < F.length) (h2 : t < G.length) :
    Q.ordP (F.drop t) (G.drop t) = if Q.ordP (F.drop (t + 1)) (G.drop (t + 1)) = 0 then Lib.compareInt (F.getD t 0 : Nat) (G.getD t 0 : Nat) else Q.ordP (F.drop (t + 1)) (G.drop (t + 1)) := by
  have e1 : F.getD t 0 = F[t] := by simp [List.getD, h1]
  have e2 : G.getD t 0 = G[t] := by simp [List.getD, h2]
  rw [List.drop_eq_getElem_cons h1, List.drop_eq_getElem_cons h2, Q.ordP_cons, e1, e2]
theorem Q.ordP_ne : ∀ (t : Nat) (F G : List Nat), t ≤ F.length → t ≤ G.length → Q.ordP (F.drop t) (G.drop t) ≠ 0 → Q.ordP F G = Q.ordP (F.drop t) (G.drop t)
  | 0, F, G, _, _, _ => by simp
  | t + 1, F, G, h1, h2, h => by
    have e := Q.ordP_drop F G t (by omega) (by omega)
    rw [if_neg h] at e
    rw [← e]
    exact Q.ordP_ne t F G (by omega) (by omega) (by rw [e]; exact h)

theorem still_ord {P : Program} {f : FuncId} {args : Array Value} {v : Value} {w0 : World} (a n : Nat) (c : ∀ W : World, Calls P f args W fun e w' => e = .returned v ∧ w' = W) :
    Calls P f args (w0.drewN (a + n)) fun e w' => e = .returned v ∧ ∃ m, w' = w0.drewN (a + m) :=
  (c _).mono fun _ _ ⟨he, hw⟩ => ⟨he, n, hw⟩

set_option maxRecDepth 100000 in
set_option maxHeartbeats 1000000 in
theorem order_is (F G : List Nat) (v u : Value) (w : World) (hv : Hid (∀ k, Rd (w.drewN k) v 1 F.length (nats F))) (hu : Hid (∀ k, Rd (w.drewN k) u 1 G.length (nats G))) (hl : F.length ≤ 100000) (_hl2 : G.length ≤ 100000) (_hx : Hid (∀ x ∈ F, x ≤ 100000)) (_hy : Hid (∀ x ∈ G, x ≤ 100000)) :
    Calls Tryz.prog 44 #[v, u] w fun e w' => e = .returned (.int .i64 (Q.ordP F G)) ∧ ∃ n, w' = w.drewN n := by
  obtain ⟨av, cv, rfl⟩ := (hv.out 0).shape
  obtain ⟨au, cu, rfl⟩ := (hu.out 0).shape
  obtain ⟨n, hn⟩ : ∃ n, n = F.length := ⟨_, rfl⟩
  obtain ⟨m, hm⟩ : ∃ m, m = G.length := ⟨_, rfl⟩
  have HN := Lib.hid (And.intro hn hm)
  obtain ⟨fin, hfin⟩ : ∃ fin, fin = Q.ordP F G := ⟨_, rfl⟩
  have HF := Lib.hid hfin
  have HV : Hid (∀ i, i < n → ∃ b, av = some ⟨b, 0, none⟩ ∧ ∀ k, (w.drewN k).cell? ⟨b, i, none⟩ = some (.int .i64 (F.getD i 0 : Nat))) := fun i hi => by
    obtain ⟨_, a', c', h1, _, h2⟩ := hv.out 0
    rcases h2 with h | ⟨b, h3, _, _⟩
    · omega
    · injection h1 with h1
      subst h1
      refine ⟨b, h3, fun k => ?_⟩
      obtain ⟨_, a2, c2, g1, _, g2⟩ := hv.out k
      injection g1 with g1
      subst g1
      rcases g2 with h | ⟨b2, h4, _, hc⟩
      · omega
      · rw [h3] at h4; injection h4 with h4; injection h4 with h4; subst h4
        rw [hc _ _ (nats_get F i (by omega)), Q.getD_get (by omega)]
  have HU : Hid (∀ i, i < m → ∃ b, au = some ⟨b, 0, none⟩ ∧ ∀ k, (w.drewN k).cell? ⟨b, i, none⟩ = some (.int .i64 (G.getD i 0 : Nat))) := fun i hi => by
    obtain ⟨_, a', c', h1, _, h2⟩ := hu.out 0
    rcases h2 with h | ⟨b, h3, _, _⟩
    · omega
    · injection h1 with h1
      subst h1
      refine ⟨b, h3, fun k => ?_⟩
      obtain ⟨_, a2, c2, g1, _, g2⟩ := hu.out k
      injection g1 with g1
      subst g1
      rcases g2 with h | ⟨b2, h4, _, hc⟩
      · omega
      · rw [h3] at h4; injection h4 with h4; injection h4 with h4; subst h4
        rw [hc _ _ (nats_get G i (by omega)), Q.getD_get (by omega)]
  rw [← hn] at hl ⊢
  rw [← hm] at _hl2 ⊢
  rw [← hfin]
  clear hn hm hv hu hfin
  obtain ⟨c0, hc0⟩ : ∃ c0, c0 = Lib.compareInt (n : Int) (m : Int) := ⟨_, rfl⟩
  have HC : Hid (c0 = Lib.compareInt (n : Int) (m : Int)) := hc0
  have HS0 : Hid ((c0 ≠ 0 → fin = c0) ∧ (c0 = 0 → n = m ∧ Q.ordP (F.drop n) (G.drop n) = 0)) := by
    have h1 := HN.out
    have h2 := HF.out
    have h3 := hc0
    unfold Lib.compareInt at h3
    rcases (by omega : n < m ∨ n = m ∨ m < n) with h | h | h
    · rw [if_pos (by omega)] at h3
      refine ⟨fun _ => ?_, fun h4 => by omega⟩
      rw [h2, h3]; exact Q.ordP_lt (by omega)
    · rw [if_neg (by omega), if_neg (by omega)] at h3
      refine ⟨fun h4 => by omega, fun _ => ⟨h, ?_⟩⟩
      rw [List.drop_of_length_le (by omega), List.drop_of_length_le (by omega)]; rfl
    · rw [if_neg (by omega), if_pos (by omega)] at h3
      refine ⟨fun _ => ?_, fun h4 => by omega⟩
      rw [h2, h3]; exact Q.ordP_gt (by omega)
  clear hc0
  go_enter Tryz.func44, Tryz.ntmps44
  go_wp2_with (go_at_call 68; refine (Tryz.cmp_Compare_int _ _ _).mono ?_; rintro e w' ⟨rfl, rfl⟩; rw [← HC.out])
  go_loopw [5, 6] (fun cv iv wr => ∃ (c : Int) (t k : Nat), cv = .int .i64 c ∧ iv = .int .i64 ((t : Int) - 1) ∧ t ≤ n ∧ wr = w'.drewN k ∧ Hid ((c ≠ 0 → fin = c) ∧ (c = 0 → n = m ∧ Q.ordP (F.drop t) (G.drop t) = 0))) (fun _ iv _ => match iv with | .int _ t => (t + 1).toNat | _ => 0)
  case atStart => exact ⟨c0, n, 0, rfl, by go_num, by omega, rfl, HS0⟩
  case round =>
    obtain ⟨c, t, k, rfl, rfl, ht, rfl, HS⟩ := hrel
    by_cases hc : c = 0
    · subst hc
      rcases t with _ | t
      · have HE : Hid (fin = 0) := by show _ = _; rw [HF.out]; exact (HS.out.2 rfl).2
        go_wp2_with (fail)
        go_ret
        exact ⟨by rw [HE.out]; rfl, k, rfl⟩
      · have hnm := (HS.out.2 rfl).1
        obtain ⟨b, rfl, hb⟩ := HV.out t (by omega)
        obtain ⟨b2, rfl, hb2⟩ := HU.out t (by omega)
        obtain ⟨x, hx⟩ : ∃ x, x = F.getD t 0 := ⟨_, rfl⟩
        obtain ⟨y, hy⟩ : ∃ y, y = G.getD t 0 := ⟨_, rfl⟩
        rw [← hx] at hb
        rw [← hy] at hb2
        obtain ⟨c1, hc1⟩ : ∃ c1, c1 = Lib.compareInt (x : Int) (y : Int) := ⟨_, rfl⟩
        have HC1 := Lib.hid hc1
        have HSn : Hid ((c1 ≠ 0 → fin = c1) ∧ (c1 = 0 → n = m ∧ Q.ordP (F.drop t) (G.drop t) = 0)) := by
          have h0 := HN.out
          have h1 := Q.ordP_drop F G t (by omega) (by omega)
          rw [if_pos (HS.out.2 rfl).2, ← hx, ← hy, ← hc1] at h1
          refine ⟨fun h => ?_, fun h => ⟨hnm, by rw [h1]; exact h⟩⟩
          have h2 := Q.ordP_ne t F G (by omega) (by omega) (by rw [h1]; exact h)
          rw [HF.out, h2, h1]
        have e1 : w'.cell? ⟨b, t, none⟩ = some (.int .i64 (x : Int)) := by simpa using hb 0
        have e2 : w'.cell? ⟨b2, t, none⟩ = some (.int .i64 (y : Int)) := by simpa using hb2 0
        have ht1 : ((t + 1 : Nat) : Int) - 1 = (t : Int) := by omega
        have htn : (t : Int) < (n : Int) := by omega
        have htm : (t : Int) < (m : Int) := by omega
        have hge : decide ((0 : Int) ≤ (t : Int)) = true := by simp
        rw [ht1]
        clear hc1 hx hy hb hb2 hnm
        go_wp2_with (fail)
        go_quiet ((go_at_call 68; exact still_ord _ _ fun W => Tryz.cmp_Compare_int _ _ W))
        rw [← HC1.out]
        go_wp2_with (fail)
        go_roundw
        case rel => exact ⟨c1, t, _, rfl, by go_num, by omega, rfl, HSn⟩
        case measure => simp
    · have hz : (c == 0) = false := by rw [beq_eq_false_iff_ne]; exact hc
      have HE : Hid (fin = c) := HS.out.1 hc
      clear hc
      go_wp2_with (fail)
      go_ret
      exact ⟨by rw [HE.out]; rfl, k, rfl⟩

end Go.Proofs.YtbehihanhfmmhaaGreat
