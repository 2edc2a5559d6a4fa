/- The walk over the laws' copy of a game. -/
import Derived.Test.YtahhkbdodgjaeaaPa
import Derived.BigRegion
import Derived.Maps.AppendAt
namespace Go.Proofs.Ytahhkbdodgjaeaa
open Go.RowKit

theorem own_ne_ty {w : World} {base size n G : Nat} {e t : TypeId} {v : Value} {xs : List Value} {c : Array Value} {f : Nat × Nat} (h : w.ownsRow base e size v n xs) (hG : w.heap[G]? = some (.cells c t f)) (hne : e ≠ t) : v.ownBlock ≠ some G := by
  intro hb
  rcases h.2 with ⟨rfl, _⟩ | ⟨k, cp, cur, h3, _, h5, _⟩
  · simp [Value.ownBlock] at hb
  · rw [h3] at hb
    simp [Value.ownBlock] at hb
    subst hb
    rw [h5] at hG
    injection hG with hG
    injection hG with _ hG _
    exact hne hG
theorem own_set3 {w : World} {base size n G : Nat} {e : TypeId} {v : Value} {xs : List Value} (h : w.ownsRow base e size v n xs) (hn : v.ownBlock ≠ some G) (x y z : Value) : (((w.setCell ⟨G, 0, none⟩ x).setCell ⟨G, 1, none⟩ y).setCell ⟨G, 2, none⟩ z).ownsRow base e size v n xs :=
  own_set_other (own_set_other (own_set_other h hn _) hn _) hn _
theorem heap_set1 {w : World} {G i : Nat} {c : Array Value} {t : TypeId} {f : Nat × Nat} (h : w.heap[G]? = some (.cells c t f)) (x : Value) : (w.setCell ⟨G, i, none⟩ x).heap[G]? = some (.cells (c.setIfInBounds i x) t f) := by
  show (w.heap.modify G _)[G]? = _
  rw [Array.getElem?_modify, if_pos rfl, h]
  rfl
theorem heap_set3 {w : World} {G : Nat} {a b c : Value} {t : TypeId} (h : w.heap[G]? = some (.cells #[a, b, c] t (0, 0))) (x y z : Value) : (((w.setCell ⟨G, 0, none⟩ x).setCell ⟨G, 1, none⟩ y).setCell ⟨G, 2, none⟩ z).heap[G]? = some (.cells #[x, y, z] t (0, 0)) :=
  heap_set1 (heap_set1 (heap_set1 h x) y) z


theorem Try.infoG : (Try.prog.info? 25).map (·.size) = some 3 := by kernel_rfl
theorem MxZ.setG {w wr : World} {G j : Nat} {u v : Value} {vs : List Value} {Ms : List (List Int)} {c : Array Value} {t : TypeId} {f : Nat × Nat} (h : MxZ w wr v vs Ms) (hG : wr.heap[G]? = some (.cells c t f)) (h1 : 3 ≠ t) (h2 : 22 ≠ t) (hw : w.heap.size ≤ G) : MxZ w (wr.setCell ⟨G, j, none⟩ u) v vs Ms :=
  ⟨own_set_other h.own (own_ne_ty h.own hG h2) _, fun i x M hx hM => own_set_other (h.rows i x M hx hM) (own_ne_ty (h.rows i x M hx hM) hG h1) _, h.below.trans ((Below.refl _ _).setCell (p := ⟨G, j, none⟩) hw _)⟩

set_option maxRecDepth 100000 in
set_option maxHeartbeats 4000000 in
theorem game_is (O R : List Int) (N : List (List Int)) (vo vr vn : Value) (w : World) (ho : Hid (ArgI w vo O)) (hr : Hid (ArgI w vr R)) (hn : Hid (ArgZ w vn N)) :
    Calls Try.prog 16 #[.agg #[vo, vr, vn]] w fun e w' => (∃ v1 v2 v3 vs, e = .returned (.agg #[v1, v2, v3]) ∧ NewZ w w' v1 (O.take 30) ∧ NewZ w w' v2 (R.take 30) ∧ MxZ w w' v3 vs ((N.take 30).map fun l => l.take 30)) ∧ Below w.heap.size w w' := by
  obtain ⟨xa, na, ca, hsa⟩ := ho.out.form
  obtain ⟨xb, nb, cb, hsb⟩ := hr.out.form
  obtain ⟨xn, cn, hsn, hnc, hnc2, hncell⟩ := hn.out
  subst hsa hsb hsn
  obtain ⟨X, hX⟩ : ∃ X, X = (w.alloc (.cells #[.slice xa na ca, .slice xb nb cb, .slice xn N.length cn] 25)).alloc (.cells #[.slice none 0 0, .slice none 0 0, .slice none 0 0] 25) := ⟨_, rfl⟩
  have hXs : X.heap.size = w.heap.size + 2 := by rw [hX]; simp
  have HA : Hid (Below w.heap.size w X) := by rw [hX]; exact ((Below.refl _ _).alloc (Nat.le_refl _) _).alloc (by simp) _
  have hca : X.cell? ⟨w.heap.size, 0, none⟩ = some (.slice xa na ca) := by rw [hX]; simp
  have hcb : X.cell? ⟨w.heap.size, 1, none⟩ = some (.slice xb nb cb) := by rw [hX]; simp
  have hcn : X.cell? ⟨w.heap.size, 2, none⟩ = some (.slice xn N.length cn) := by rw [hX]; simp
  go_enter Try.func16, Try.ntmps16
  go_upto_region 1 with fail
  rw [← hX]
  have HXS : Hid (∀ W, Below X.heap.size X W → W.cell? ⟨w.heap.size, 0, none⟩ = some (.slice xa na ca) ∧ W.cell? ⟨w.heap.size, 1, none⟩ = some (.slice xb nb cb)) := fun W h =>
    ⟨by rw [h.cell (p := ⟨w.heap.size, 0, none⟩) (by show w.heap.size < _; omega)]; exact hca, by rw [h.cell (p := ⟨w.heap.size, 1, none⟩) (by show w.heap.size < _; omega)]; exact hcb⟩
  have HVa : Hid (∀ W, Below X.heap.size X W → ArgI W (.slice xa na ca) O) := fun W h => (ho.out.below HA.out).below h
  have HVb : Hid (∀ W, Below X.heap.size X W → ArgI W (.slice xb nb cb) R) := fun W h => (hr.out.below HA.out).below h
  have HX := Lib.hid hX
  have HXs := Lib.hid hXs
  have HXD : Hid (Below X.heap.size X X.drew) := (Below.refl _ _).drew
  clear hX hXs hncell
  go_cut [3] (fun pv wx => ∃ (W5 : World) (G : Nat) (v1 v2 : Value), W5 = wx ∧ pv = .pointer (some ⟨G, 0, none⟩) ∧ X.heap.size ≤ G ∧ Hid (NewZ w wx v1 (O.take 30)) ∧ Hid (NewZ w wx v2 (R.take 30)) ∧ Hid (wx.heap[G]? = some (.cells #[v1, v2, .slice none 0 0] 25 (0, 0))) ∧ Hid (Below X.heap.size X wx))
  case first =>
    refine wp_region_noPanic ?_
    refine wp_region_held_drew (S := (fun w' => (w'.cell? ⟨w.heap.size, 0, none⟩ = some (.slice xa na ca) ∧ w'.cell? ⟨w.heap.size, 1, none⟩ = some (.slice xb nb cb)))) (by kernel_rfl) ?_ (fun hHeld => ?_)
    · (try dsimp only); exact HXS.out _ HXD.out
    refine wpAnyH_take (i := 0) (oi := { dst := some 5, op := Op.fieldAddr 25 (Operand.tmp 1) 0, type := 0, pos := "law.go:43", after := #[], guard := none }) (v := ?_) rfl (by kernel_rfl) (by kernel_rfl) (by kernel_rfl) (fun _ _ _ h => h) (Or.inl ⟨by rfl, ?_⟩) (by assumption) ?_
    rotate_left
    · intro w hSw; (try dsimp only at hSw); go_simp; all_goals (try with_reducible rfl)
    try simp only [Act.put, List.setIfInBounds_toArray, List.set_cons_zero, List.set_cons_succ]
    refine wpAnyH_take (i := 1) (oi := { dst := some 6, op := Op.load 22 (Operand.tmp 5), type := 22, pos := "law.go:43", after := #[{ on := 0, ground := Ground.data }], guard := none }) (v := ?_) rfl (by kernel_rfl) (by kernel_rfl) (by kernel_rfl) (fun _ _ _ h => h) (Or.inl ⟨by rfl, ?_⟩) (by assumption) ?_
    rotate_left
    · intro w hSw; (try dsimp only at hSw); go_simp; all_goals (try with_reducible rfl)
    try simp only [Act.put, List.setIfInBounds_toArray, List.set_cons_zero, List.set_cons_succ]
    refine wpAnyH_take (i := 3) (oi := { dst := some 8, op := Op.fieldAddr 25 (Operand.tmp 1) 1, type := 0, pos := "law.go:43", after := #[], guard := none }) (v := ?_) rfl (by kernel_rfl) (by kernel_rfl) (by kernel_rfl) (fun _ _ _ h => h) (Or.inl ⟨by rfl, ?_⟩) (by assumption) ?_
    rotate_left
    · intro w hSw; (try dsimp only at hSw); go_simp; all_goals (try with_reducible rfl)
    try simp only [Act.put, List.setIfInBounds_toArray, List.set_cons_zero, List.set_cons_succ]
    refine wpAnyH_take (i := 4) (oi := { dst := some 9, op := Op.load 22 (Operand.tmp 8), type := 22, pos := "law.go:43", after := #[{ on := 3, ground := Ground.data }], guard := none }) (v := ?_) rfl (by kernel_rfl) (by kernel_rfl) (by kernel_rfl) (fun _ _ _ h => h) (Or.inl ⟨by rfl, ?_⟩) (by assumption) ?_
    rotate_left
    · intro w hSw; (try dsimp only at hSw); go_simp; all_goals (try with_reducible rfl)
    try simp only [Act.put, List.setIfInBounds_toArray, List.set_cons_zero, List.set_cons_succ]
    refine wpAnyH_ready (rs := [2, 7]) (by kernel_rfl) (by simp) ?_
    refine AllReadyH.cons (o := { dst := some 7, op := Op.call { callee := Callee.value (Operand.func 24), args := #[Operand.tmp 6], argTypes := #[22] }, type := 22, pos := "law.go:43", after := #[{ on := 1, ground := Ground.data }], guard := none }) rfl (fun K hK => ?_) ?_
    ·
      go_simp
      go_at_call 24
      refine (list_is O _ _ (HVa.out _ HXD.out)).mono ?_
      rintro e wA ⟨⟨vA, rfl, hN⟩, hB⟩
      have hBe : Below X.heap.size X wA := below_step HXD.out hB
      have HNA : Hid (NewZ _ wA vA (O.take 30)) := hN
      have HKA := Lib.hid hBe
      have HBA := Lib.hid hB
      obtain ⟨aA, cA, hvA⟩ := hN.rd.shape
      subst hvA
      clear hN hB hBe
      try go_wp2_with (fail)
      refine hK.out _ _ ?_ (fun hHeld => ?_)
      · (try dsimp only); exact HXS.out _ HKA.out
      clear hK K
      try simp only [Act.put, List.setIfInBounds_toArray, List.set_cons_zero, List.set_cons_succ]
      refine wpAnyH_ready (rs := [5, 7]) (by kernel_rfl) (by simp) ?_
      refine AllReadyH.cons (o := { dst := some 10, op := Op.call { callee := Callee.value (Operand.func 24), args := #[Operand.tmp 9], argTypes := #[22] }, type := 22, pos := "law.go:43", after := #[{ on := 4, ground := Ground.data }, { on := 2, ground := Ground.chain }], guard := none }) rfl (fun K hK => ?_) ?_
      ·
        go_simp
        go_at_call 24
        refine (list_is R _ _ (HVb.out _ HKA.out)).mono ?_
        rintro e wB ⟨⟨vB, rfl, hN⟩, hB⟩
        have hBe : Below X.heap.size X wB := below_step HKA.out hB
        have HNB : Hid (NewZ _ wB vB (R.take 30)) := hN
        have HKB := Lib.hid hBe
        have HBB := Lib.hid hB
        obtain ⟨aB, cB, hvB⟩ := hN.rd.shape
        subst hvB
        clear hN hB hBe
        try go_wp2_with (fail)
        refine hK.out _ _ ?_ (fun hHeld => ?_)
        · (try dsimp only); exact HXS.out _ HKB.out
        clear hK K
        try simp only [Act.put, List.setIfInBounds_toArray, List.set_cons_zero, List.set_cons_succ]
        refine wpAnyH_take (i := 6) (oi := { dst := some 11, op := Op.build 25 #[(0, Operand.tmp 7), (1, Operand.tmp 10)], type := 25, pos := "law.go:43", after := #[{ on := 2, ground := Ground.data }, { on := 5, ground := Ground.data }], guard := none }) (v := ?_) rfl (by kernel_rfl) (by kernel_rfl) (by kernel_rfl) (fun _ _ _ h => h) (Or.inl ⟨by rfl, ?_⟩) (by assumption) ?_
        rotate_left
        · intro w hSw; (try dsimp only at hSw); go_simp; all_goals (try with_reducible rfl)
        try simp only [Act.put, List.setIfInBounds_toArray, List.set_cons_zero, List.set_cons_succ]
        refine wpAnyH_ready (rs := [7]) (by kernel_rfl) (by simp) ?_
        refine AllReadyH.cons (o := { dst := some 3, op := Op.alloc 25, type := 0, pos := "law.go:43", after := #[], guard := none }) rfl (fun K hK => ?_) ?_
        ·
          go_simp
          refine hK.out _ _ ?_ (fun hHeld => ?_)
          · (try dsimp only); exact HXS.out _ (HKB.out.alloc (HKB.out).size _)
          clear hK K
          try simp only [Act.put, List.setIfInBounds_toArray, List.set_cons_zero, List.set_cons_succ]
          refine wpAnyH_ready (rs := [8]) (by kernel_rfl) (by simp) ?_
          refine AllReadyH.cons (o := { dst := none, op := Op.store 25 (Operand.tmp 3) (Operand.tmp 11), type := 0, pos := "law.go:43", after := #[{ on := 7, ground := Ground.data }, { on := 6, ground := Ground.data }, { on := 5, ground := Ground.chain }, { on := 0, ground := Ground.phase }, { on := 1, ground := Ground.phase }, { on := 2, ground := Ground.phase }, { on := 3, ground := Ground.phase }, { on := 4, ground := Ground.phase }, { on := 5, ground := Ground.phase }, { on := 6, ground := Ground.phase }, { on := 7, ground := Ground.phase }], guard := none }) rfl (fun K hK => ?_) ?_
          ·
            go_simp
            refine hK.out _ _ ?_ (fun hHeld => ?_)
            · (try dsimp only); exact HXS.out _ (HKB.out.alloc HKB.out.size _)
            clear hK K
            try simp only [Act.put, List.setIfInBounds_toArray, List.set_cons_zero, List.set_cons_succ]
            refine wpAnyH_done (by kernel_rfl) ?_ _
            refine NoPanic.normal ?_
            have HEN : Hid (Below X.heap.size X (wB.alloc (.cells #[.slice aA (O.take 30).length cA, .slice aB (R.take 30).length cB, .slice none 0 0] 25))) := (HKB.out.alloc HKB.out.size _)
            have HNA2 := Lib.hid (own_kept (own_kept HNA.out HBB.out) ((Below.refl _ _).alloc (Nat.le_refl _) (.cells #[.slice aA (O.take 30).length cA, .slice aB (R.take 30).length cB, .slice none 0 0] 25)))
            have HNB2 := Lib.hid (own_kept HNB.out ((Below.refl _ _).alloc (Nat.le_refl _) (.cells #[.slice aA (O.take 30).length cA, .slice aB (R.take 30).length cB, .slice none 0 0] 25)))
            simp only [List.length_take] at HNA2 HNB2 HEN
            go_wp2_with (fail)
            go_meet
            exact ⟨_, wB.heap.size, _, _, rfl, by first | rfl | simp, HKB.out.size, (by show World.ownsRow _ _ _ _ _ _ _; rw [List.length_take]; exact own_base HNA2.out (by have := HA.out.size; have : X.drew.heap.size = X.heap.size := rfl; first | omega | (simp; omega))), (by show World.ownsRow _ _ _ _ _ _ _; rw [List.length_take]; exact own_base HNB2.out (by have := HA.out.size; have := HKA.out.size; have : X.drew.heap.size = X.heap.size := rfl; first | omega | (simp; omega))), heap_alloc_new _ _, HEN⟩
          exact AllReadyH.nil
        exact AllReadyH.nil
      refine AllReadyH.cons (o := { dst := some 3, op := Op.alloc 25, type := 0, pos := "law.go:43", after := #[], guard := none }) rfl (fun K hK => ?_) ?_
      ·
        go_simp
        refine hK.out _ _ ?_ (fun hHeld => ?_)
        · (try dsimp only); exact HXS.out _ (HKA.out.alloc (HKA.out).size _)
        clear hK K
        try simp only [Act.put, List.setIfInBounds_toArray, List.set_cons_zero, List.set_cons_succ]
        refine wpAnyH_ready (rs := [5]) (by kernel_rfl) (by simp) ?_
        refine AllReadyH.cons (o := { dst := some 10, op := Op.call { callee := Callee.value (Operand.func 24), args := #[Operand.tmp 9], argTypes := #[22] }, type := 22, pos := "law.go:43", after := #[{ on := 4, ground := Ground.data }, { on := 2, ground := Ground.chain }], guard := none }) rfl (fun K hK => ?_) ?_
        ·
          go_simp
          go_at_call 24
          refine (list_is R _ _ (HVb.out _ (HKA.out.alloc (HKA.out).size _))).mono ?_
          rintro e wB ⟨⟨vB, rfl, hN⟩, hB⟩
          have hBe : Below X.heap.size X wB := below_step (HKA.out.alloc (HKA.out).size _) hB
          have HNB : Hid (NewZ _ wB vB (R.take 30)) := hN
          have HKB := Lib.hid hBe
          have HBB := Lib.hid hB
          obtain ⟨aB, cB, hvB⟩ := hN.rd.shape
          subst hvB
          have hE : (wA.alloc (.cells #[.slice none 0 0, .slice none 0 0, .slice none 0 0] 25)).heap[wA.heap.size]? = some (.cells #[.slice none 0 0, .slice none 0 0, .slice none 0 0] 25 (0, 0)) := heap_alloc_new _ _
          have hl : wA.heap.size < (wA.alloc (.cells #[.slice none 0 0, .slice none 0 0, .slice none 0 0] 25)).heap.size := by simp
          have hE2 : wB.heap[wA.heap.size]? = some (.cells #[.slice none 0 0, .slice none 0 0, .slice none 0 0] 25 (0, 0)) := (hB.block _ hl).trans hE
          have hl2 : wA.heap.size < wB.heap.size := Nat.lt_of_lt_of_le hl hB.size
          have d0 : wB.cell? ⟨wA.heap.size, 0, none⟩ = some (.slice none 0 0) := by simp [World.cell?, hE2]
          have d1 : wB.cell? ⟨wA.heap.size, 1, none⟩ = some (.slice none 0 0) := by simp [World.cell?, hE2]
          have d2 : wB.cell? ⟨wA.heap.size, 2, none⟩ = some (.slice none 0 0) := by simp [World.cell?, hE2]
          have f0 : wB.frozen? ⟨wA.heap.size, 0, none⟩ = false := by simp [World.frozen?, hE2]
          have f1 : wB.frozen? ⟨wA.heap.size, 1, none⟩ = false := by simp [World.frozen?, hE2]
          have f2 : wB.frozen? ⟨wA.heap.size, 2, none⟩ = false := by simp [World.frozen?, hE2]
          have HE2 := Lib.hid hE2
          clear hE hl hE2 hl2
          clear hN hB hBe
          try go_wp2_with (fail)
          refine hK.out _ _ ?_ (fun hHeld => ?_)
          · (try dsimp only); exact HXS.out _ HKB.out
          clear hK K
          try simp only [Act.put, List.setIfInBounds_toArray, List.set_cons_zero, List.set_cons_succ]
          refine wpAnyH_take (i := 6) (oi := { dst := some 11, op := Op.build 25 #[(0, Operand.tmp 7), (1, Operand.tmp 10)], type := 25, pos := "law.go:43", after := #[{ on := 2, ground := Ground.data }, { on := 5, ground := Ground.data }], guard := none }) (v := ?_) rfl (by kernel_rfl) (by kernel_rfl) (by kernel_rfl) (fun _ _ _ h => h) (Or.inl ⟨by rfl, ?_⟩) (by assumption) ?_
          rotate_left
          · intro w hSw; (try dsimp only at hSw); go_simp; all_goals (try with_reducible rfl)
          try simp only [Act.put, List.setIfInBounds_toArray, List.set_cons_zero, List.set_cons_succ]
          refine wpAnyH_ready (rs := [8]) (by kernel_rfl) (by simp) ?_
          refine AllReadyH.cons (o := { dst := none, op := Op.store 25 (Operand.tmp 3) (Operand.tmp 11), type := 0, pos := "law.go:43", after := #[{ on := 7, ground := Ground.data }, { on := 6, ground := Ground.data }, { on := 5, ground := Ground.chain }, { on := 0, ground := Ground.phase }, { on := 1, ground := Ground.phase }, { on := 2, ground := Ground.phase }, { on := 3, ground := Ground.phase }, { on := 4, ground := Ground.phase }, { on := 5, ground := Ground.phase }, { on := 6, ground := Ground.phase }, { on := 7, ground := Ground.phase }], guard := none }) rfl (fun K hK => ?_) ?_
          ·
            go_simp
            refine hK.out _ _ ?_ (fun hHeld => ?_)
            · (try dsimp only); exact HXS.out _ (((HKB.out.setCell (p := ⟨wA.heap.size, 0, none⟩) HKA.out.size _).setCell (p := ⟨wA.heap.size, 1, none⟩) HKA.out.size _).setCell (p := ⟨wA.heap.size, 2, none⟩) HKA.out.size _)
            clear hK K
            try simp only [Act.put, List.setIfInBounds_toArray, List.set_cons_zero, List.set_cons_succ]
            refine wpAnyH_done (by kernel_rfl) ?_ _
            refine NoPanic.normal ?_
            have HEN : Hid (Below X.heap.size X (((wB.setCell ⟨wA.heap.size, 0, none⟩ (.slice aA (O.take 30).length cA)).setCell ⟨wA.heap.size, 1, none⟩ (.slice aB (R.take 30).length cB)).setCell ⟨wA.heap.size, 2, none⟩ (.slice none 0 0))) := (((HKB.out.setCell (p := ⟨wA.heap.size, 0, none⟩) HKA.out.size _).setCell (p := ⟨wA.heap.size, 1, none⟩) HKA.out.size _).setCell (p := ⟨wA.heap.size, 2, none⟩) HKA.out.size _)
            have HNA2 := Lib.hid (own_set3 (own_kept HNA.out (((Below.refl _ _).alloc (Nat.le_refl _) _).trans (HBB.out.mono (by simp)))) (own_ne_ty (own_kept HNA.out (((Below.refl _ _).alloc (Nat.le_refl _) _).trans (HBB.out.mono (by simp)))) HE2.out (by decide)) (.slice aA (O.take 30).length cA) (.slice aB (R.take 30).length cB) (.slice none 0 0))
            have HNB2 := Lib.hid (own_set3 HNB.out (own_ne_ty HNB.out HE2.out (by decide)) (.slice aA (O.take 30).length cA) (.slice aB (R.take 30).length cB) (.slice none 0 0))
            simp only [List.length_take] at HNA2 HNB2 HEN
            go_wp2_with (fail)
            go_meet
            exact ⟨_, wA.heap.size, _, _, rfl, by first | rfl | simp, HKA.out.size, (by show World.ownsRow _ _ _ _ _ _ _; rw [List.length_take]; exact own_base HNA2.out (by have := HA.out.size; have : X.drew.heap.size = X.heap.size := rfl; first | omega | (simp; omega))), (by show World.ownsRow _ _ _ _ _ _ _; rw [List.length_take]; exact own_base HNB2.out (by have := HA.out.size; have := HKA.out.size; have : X.drew.heap.size = X.heap.size := rfl; first | omega | (simp; omega))), heap_set3 HE2.out _ _ _, HEN⟩
          exact AllReadyH.nil
        exact AllReadyH.nil
      exact AllReadyH.nil
    refine AllReadyH.cons (o := { dst := some 3, op := Op.alloc 25, type := 0, pos := "law.go:43", after := #[], guard := none }) rfl (fun K hK => ?_) ?_
    ·
      go_simp
      refine hK.out _ _ ?_ (fun hHeld => ?_)
      · (try dsimp only); exact HXS.out _ (HXD.out.alloc (HXD.out).size _)
      clear hK K
      try simp only [Act.put, List.setIfInBounds_toArray, List.set_cons_zero, List.set_cons_succ]
      refine wpAnyH_ready (rs := [2]) (by kernel_rfl) (by simp) ?_
      refine AllReadyH.cons (o := { dst := some 7, op := Op.call { callee := Callee.value (Operand.func 24), args := #[Operand.tmp 6], argTypes := #[22] }, type := 22, pos := "law.go:43", after := #[{ on := 1, ground := Ground.data }], guard := none }) rfl (fun K hK => ?_) ?_
      ·
        go_simp
        go_at_call 24
        refine (list_is O _ _ (HVa.out _ (HXD.out.alloc (HXD.out).size _))).mono ?_
        rintro e wA ⟨⟨vA, rfl, hN⟩, hB⟩
        have hBe : Below X.heap.size X wA := below_step (HXD.out.alloc (HXD.out).size _) hB
        have HNA : Hid (NewZ _ wA vA (O.take 30)) := hN
        have HKA := Lib.hid hBe
        have HBA := Lib.hid hB
        obtain ⟨aA, cA, hvA⟩ := hN.rd.shape
        subst hvA
        have hE : (X.drew.alloc (.cells #[.slice none 0 0, .slice none 0 0, .slice none 0 0] 25)).heap[X.drew.heap.size]? = some (.cells #[.slice none 0 0, .slice none 0 0, .slice none 0 0] 25 (0, 0)) := heap_alloc_new _ _
        have hl : X.drew.heap.size < (X.drew.alloc (.cells #[.slice none 0 0, .slice none 0 0, .slice none 0 0] 25)).heap.size := by simp
        have hE2 : wA.heap[X.heap.size]? = some (.cells #[.slice none 0 0, .slice none 0 0, .slice none 0 0] 25 (0, 0)) := (hB.block _ hl).trans hE
        have hl2 : X.heap.size < wA.heap.size := Nat.lt_of_lt_of_le hl hB.size
        have HE := Lib.hid (And.intro hE2 hl2)
        clear hE hl hE2 hl2
        clear hN hB hBe
        try go_wp2_with (fail)
        refine hK.out _ _ ?_ (fun hHeld => ?_)
        · (try dsimp only); exact HXS.out _ HKA.out
        clear hK K
        try simp only [Act.put, List.setIfInBounds_toArray, List.set_cons_zero, List.set_cons_succ]
        refine wpAnyH_ready (rs := [5]) (by kernel_rfl) (by simp) ?_
        refine AllReadyH.cons (o := { dst := some 10, op := Op.call { callee := Callee.value (Operand.func 24), args := #[Operand.tmp 9], argTypes := #[22] }, type := 22, pos := "law.go:43", after := #[{ on := 4, ground := Ground.data }, { on := 2, ground := Ground.chain }], guard := none }) rfl (fun K hK => ?_) ?_
        ·
          go_simp
          go_at_call 24
          refine (list_is R _ _ (HVb.out _ HKA.out)).mono ?_
          rintro e wB ⟨⟨vB, rfl, hN⟩, hB⟩
          have hBe : Below X.heap.size X wB := below_step HKA.out hB
          have HNB : Hid (NewZ _ wB vB (R.take 30)) := hN
          have HKB := Lib.hid hBe
          have HBB := Lib.hid hB
          obtain ⟨aB, cB, hvB⟩ := hN.rd.shape
          subst hvB
          have hE := HE.out.1
          have hl := HE.out.2
          have hE2 : wB.heap[X.heap.size]? = some (.cells #[.slice none 0 0, .slice none 0 0, .slice none 0 0] 25 (0, 0)) := (hB.block _ hl).trans hE
          have hl2 : X.heap.size < wB.heap.size := Nat.lt_of_lt_of_le hl hB.size
          have d0 : wB.cell? ⟨X.heap.size, 0, none⟩ = some (.slice none 0 0) := by simp [World.cell?, hE2]
          have d1 : wB.cell? ⟨X.heap.size, 1, none⟩ = some (.slice none 0 0) := by simp [World.cell?, hE2]
          have d2 : wB.cell? ⟨X.heap.size, 2, none⟩ = some (.slice none 0 0) := by simp [World.cell?, hE2]
          have f0 : wB.frozen? ⟨X.heap.size, 0, none⟩ = false := by simp [World.frozen?, hE2]
          have f1 : wB.frozen? ⟨X.heap.size, 1, none⟩ = false := by simp [World.frozen?, hE2]
          have f2 : wB.frozen? ⟨X.heap.size, 2, none⟩ = false := by simp [World.frozen?, hE2]
          have HE2 := Lib.hid hE2
          clear hE hl hE2 hl2
          clear hN hB hBe
          try go_wp2_with (fail)
          refine hK.out _ _ ?_ (fun hHeld => ?_)
          · (try dsimp only); exact HXS.out _ HKB.out
          clear hK K
          try simp only [Act.put, List.setIfInBounds_toArray, List.set_cons_zero, List.set_cons_succ]
          refine wpAnyH_take (i := 6) (oi := { dst := some 11, op := Op.build 25 #[(0, Operand.tmp 7), (1, Operand.tmp 10)], type := 25, pos := "law.go:43", after := #[{ on := 2, ground := Ground.data }, { on := 5, ground := Ground.data }], guard := none }) (v := ?_) rfl (by kernel_rfl) (by kernel_rfl) (by kernel_rfl) (fun _ _ _ h => h) (Or.inl ⟨by rfl, ?_⟩) (by assumption) ?_
          rotate_left
          · intro w hSw; (try dsimp only at hSw); go_simp; all_goals (try with_reducible rfl)
          try simp only [Act.put, List.setIfInBounds_toArray, List.set_cons_zero, List.set_cons_succ]
          refine wpAnyH_ready (rs := [8]) (by kernel_rfl) (by simp) ?_
          refine AllReadyH.cons (o := { dst := none, op := Op.store 25 (Operand.tmp 3) (Operand.tmp 11), type := 0, pos := "law.go:43", after := #[{ on := 7, ground := Ground.data }, { on := 6, ground := Ground.data }, { on := 5, ground := Ground.chain }, { on := 0, ground := Ground.phase }, { on := 1, ground := Ground.phase }, { on := 2, ground := Ground.phase }, { on := 3, ground := Ground.phase }, { on := 4, ground := Ground.phase }, { on := 5, ground := Ground.phase }, { on := 6, ground := Ground.phase }, { on := 7, ground := Ground.phase }], guard := none }) rfl (fun K hK => ?_) ?_
          ·
            go_simp
            refine hK.out _ _ ?_ (fun hHeld => ?_)
            · (try dsimp only); exact HXS.out _ (((HKB.out.setCell (p := ⟨X.heap.size, 0, none⟩) (Nat.le_refl _) _).setCell (p := ⟨X.heap.size, 1, none⟩) (Nat.le_refl _) _).setCell (p := ⟨X.heap.size, 2, none⟩) (Nat.le_refl _) _)
            clear hK K
            try simp only [Act.put, List.setIfInBounds_toArray, List.set_cons_zero, List.set_cons_succ]
            refine wpAnyH_done (by kernel_rfl) ?_ _
            refine NoPanic.normal ?_
            have HEN : Hid (Below X.heap.size X (((wB.setCell ⟨X.heap.size, 0, none⟩ (.slice aA (O.take 30).length cA)).setCell ⟨X.heap.size, 1, none⟩ (.slice aB (R.take 30).length cB)).setCell ⟨X.heap.size, 2, none⟩ (.slice none 0 0))) := (((HKB.out.setCell (p := ⟨X.heap.size, 0, none⟩) (Nat.le_refl _) _).setCell (p := ⟨X.heap.size, 1, none⟩) (Nat.le_refl _) _).setCell (p := ⟨X.heap.size, 2, none⟩) (Nat.le_refl _) _)
            have HNA2 := Lib.hid (own_set3 (own_kept HNA.out (HBB.out)) (own_ne_ty (own_kept HNA.out (HBB.out)) HE2.out (by decide)) (.slice aA (O.take 30).length cA) (.slice aB (R.take 30).length cB) (.slice none 0 0))
            have HNB2 := Lib.hid (own_set3 HNB.out (own_ne_ty HNB.out HE2.out (by decide)) (.slice aA (O.take 30).length cA) (.slice aB (R.take 30).length cB) (.slice none 0 0))
            simp only [List.length_take] at HNA2 HNB2 HEN
            go_wp2_with (fail)
            go_meet
            exact ⟨_, X.heap.size, _, _, rfl, by first | rfl | simp, (Nat.le_refl _), (by show World.ownsRow _ _ _ _ _ _ _; rw [List.length_take]; exact own_base HNA2.out (by have := HA.out.size; have : X.drew.heap.size = X.heap.size := rfl; first | omega | (simp; omega))), (by show World.ownsRow _ _ _ _ _ _ _; rw [List.length_take]; exact own_base HNB2.out (by have := HA.out.size; have := HKA.out.size; have : X.drew.heap.size = X.heap.size := rfl; first | omega | (simp; omega))), heap_set3 HE2.out _ _ _, HEN⟩
          exact AllReadyH.nil
        exact AllReadyH.nil
      exact AllReadyH.nil
    exact AllReadyH.nil
  case rest =>
    obtain ⟨w1, G, v1, v2, rfl, rfl, hG, HN1, HN2, hH, HB1⟩ := hcut
    obtain ⟨a1, c1, hv1⟩ := HN1.out.rd.shape
    obtain ⟨a2, c2, hv2⟩ := HN2.out.rd.shape
    subst hv1 hv2
    obtain ⟨b1, hb1⟩ : ∃ b, b = w.heap.size := ⟨_, rfl⟩
    have hXs2 : X.heap.size = b1 + 2 := by rw [hb1]; exact HXs.out
    have HBV : Hid (∀ W, Below X.heap.size X W → W.cell? ⟨b1, 2, none⟩ = some (.slice xn N.length cn)) := fun W h => by rw [h.cell (p := ⟨b1, 2, none⟩) (by show b1 < _; omega), hb1]; exact hcn
    have HGb : Hid (b1 < G) := by show _ < _; omega
    have HRB : Hid (∀ W, Below X.heap.size X W → W.heap[b1 + 1]? = some (.cells #[.slice none 0 0, .slice none 0 0, .slice none 0 0] 25 (0, 0))) := fun W h => by
      rw [h.block (b1 + 1) (by omega), HX.out, hb1]
      have h9 := heap_alloc_new (w.alloc (.cells #[.slice xa na ca, .slice xb nb cb, .slice xn N.length cn] 25)) (.cells #[.slice none 0 0, .slice none 0 0, .slice none 0 0] 25)
      rw [show (w.alloc (.cells #[.slice xa na ca, .slice xb nb cb, .slice xn N.length cn] 25)).heap.size = w.heap.size + 1 by simp] at h9
      exact h9
    have HGb2 : Hid (b1 + 2 ≤ G) := by show _ ≤ _; omega
    rw [← hb1]
    have HB1E := Lib.hid hb1
    obtain ⟨M, hM⟩ : ∃ M, M = (N.take 30).map fun l => l.take 30 := ⟨_, rfl⟩
    obtain ⟨n, hn9⟩ : ∃ n, n = N.length := ⟨_, rfl⟩
    have hMl : M.length = min n 30 := by rw [hM, List.length_map, List.length_take, hn9]; omega
    have HML := Lib.hid hMl
    have HME := Lib.hid hM
    have HNE := Lib.hid hn9
    have HNC : Hid (ArgZ X (.slice xn N.length cn) N) := hn.out.below HA.out
    rw [← hn9] at hnc HBV ⊢
    obtain ⟨i1, hi1, hy0, hy1, hy2⟩ := info_parts Try.infoS
    have HT0 : Hid (MxZ X w1 (.slice none 0 0) [] (M.take 0)) := MxZ.nil HB1.out
    clear hca hcb hcn hXs2 hb1 hM hn9 hMl HVa HVb HXS HXD hn ho hr
    go_wp2_with (fail)
    go_loopw [4] (fun iv wx => ∃ (i cp : Nat) (a : Option Addr) (vs : List Value), iv = .int .i64 i ∧ i ≤ n ∧ i ≤ 30 ∧ Hid (wx.heap[G]? = some (.cells #[.slice a1 (O.take 30).length c1, .slice a2 (R.take 30).length c2, .slice a i cp] 25 (0, 0))) ∧ Hid (NewZ w wx (.slice a1 (O.take 30).length c1) (O.take 30)) ∧ Hid (NewZ w wx (.slice a2 (R.take 30).length c2) (R.take 30)) ∧ Hid (MxZ X wx (.slice a i cp) vs (M.take i)) ∧ Hid (Below X.heap.size X wx)) (fun iv _ => n - (intOf iv).toNat)
    case atStart => exact ⟨0, 0, none, [], rfl, by omega, by omega, hH, HN1, HN2, HT0, HB1⟩
    case round =>
      obtain ⟨i, cp, a, vs, rfl, hi2, hi30, HH, HN1, HN2, HT, HB⟩ := hrel
      have cN : wr.cell? ⟨b1, 2, none⟩ = some (.slice xn n cn) := HBV.out _ HB.out
      have c0 : wr.cell? ⟨G, 0, none⟩ = some (.slice a1 (O.take 30).length c1) := by have h := HH.out; simp only [World.cell?, h]; rfl
      have c1' : wr.cell? ⟨G, 1, none⟩ = some (.slice a2 (R.take 30).length c2) := by have h := HH.out; simp only [World.cell?, h]; rfl
      have c2' : wr.cell? ⟨G, 2, none⟩ = some (.slice a i cp) := by have h := HH.out; simp only [World.cell?, h]; rfl
      have hin : i < n ∧ i < 30 ∨ ¬ (i < n ∧ i < 30) := Decidable.em _
      by_cases hin : i < n
      · have hin1 : (i : Int) < (n : Int) := by omega
        have hd1 : decide (i < n) = true := by simpa using hin
        by_cases hi3 : i < 30
        · have hi31 : (i : Int) < 30 := by omega
          have hd2 : decide ((i : Int) < 30) = true := by rw [decide_eq_true_iff]; omega
          have hiN : i < N.length := by rw [← HNE.out]; exact hin
          obtain ⟨xn', cn', e9, _, _, h4⟩ := HNC.out
          injection e9 with e9 _ e10
          subst e9 e10
          rcases h4 with h4 | ⟨bn, on, rfl, hbn, h7⟩
          · omega
          obtain ⟨u, h8, h9⟩ := h7 i hiN
          obtain ⟨L, hL⟩ : ∃ L, L = N.getD i [] := ⟨_, rfl⟩
          rw [← hL] at h9
          have cu : wr.cell? ⟨bn, on + i, none⟩ = some u := by rw [HB.out.cell (p := ⟨bn, on + i, none⟩) hbn]; exact h8
          have HU : Hid (∀ W, Below wr.heap.size wr W → ArgI W u L) := fun W h => (h9.below HB.out).below h
          have HTK : Hid (M.take (i + 1) = M.take i ++ [L.take 30]) := by
            show _ = _
            rw [List.take_succ_eq_append_getElem (by rw [HML.out]; omega)]
            congr 2
            simp [HME.out, hL, List.getD, hiN]
          have hGs : G < wr.heap.size := (Array.getElem?_eq_some_iff.1 HH.out).1
          obtain ⟨au, nu, cu', hu⟩ := h9.form
          subst hu
          have HHH := Lib.hid (And.intro h8 hbn)
          clear h7 h8 h9 hL hbn
          go_wp2_with (fail)
          have HKX : Hid (∀ W, Below X.heap.size X W → W.cell? ⟨b1, 2, none⟩ = some (.slice (some ⟨bn, on, none⟩) n cn) ∧ W.cell? ⟨bn, on + i, none⟩ = some (.slice au nu cu')) := fun W h => ⟨HBV.out _ h, by rw [h.cell (p := ⟨bn, on + i, none⟩) HHH.out.2]; exact HHH.out.1⟩
          have HGK : Hid (∀ W, Below wr.heap.size wr W → W.cell? ⟨G, 2, none⟩ = some (.slice a i cp)) := fun W h => by rw [h.cell (p := ⟨G, 2, none⟩) hGs]; exact c2'
          have HGX : Hid (X.heap.size ≤ G) := hG
          have HTL : Hid ((M.take i).length = i) := by show _ = _; rw [List.length_take, HML.out]; omega
          have HOX : Hid (∀ g, (Value.slice a i cp).ownBlock = some g → X.heap.size ≤ g) := fun g hg => (HT.out.own.lt g hg).1
          have HOC : Hid (∀ W, Below wr.heap.size wr W → W.ownsRow X.heap.size 22 1 (.slice a i cp) i vs) := fun W h => by have h9 := own_kept HT.out.own h; rw [HTL.out] at h9; exact h9
          refine wp_region_held_drew (S := (fun w' => (w'.cell? ⟨b1, 2, none⟩ = some (.slice (some ⟨bn, on, none⟩) n cn) ∧ w'.cell? ⟨bn, on + i, none⟩ = some (.slice au nu cu')))) (by kernel_rfl) ?_ (fun hHeld => ?_)
          · (try dsimp only); exact HKX.out _ HB.out.drew
          refine wpAnyH_take (i := 0) (oi := { dst := some 23, op := Op.fieldAddr 25 (Operand.tmp 3) 2, type := 0, pos := "law.go:45", after := #[], guard := none }) (v := ?_) rfl (by kernel_rfl) (by kernel_rfl) (by kernel_rfl) (fun _ _ _ h => h) (Or.inl ⟨by rfl, ?_⟩) (by assumption) ?_
          rotate_left
          · intro w hSw; (try dsimp only at hSw); go_simp; all_goals (try with_reducible rfl)
          try simp only [Act.put, List.setIfInBounds_toArray, List.set_cons_zero, List.set_cons_succ]
          refine wpAnyH_take (i := 2) (oi := { dst := some 25, op := Op.fieldAddr 25 (Operand.tmp 1) 2, type := 0, pos := "law.go:45", after := #[], guard := none }) (v := ?_) rfl (by kernel_rfl) (by kernel_rfl) (by kernel_rfl) (fun _ _ _ h => h) (Or.inl ⟨by rfl, ?_⟩) (by assumption) ?_
          rotate_left
          · intro w hSw; (try dsimp only at hSw); go_simp; all_goals (try with_reducible rfl)
          try simp only [Act.put, List.setIfInBounds_toArray, List.set_cons_zero, List.set_cons_succ]
          refine wpAnyH_take (i := 3) (oi := { dst := some 26, op := Op.load 23 (Operand.tmp 25), type := 23, pos := "law.go:45", after := #[{ on := 2, ground := Ground.data }], guard := none }) (v := ?_) rfl (by kernel_rfl) (by kernel_rfl) (by kernel_rfl) (fun _ _ _ h => h) (Or.inl ⟨by rfl, ?_⟩) (by assumption) ?_
          rotate_left
          · intro w hSw; (try dsimp only at hSw); go_simp; all_goals (try with_reducible rfl)
          try simp only [Act.put, List.setIfInBounds_toArray, List.set_cons_zero, List.set_cons_succ]
          refine wpAnyH_take (i := 4) (oi := { dst := some 27, op := Op.move (Operand.tmp 4), type := 3, pos := "law.go:45", after := #[], guard := none }) (v := ?_) rfl (by kernel_rfl) (by kernel_rfl) (by kernel_rfl) (fun _ _ _ h => h) (Or.inl ⟨by rfl, ?_⟩) (by assumption) ?_
          rotate_left
          · intro w hSw; (try dsimp only at hSw); go_simp; all_goals (try with_reducible rfl)
          try simp only [Act.put, List.setIfInBounds_toArray, List.set_cons_zero, List.set_cons_succ]
          refine wpAnyH_take (i := 5) (oi := { dst := some 28, op := Op.indexAddr 23 (Operand.tmp 26) (Operand.tmp 27), type := 0, pos := "law.go:45", after := #[{ on := 3, ground := Ground.data }, { on := 4, ground := Ground.data }], guard := none }) (v := ?_) rfl (by kernel_rfl) (by kernel_rfl) (by kernel_rfl) (fun _ _ _ h => h) (Or.inl ⟨by rfl, ?_⟩) (by assumption) ?_
          rotate_left
          · intro w hSw; (try dsimp only at hSw); go_simp; all_goals (try with_reducible rfl)
          try simp only [Act.put, List.setIfInBounds_toArray, List.set_cons_zero, List.set_cons_succ]
          refine wpAnyH_take (i := 6) (oi := { dst := some 29, op := Op.load 22 (Operand.tmp 28), type := 22, pos := "law.go:45", after := #[{ on := 5, ground := Ground.data }], guard := none }) (v := ?_) rfl (by kernel_rfl) (by kernel_rfl) (by kernel_rfl) (fun _ _ _ h => h) (Or.inl ⟨by rfl, ?_⟩) (by assumption) ?_
          rotate_left
          · intro w hSw; (try dsimp only at hSw); go_simp; all_goals (try with_reducible rfl)
          try simp only [Act.put, List.setIfInBounds_toArray, List.set_cons_zero, List.set_cons_succ]
          refine wpAnyH_ready (rs := [1, 7]) (by kernel_rfl) (by simp) ?_
          refine AllReadyH.cons (o := { dst := some 24, op := Op.load 23 (Operand.tmp 23), type := 23, pos := "law.go:45", after := #[{ on := 0, ground := Ground.data }], guard := none }) rfl (fun K hK => ?_) ?_
          ·
            have q0 := c2'
            go_simp
            refine hK.out _ _ ?_ (fun hHeld => ?_)
            · (try dsimp only); exact HKX.out _ HB.out.drew
            clear hK K
            try simp only [Act.put, List.setIfInBounds_toArray, List.set_cons_zero, List.set_cons_succ]
            refine wpAnyH_ready (rs := [7]) (by kernel_rfl) (by simp) ?_
            refine AllReadyH.cons (o := { dst := some 30, op := Op.call { callee := Callee.value (Operand.func 24), args := #[Operand.tmp 29], argTypes := #[22] }, type := 22, pos := "law.go:45", after := #[{ on := 6, ground := Ground.data }], guard := none }) rfl (fun K hK => ?_) ?_
            ·
              go_simp
              go_at_call 24
              refine (list_is L _ _ (HU.out _ (Below.refl _ _).drew)).mono ?_
              rintro e wC ⟨⟨vC, rfl, hN⟩, hB⟩
              have hBe : Below X.heap.size X wC := below_step HB.out.drew hB
              have hBw : Below wr.heap.size wr wC := below_step (Below.refl _ _).drew hB
              have HNC3 : Hid (NewZ _ wC vC (L.take 30)) := hN
              have HBC := Lib.hid hBe
              have HBW := Lib.hid hBw
              obtain ⟨aC, cC, hvC⟩ := hN.rd.shape
              subst hvC
              clear hN hB hBe hBw
              try go_wp2_with (fail)
              refine hK.out _ _ ?_ (fun hHeld => ?_)
              · (try dsimp only); exact HKX.out _ HBC.out
              clear hK K
              try simp only [Act.put, List.setIfInBounds_toArray, List.set_cons_zero, List.set_cons_succ]
              refine wpAnyH_ready (rs := [8]) (by kernel_rfl) (by simp) ?_
              refine AllReadyH.cons (o := { dst := some 31, op := Op.buildSlice 23 1 #[(0, Operand.tmp 30)], type := 23, pos := "law.go:45", after := #[{ on := 7, ground := Ground.data }], guard := none }) rfl (fun K hK => ?_) ?_
              ·
                go_simp
                refine hK.out _ _ ?_ (fun hHeld => ?_)
                · (try dsimp only); exact HKX.out _ (HBC.out.alloc HBC.out.size _)
                clear hK K
                try simp only [Act.put, List.setIfInBounds_toArray, List.set_cons_zero, List.set_cons_succ]
                refine wpAnyH_ready (rs := [9]) (by kernel_rfl) (by simp) ?_
                refine AllReadyH.cons (o := { dst := some 32, op := Op.call { callee := Callee.builtin Builtin.append, args := #[Operand.tmp 24, Operand.tmp 31], argTypes := #[23, 23] }, type := 23, pos := "law.go:45", after := #[{ on := 1, ground := Ground.data }, { on := 8, ground := Ground.data }, { on := 7, ground := Ground.chain }], guard := none }) rfl (fun K hK => ?_) ?_
                ·
                  refine step_append_lies _ (by rfl) _ _ _ (by rfl) X.heap.size 22 i1 (.slice none 0 0) 1 24 Try.underlying23 hi1 hy0 hy1 hy2 rfl (by omega) (.slice a i cp) i vs (by rfl) ((HOC.out _ HBW.out).alloc _) ⟨wC.heap.size, 0, none⟩ 1 1 [.slice aC (min 30 L.length) cC] (by rfl) (by rfl) (World.news_of_block (cs := #[.slice aC (min 30 L.length) cC]) (t := 22) (fr := (0, 0)) (heap_alloc_new wC _)) (by simp [Value.oneCell']) (by omega) (by unfold maxLen; omega) (by omega) (by have := HBW.out.size; have := HT.out.below.size; simp; omega) (wC.heap.size + 1) (by simp) ?_
                  intro gg cap w3 hown3 hgrow hat hlt3
                  have HBA : Hid (Below X.heap.size X w3) := (HBC.out.alloc HBC.out.size _).grown hgrow (Nat.le_trans HBC.out.size (by simp)) fun g hg => HOX.out g hg
                  have HG3 : Hid (w3.heap[G]? = some (.cells #[.slice a1 (O.take 30).length c1, .slice a2 (R.take 30).length c2, .slice a i cp] 25 (0, 0))) := by
                    show _ = _
                    rw [hgrow.block G (by have := HBW.out.size; simp; omega) (fun e => own_ne_ty HT.out.own HH.out (by decide) e.symm), ((HBW.out.alloc HBW.out.size (.cells #[.slice aC (min 30 L.length) cC] 22))).block G (by omega)]; exact HH.out
                  have HOW3 := Lib.hid (And.intro hown3 hgrow)
                  clear hown3 hgrow hat hlt3
                  refine hK.out _ _ ?_ (fun hHeld => ?_)
                  · (try dsimp only); exact HKX.out _ HBA.out
                  clear hK K
                  try simp only [Act.put, List.setIfInBounds_toArray, List.set_cons_zero, List.set_cons_succ]
                  refine wpAnyH_take (i := 10) (oi := { dst := some 33, op := Op.fieldAddr 25 (Operand.tmp 3) 2, type := 0, pos := "law.go:45", after := #[{ on := 0, ground := Ground.phase }, { on := 1, ground := Ground.phase }, { on := 2, ground := Ground.phase }, { on := 3, ground := Ground.phase }, { on := 4, ground := Ground.phase }, { on := 5, ground := Ground.phase }, { on := 6, ground := Ground.phase }, { on := 7, ground := Ground.phase }, { on := 8, ground := Ground.phase }, { on := 9, ground := Ground.phase }], guard := none }) (v := ?_) rfl (by kernel_rfl) (by kernel_rfl) (by kernel_rfl) (fun _ _ _ h => h) (Or.inl ⟨by rfl, ?_⟩) (by assumption) ?_
                  rotate_left
                  · intro w hSw; (try dsimp only at hSw); go_simp; all_goals (try with_reducible rfl)
                  try simp only [Act.put, List.setIfInBounds_toArray, List.set_cons_zero, List.set_cons_succ]
                  refine wpAnyH_ready (rs := [11]) (by kernel_rfl) (by simp) ?_
                  refine AllReadyH.cons (o := { dst := none, op := Op.store 23 (Operand.tmp 33) (Operand.tmp 32), type := 0, pos := "law.go:45", after := #[{ on := 10, ground := Ground.data }, { on := 9, ground := Ground.data }, { on := 9, ground := Ground.chain }, { on := 0, ground := Ground.phase }, { on := 1, ground := Ground.phase }, { on := 2, ground := Ground.phase }, { on := 3, ground := Ground.phase }, { on := 4, ground := Ground.phase }, { on := 5, ground := Ground.phase }, { on := 6, ground := Ground.phase }, { on := 7, ground := Ground.phase }, { on := 8, ground := Ground.phase }, { on := 9, ground := Ground.phase }], guard := none }) rfl (fun K hK => ?_) ?_
                  ·
                    have hG3 : w3.heap[G]? = some (.cells #[.slice a1 (O.take 30).length c1, .slice a2 (R.take 30).length c2, .slice a i cp] 25 (0, 0)) := HG3.out
                    have q2 : w3.cell? ⟨G, 2, none⟩ = some (.slice a i cp) := by simp only [World.cell?, hG3]; rfl
                    have q3 : w3.frozen? ⟨G, 2, none⟩ = false := by simp only [World.frozen?, hG3]; rfl
                    clear hG3
                    go_simp
                    refine hK.out _ _ ?_ (fun hHeld => ?_)
                    · (try dsimp only); exact HKX.out _ (HBA.out.setCell (p := ⟨G, 2, none⟩) HGX.out _)
                    clear hK K
                    try simp only [Act.put, List.setIfInBounds_toArray, List.set_cons_zero, List.set_cons_succ]
                    refine wpAnyH_done (by kernel_rfl) ?_ _
                    have HT3 : Hid (MxZ X w3 (.slice (some ⟨gg, 0, none⟩) (i + 1) cap) (vs ++ [.slice aC (L.take 30).length cC]) (M.take (i + 1))) := by
                      show MxZ _ _ _ _ _
                      rw [HTK.out]
                      exact (HT.out.low HBW.out).append (own_base HNC3.out (by have := HT.out.below.size; have : wr.drew.heap.size = wr.heap.size := rfl; omega)) (by rw [HTL.out, List.length_take]; exact HOW3.out.1) ((Below.refl _ _).alloc (Nat.le_refl _) _) HOW3.out.2
                    have hne := fun (v : Value) (Z : List Int) (h : NewZ w wr v Z) => own_ne_ty h HH.out (by decide)
                    have hk3 := fun (v : Value) (Z : List Int) (h : NewZ w wr v Z) => (show NewZ w w3 v Z from (own_kept (own_kept h HBW.out) ((Below.refl _ _).alloc (Nat.le_refl _) _)).kept HOW3.out.2 (own_ty_ne2 h HT.out.own (by decide)))
                    have HE1 : Hid (NewZ w (w3.setCell ⟨G, 2, none⟩ (.slice (some ⟨gg, 0, none⟩) (i + 1) cap)) (.slice a1 (O.take 30).length c1) (O.take 30)) := own_set_other (hk3 _ _ HN1.out) (hne _ _ HN1.out) _
                    have HE2 : Hid (NewZ w (w3.setCell ⟨G, 2, none⟩ (.slice (some ⟨gg, 0, none⟩) (i + 1) cap)) (.slice a2 (R.take 30).length c2) (R.take 30)) := own_set_other (hk3 _ _ HN2.out) (hne _ _ HN2.out) _
                    have HE3 := Lib.hid (HT3.out.setG (j := 2) (u := .slice (some ⟨gg, 0, none⟩) (i + 1) cap) HG3.out (by decide) (by decide) HGX.out)
                    have HE4 := Lib.hid (heap_set1 (i := 2) HG3.out (.slice (some ⟨gg, 0, none⟩) (i + 1) cap))
                    have HE5 : Hid (Below X.heap.size X (w3.setCell ⟨G, 2, none⟩ (.slice (some ⟨gg, 0, none⟩) (i + 1) cap))) := (HBA.out.setCell (p := ⟨G, 2, none⟩) HGX.out _)
                    clear hne hk3
                    go_wp2_with (fail)
                    go_roundw
                    case rel => exact ⟨i + 1, cap, some ⟨gg, 0, none⟩, _, by go_num, by omega, by omega, HE4, HE1, HE2, HE3, HE5⟩
                    case measure => simp [intOf]; omega
                  exact AllReadyH.nil
                exact AllReadyH.nil
              exact AllReadyH.nil
            exact AllReadyH.nil
          refine AllReadyH.cons (o := { dst := some 30, op := Op.call { callee := Callee.value (Operand.func 24), args := #[Operand.tmp 29], argTypes := #[22] }, type := 22, pos := "law.go:45", after := #[{ on := 6, ground := Ground.data }], guard := none }) rfl (fun K hK => ?_) ?_
          ·
            go_simp
            go_at_call 24
            refine (list_is L _ _ (HU.out _ (Below.refl _ _).drew)).mono ?_
            rintro e wC ⟨⟨vC, rfl, hN⟩, hB⟩
            have hBe : Below X.heap.size X wC := below_step HB.out.drew hB
            have hBw : Below wr.heap.size wr wC := below_step (Below.refl _ _).drew hB
            have HNC3 : Hid (NewZ _ wC vC (L.take 30)) := hN
            have HBC := Lib.hid hBe
            have HBW := Lib.hid hBw
            obtain ⟨aC, cC, hvC⟩ := hN.rd.shape
            subst hvC
            clear hN hB hBe hBw
            try go_wp2_with (fail)
            refine hK.out _ _ ?_ (fun hHeld => ?_)
            · (try dsimp only); exact HKX.out _ HBC.out
            clear hK K
            try simp only [Act.put, List.setIfInBounds_toArray, List.set_cons_zero, List.set_cons_succ]
            refine wpAnyH_ready (rs := [1, 8]) (by kernel_rfl) (by simp) ?_
            refine AllReadyH.cons (o := { dst := some 24, op := Op.load 23 (Operand.tmp 23), type := 23, pos := "law.go:45", after := #[{ on := 0, ground := Ground.data }], guard := none }) rfl (fun K hK => ?_) ?_
            ·
              have q0 := HGK.out _ HBW.out
              go_simp
              refine hK.out _ _ ?_ (fun hHeld => ?_)
              · (try dsimp only); exact HKX.out _ HBC.out
              clear hK K
              try simp only [Act.put, List.setIfInBounds_toArray, List.set_cons_zero, List.set_cons_succ]
              refine wpAnyH_ready (rs := [8]) (by kernel_rfl) (by simp) ?_
              refine AllReadyH.cons (o := { dst := some 31, op := Op.buildSlice 23 1 #[(0, Operand.tmp 30)], type := 23, pos := "law.go:45", after := #[{ on := 7, ground := Ground.data }], guard := none }) rfl (fun K hK => ?_) ?_
              ·
                go_simp
                refine hK.out _ _ ?_ (fun hHeld => ?_)
                · (try dsimp only); exact HKX.out _ (HBC.out.alloc HBC.out.size _)
                clear hK K
                try simp only [Act.put, List.setIfInBounds_toArray, List.set_cons_zero, List.set_cons_succ]
                refine wpAnyH_ready (rs := [9]) (by kernel_rfl) (by simp) ?_
                refine AllReadyH.cons (o := { dst := some 32, op := Op.call { callee := Callee.builtin Builtin.append, args := #[Operand.tmp 24, Operand.tmp 31], argTypes := #[23, 23] }, type := 23, pos := "law.go:45", after := #[{ on := 1, ground := Ground.data }, { on := 8, ground := Ground.data }, { on := 7, ground := Ground.chain }], guard := none }) rfl (fun K hK => ?_) ?_
                ·
                  refine step_append_lies _ (by rfl) _ _ _ (by rfl) X.heap.size 22 i1 (.slice none 0 0) 1 24 Try.underlying23 hi1 hy0 hy1 hy2 rfl (by omega) (.slice a i cp) i vs (by rfl) ((HOC.out _ HBW.out).alloc _) ⟨wC.heap.size, 0, none⟩ 1 1 [.slice aC (min 30 L.length) cC] (by rfl) (by rfl) (World.news_of_block (cs := #[.slice aC (min 30 L.length) cC]) (t := 22) (fr := (0, 0)) (heap_alloc_new wC _)) (by simp [Value.oneCell']) (by omega) (by unfold maxLen; omega) (by omega) (by have := HBW.out.size; have := HT.out.below.size; simp; omega) (wC.heap.size + 1) (by simp) ?_
                  intro gg cap w3 hown3 hgrow hat hlt3
                  have HBA : Hid (Below X.heap.size X w3) := (HBC.out.alloc HBC.out.size _).grown hgrow (Nat.le_trans HBC.out.size (by simp)) fun g hg => HOX.out g hg
                  have HG3 : Hid (w3.heap[G]? = some (.cells #[.slice a1 (O.take 30).length c1, .slice a2 (R.take 30).length c2, .slice a i cp] 25 (0, 0))) := by
                    show _ = _
                    rw [hgrow.block G (by have := HBW.out.size; simp; omega) (fun e => own_ne_ty HT.out.own HH.out (by decide) e.symm), ((HBW.out.alloc HBW.out.size (.cells #[.slice aC (min 30 L.length) cC] 22))).block G (by omega)]; exact HH.out
                  have HOW3 := Lib.hid (And.intro hown3 hgrow)
                  clear hown3 hgrow hat hlt3
                  refine hK.out _ _ ?_ (fun hHeld => ?_)
                  · (try dsimp only); exact HKX.out _ HBA.out
                  clear hK K
                  try simp only [Act.put, List.setIfInBounds_toArray, List.set_cons_zero, List.set_cons_succ]
                  refine wpAnyH_take (i := 10) (oi := { dst := some 33, op := Op.fieldAddr 25 (Operand.tmp 3) 2, type := 0, pos := "law.go:45", after := #[{ on := 0, ground := Ground.phase }, { on := 1, ground := Ground.phase }, { on := 2, ground := Ground.phase }, { on := 3, ground := Ground.phase }, { on := 4, ground := Ground.phase }, { on := 5, ground := Ground.phase }, { on := 6, ground := Ground.phase }, { on := 7, ground := Ground.phase }, { on := 8, ground := Ground.phase }, { on := 9, ground := Ground.phase }], guard := none }) (v := ?_) rfl (by kernel_rfl) (by kernel_rfl) (by kernel_rfl) (fun _ _ _ h => h) (Or.inl ⟨by rfl, ?_⟩) (by assumption) ?_
                  rotate_left
                  · intro w hSw; (try dsimp only at hSw); go_simp; all_goals (try with_reducible rfl)
                  try simp only [Act.put, List.setIfInBounds_toArray, List.set_cons_zero, List.set_cons_succ]
                  refine wpAnyH_ready (rs := [11]) (by kernel_rfl) (by simp) ?_
                  refine AllReadyH.cons (o := { dst := none, op := Op.store 23 (Operand.tmp 33) (Operand.tmp 32), type := 0, pos := "law.go:45", after := #[{ on := 10, ground := Ground.data }, { on := 9, ground := Ground.data }, { on := 9, ground := Ground.chain }, { on := 0, ground := Ground.phase }, { on := 1, ground := Ground.phase }, { on := 2, ground := Ground.phase }, { on := 3, ground := Ground.phase }, { on := 4, ground := Ground.phase }, { on := 5, ground := Ground.phase }, { on := 6, ground := Ground.phase }, { on := 7, ground := Ground.phase }, { on := 8, ground := Ground.phase }, { on := 9, ground := Ground.phase }], guard := none }) rfl (fun K hK => ?_) ?_
                  ·
                    have hG3 : w3.heap[G]? = some (.cells #[.slice a1 (O.take 30).length c1, .slice a2 (R.take 30).length c2, .slice a i cp] 25 (0, 0)) := HG3.out
                    have q2 : w3.cell? ⟨G, 2, none⟩ = some (.slice a i cp) := by simp only [World.cell?, hG3]; rfl
                    have q3 : w3.frozen? ⟨G, 2, none⟩ = false := by simp only [World.frozen?, hG3]; rfl
                    clear hG3
                    go_simp
                    refine hK.out _ _ ?_ (fun hHeld => ?_)
                    · (try dsimp only); exact HKX.out _ (HBA.out.setCell (p := ⟨G, 2, none⟩) HGX.out _)
                    clear hK K
                    try simp only [Act.put, List.setIfInBounds_toArray, List.set_cons_zero, List.set_cons_succ]
                    refine wpAnyH_done (by kernel_rfl) ?_ _
                    have HT3 : Hid (MxZ X w3 (.slice (some ⟨gg, 0, none⟩) (i + 1) cap) (vs ++ [.slice aC (L.take 30).length cC]) (M.take (i + 1))) := by
                      show MxZ _ _ _ _ _
                      rw [HTK.out]
                      exact (HT.out.low HBW.out).append (own_base HNC3.out (by have := HT.out.below.size; have : wr.drew.heap.size = wr.heap.size := rfl; omega)) (by rw [HTL.out, List.length_take]; exact HOW3.out.1) ((Below.refl _ _).alloc (Nat.le_refl _) _) HOW3.out.2
                    have hne := fun (v : Value) (Z : List Int) (h : NewZ w wr v Z) => own_ne_ty h HH.out (by decide)
                    have hk3 := fun (v : Value) (Z : List Int) (h : NewZ w wr v Z) => (show NewZ w w3 v Z from (own_kept (own_kept h HBW.out) ((Below.refl _ _).alloc (Nat.le_refl _) _)).kept HOW3.out.2 (own_ty_ne2 h HT.out.own (by decide)))
                    have HE1 : Hid (NewZ w (w3.setCell ⟨G, 2, none⟩ (.slice (some ⟨gg, 0, none⟩) (i + 1) cap)) (.slice a1 (O.take 30).length c1) (O.take 30)) := own_set_other (hk3 _ _ HN1.out) (hne _ _ HN1.out) _
                    have HE2 : Hid (NewZ w (w3.setCell ⟨G, 2, none⟩ (.slice (some ⟨gg, 0, none⟩) (i + 1) cap)) (.slice a2 (R.take 30).length c2) (R.take 30)) := own_set_other (hk3 _ _ HN2.out) (hne _ _ HN2.out) _
                    have HE3 := Lib.hid (HT3.out.setG (j := 2) (u := .slice (some ⟨gg, 0, none⟩) (i + 1) cap) HG3.out (by decide) (by decide) HGX.out)
                    have HE4 := Lib.hid (heap_set1 (i := 2) HG3.out (.slice (some ⟨gg, 0, none⟩) (i + 1) cap))
                    have HE5 : Hid (Below X.heap.size X (w3.setCell ⟨G, 2, none⟩ (.slice (some ⟨gg, 0, none⟩) (i + 1) cap))) := (HBA.out.setCell (p := ⟨G, 2, none⟩) HGX.out _)
                    clear hne hk3
                    go_wp2_with (fail)
                    go_roundw
                    case rel => exact ⟨i + 1, cap, some ⟨gg, 0, none⟩, _, by go_num, by omega, by omega, HE4, HE1, HE2, HE3, HE5⟩
                    case measure => simp [intOf]; omega
                  exact AllReadyH.nil
                exact AllReadyH.nil
              exact AllReadyH.nil
            refine AllReadyH.cons (o := { dst := some 31, op := Op.buildSlice 23 1 #[(0, Operand.tmp 30)], type := 23, pos := "law.go:45", after := #[{ on := 7, ground := Ground.data }], guard := none }) rfl (fun K hK => ?_) ?_
            ·
              go_simp
              refine hK.out _ _ ?_ (fun hHeld => ?_)
              · (try dsimp only); exact HKX.out _ (HBC.out.alloc HBC.out.size _)
              clear hK K
              try simp only [Act.put, List.setIfInBounds_toArray, List.set_cons_zero, List.set_cons_succ]
              refine wpAnyH_ready (rs := [1]) (by kernel_rfl) (by simp) ?_
              refine AllReadyH.cons (o := { dst := some 24, op := Op.load 23 (Operand.tmp 23), type := 23, pos := "law.go:45", after := #[{ on := 0, ground := Ground.data }], guard := none }) rfl (fun K hK => ?_) ?_
              ·
                have q0 := HGK.out _ HBW.out
                have q1 := HGK.out _ (HBW.out.alloc HBW.out.size (.cells #[.slice aC (L.take 30).length cC] 22))
                simp only [List.length_take] at q1
                go_simp
                refine hK.out _ _ ?_ (fun hHeld => ?_)
                · (try dsimp only); exact HKX.out _ (HBC.out.alloc HBC.out.size _)
                clear hK K
                try simp only [Act.put, List.setIfInBounds_toArray, List.set_cons_zero, List.set_cons_succ]
                refine wpAnyH_ready (rs := [9]) (by kernel_rfl) (by simp) ?_
                refine AllReadyH.cons (o := { dst := some 32, op := Op.call { callee := Callee.builtin Builtin.append, args := #[Operand.tmp 24, Operand.tmp 31], argTypes := #[23, 23] }, type := 23, pos := "law.go:45", after := #[{ on := 1, ground := Ground.data }, { on := 8, ground := Ground.data }, { on := 7, ground := Ground.chain }], guard := none }) rfl (fun K hK => ?_) ?_
                ·
                  refine step_append_lies _ (by rfl) _ _ _ (by rfl) X.heap.size 22 i1 (.slice none 0 0) 1 24 Try.underlying23 hi1 hy0 hy1 hy2 rfl (by omega) (.slice a i cp) i vs (by rfl) ((HOC.out _ HBW.out).alloc _) ⟨wC.heap.size, 0, none⟩ 1 1 [.slice aC (min 30 L.length) cC] (by rfl) (by rfl) (World.news_of_block (cs := #[.slice aC (min 30 L.length) cC]) (t := 22) (fr := (0, 0)) (heap_alloc_new wC _)) (by simp [Value.oneCell']) (by omega) (by unfold maxLen; omega) (by omega) (by have := HBW.out.size; have := HT.out.below.size; simp; omega) (wC.heap.size + 1) (by simp) ?_
                  intro gg cap w3 hown3 hgrow hat hlt3
                  have HBA : Hid (Below X.heap.size X w3) := (HBC.out.alloc HBC.out.size _).grown hgrow (Nat.le_trans HBC.out.size (by simp)) fun g hg => HOX.out g hg
                  have HG3 : Hid (w3.heap[G]? = some (.cells #[.slice a1 (O.take 30).length c1, .slice a2 (R.take 30).length c2, .slice a i cp] 25 (0, 0))) := by
                    show _ = _
                    rw [hgrow.block G (by have := HBW.out.size; simp; omega) (fun e => own_ne_ty HT.out.own HH.out (by decide) e.symm), ((HBW.out.alloc HBW.out.size (.cells #[.slice aC (min 30 L.length) cC] 22))).block G (by omega)]; exact HH.out
                  have HOW3 := Lib.hid (And.intro hown3 hgrow)
                  clear hown3 hgrow hat hlt3
                  refine hK.out _ _ ?_ (fun hHeld => ?_)
                  · (try dsimp only); exact HKX.out _ HBA.out
                  clear hK K
                  try simp only [Act.put, List.setIfInBounds_toArray, List.set_cons_zero, List.set_cons_succ]
                  refine wpAnyH_take (i := 10) (oi := { dst := some 33, op := Op.fieldAddr 25 (Operand.tmp 3) 2, type := 0, pos := "law.go:45", after := #[{ on := 0, ground := Ground.phase }, { on := 1, ground := Ground.phase }, { on := 2, ground := Ground.phase }, { on := 3, ground := Ground.phase }, { on := 4, ground := Ground.phase }, { on := 5, ground := Ground.phase }, { on := 6, ground := Ground.phase }, { on := 7, ground := Ground.phase }, { on := 8, ground := Ground.phase }, { on := 9, ground := Ground.phase }], guard := none }) (v := ?_) rfl (by kernel_rfl) (by kernel_rfl) (by kernel_rfl) (fun _ _ _ h => h) (Or.inl ⟨by rfl, ?_⟩) (by assumption) ?_
                  rotate_left
                  · intro w hSw; (try dsimp only at hSw); go_simp; all_goals (try with_reducible rfl)
                  try simp only [Act.put, List.setIfInBounds_toArray, List.set_cons_zero, List.set_cons_succ]
                  refine wpAnyH_ready (rs := [11]) (by kernel_rfl) (by simp) ?_
                  refine AllReadyH.cons (o := { dst := none, op := Op.store 23 (Operand.tmp 33) (Operand.tmp 32), type := 0, pos := "law.go:45", after := #[{ on := 10, ground := Ground.data }, { on := 9, ground := Ground.data }, { on := 9, ground := Ground.chain }, { on := 0, ground := Ground.phase }, { on := 1, ground := Ground.phase }, { on := 2, ground := Ground.phase }, { on := 3, ground := Ground.phase }, { on := 4, ground := Ground.phase }, { on := 5, ground := Ground.phase }, { on := 6, ground := Ground.phase }, { on := 7, ground := Ground.phase }, { on := 8, ground := Ground.phase }, { on := 9, ground := Ground.phase }], guard := none }) rfl (fun K hK => ?_) ?_
                  ·
                    have hG3 : w3.heap[G]? = some (.cells #[.slice a1 (O.take 30).length c1, .slice a2 (R.take 30).length c2, .slice a i cp] 25 (0, 0)) := HG3.out
                    have q2 : w3.cell? ⟨G, 2, none⟩ = some (.slice a i cp) := by simp only [World.cell?, hG3]; rfl
                    have q3 : w3.frozen? ⟨G, 2, none⟩ = false := by simp only [World.frozen?, hG3]; rfl
                    clear hG3
                    go_simp
                    refine hK.out _ _ ?_ (fun hHeld => ?_)
                    · (try dsimp only); exact HKX.out _ (HBA.out.setCell (p := ⟨G, 2, none⟩) HGX.out _)
                    clear hK K
                    try simp only [Act.put, List.setIfInBounds_toArray, List.set_cons_zero, List.set_cons_succ]
                    refine wpAnyH_done (by kernel_rfl) ?_ _
                    have HT3 : Hid (MxZ X w3 (.slice (some ⟨gg, 0, none⟩) (i + 1) cap) (vs ++ [.slice aC (L.take 30).length cC]) (M.take (i + 1))) := by
                      show MxZ _ _ _ _ _
                      rw [HTK.out]
                      exact (HT.out.low HBW.out).append (own_base HNC3.out (by have := HT.out.below.size; have : wr.drew.heap.size = wr.heap.size := rfl; omega)) (by rw [HTL.out, List.length_take]; exact HOW3.out.1) ((Below.refl _ _).alloc (Nat.le_refl _) _) HOW3.out.2
                    have hne := fun (v : Value) (Z : List Int) (h : NewZ w wr v Z) => own_ne_ty h HH.out (by decide)
                    have hk3 := fun (v : Value) (Z : List Int) (h : NewZ w wr v Z) => (show NewZ w w3 v Z from (own_kept (own_kept h HBW.out) ((Below.refl _ _).alloc (Nat.le_refl _) _)).kept HOW3.out.2 (own_ty_ne2 h HT.out.own (by decide)))
                    have HE1 : Hid (NewZ w (w3.setCell ⟨G, 2, none⟩ (.slice (some ⟨gg, 0, none⟩) (i + 1) cap)) (.slice a1 (O.take 30).length c1) (O.take 30)) := own_set_other (hk3 _ _ HN1.out) (hne _ _ HN1.out) _
                    have HE2 : Hid (NewZ w (w3.setCell ⟨G, 2, none⟩ (.slice (some ⟨gg, 0, none⟩) (i + 1) cap)) (.slice a2 (R.take 30).length c2) (R.take 30)) := own_set_other (hk3 _ _ HN2.out) (hne _ _ HN2.out) _
                    have HE3 := Lib.hid (HT3.out.setG (j := 2) (u := .slice (some ⟨gg, 0, none⟩) (i + 1) cap) HG3.out (by decide) (by decide) HGX.out)
                    have HE4 := Lib.hid (heap_set1 (i := 2) HG3.out (.slice (some ⟨gg, 0, none⟩) (i + 1) cap))
                    have HE5 : Hid (Below X.heap.size X (w3.setCell ⟨G, 2, none⟩ (.slice (some ⟨gg, 0, none⟩) (i + 1) cap))) := (HBA.out.setCell (p := ⟨G, 2, none⟩) HGX.out _)
                    clear hne hk3
                    go_wp2_with (fail)
                    go_roundw
                    case rel => exact ⟨i + 1, cap, some ⟨gg, 0, none⟩, _, by go_num, by omega, by omega, HE4, HE1, HE2, HE3, HE5⟩
                    case measure => simp [intOf]; omega
                  exact AllReadyH.nil
                exact AllReadyH.nil
              exact AllReadyH.nil
            exact AllReadyH.nil
          exact AllReadyH.nil
        · have hd2 : decide ((i : Int) < 30) = false := by rw [decide_eq_false_iff_not]; omega
          obtain rfl : i = 30 := by omega
          have HTE : Hid (M.take 30 = M) := List.take_of_length_le (by rw [HML.out]; omega)
          have HRR := Lib.hid (HRB.out _ HB.out)
          have e0 : wr.cell? ⟨b1 + 1, 0, none⟩ = some (.slice none 0 0) := by have h := HRR.out; simp only [World.cell?, h]; rfl
          have e1 : wr.cell? ⟨b1 + 1, 1, none⟩ = some (.slice none 0 0) := by have h := HRR.out; simp only [World.cell?, h]; rfl
          have e2 : wr.cell? ⟨b1 + 1, 2, none⟩ = some (.slice none 0 0) := by have h := HRR.out; simp only [World.cell?, h]; rfl
          have f0 : wr.frozen? ⟨b1 + 1, 0, none⟩ = false := by have h := HRR.out; simp only [World.frozen?, h]; rfl
          have f1 : wr.frozen? ⟨b1 + 1, 1, none⟩ = false := by have h := HRR.out; simp only [World.frozen?, h]; rfl
          have f2 : wr.frozen? ⟨b1 + 1, 2, none⟩ = false := by have h := HRR.out; simp only [World.frozen?, h]; rfl
          have hGb : ¬ G = b1 + 1 := by have := HGb2.out; omega
          go_wp2_with (fail)
          have hE := heap_set3 HRR.out (.slice a1 (O.take 30).length c1) (.slice a2 (R.take 30).length c2) (.slice a 30 cp)
          simp only [List.length_take] at hE
          refine bodyPost_ret (results_cell_row Try.results16 _ _ (b1 + 1) _ _ _ _ rfl hE Try.underlying25 rfl Try.infoG) rfl ?_
          have hbw : w.heap.size ≤ b1 + 1 := by have := HB1E.out; omega
          have r1 := own_set3 HN1.out (own_ne_ty HN1.out HRR.out (by decide)) (.slice a1 (O.take 30).length c1) (.slice a2 (R.take 30).length c2) (.slice a 30 cp)
          have r2 := own_set3 HN2.out (own_ne_ty HN2.out HRR.out (by decide)) (.slice a1 (O.take 30).length c1) (.slice a2 (R.take 30).length c2) (.slice a 30 cp)
          have r3 := ((((HT.out.from HA.out).setG (j := 0) (u := .slice a1 (O.take 30).length c1) HRR.out (by decide) (by decide) hbw).setG (j := 1) (u := .slice a2 (R.take 30).length c2) (heap_set1 HRR.out _) (by decide) (by decide) hbw).setG (j := 2) (u := .slice a 30 cp) (heap_set1 (heap_set1 HRR.out _) _) (by decide) (by decide) hbw)
          have r4 := ((((HA.out.trans (HB.out.mono HA.out.size)).setCell (p := ⟨b1 + 1, 0, none⟩) hbw (.slice a1 (O.take 30).length c1)).setCell (p := ⟨b1 + 1, 1, none⟩) hbw (.slice a2 (R.take 30).length c2)).setCell (p := ⟨b1 + 1, 2, none⟩) hbw (.slice a 30 cp))
          rw [HTE.out, HME.out] at r3
          simp only [List.length_take] at r1 r2 r3 r4
          refine ⟨⟨_, _, _, _, rfl, ?_, ?_, r3⟩, r4⟩
          · show World.ownsRow _ _ _ _ _ _ _; rw [List.length_take]; exact r1
          · show World.ownsRow _ _ _ _ _ _ _; rw [List.length_take]; exact r2
      · have hd1 : decide (i < n) = false := by simpa using hin
        obtain rfl : i = n := by omega
        have HTE : Hid (M.take i = M) := List.take_of_length_le (by rw [HML.out]; omega)
        have HRR := Lib.hid (HRB.out _ HB.out)
        have e0 : wr.cell? ⟨b1 + 1, 0, none⟩ = some (.slice none 0 0) := by have h := HRR.out; simp only [World.cell?, h]; rfl
        have e1 : wr.cell? ⟨b1 + 1, 1, none⟩ = some (.slice none 0 0) := by have h := HRR.out; simp only [World.cell?, h]; rfl
        have e2 : wr.cell? ⟨b1 + 1, 2, none⟩ = some (.slice none 0 0) := by have h := HRR.out; simp only [World.cell?, h]; rfl
        have f0 : wr.frozen? ⟨b1 + 1, 0, none⟩ = false := by have h := HRR.out; simp only [World.frozen?, h]; rfl
        have f1 : wr.frozen? ⟨b1 + 1, 1, none⟩ = false := by have h := HRR.out; simp only [World.frozen?, h]; rfl
        have f2 : wr.frozen? ⟨b1 + 1, 2, none⟩ = false := by have h := HRR.out; simp only [World.frozen?, h]; rfl
        have hGb : ¬ G = b1 + 1 := by have := HGb2.out; omega
        go_wp2_with (fail)
        have hE := heap_set3 HRR.out (.slice a1 (O.take 30).length c1) (.slice a2 (R.take 30).length c2) (.slice a i cp)
        simp only [List.length_take] at hE
        refine bodyPost_ret (results_cell_row Try.results16 _ _ (b1 + 1) _ _ _ _ rfl hE Try.underlying25 rfl Try.infoG) rfl ?_
        have hbw : w.heap.size ≤ b1 + 1 := by have := HB1E.out; omega
        have r1 := own_set3 HN1.out (own_ne_ty HN1.out HRR.out (by decide)) (.slice a1 (O.take 30).length c1) (.slice a2 (R.take 30).length c2) (.slice a i cp)
        have r2 := own_set3 HN2.out (own_ne_ty HN2.out HRR.out (by decide)) (.slice a1 (O.take 30).length c1) (.slice a2 (R.take 30).length c2) (.slice a i cp)
        have r3 := ((((HT.out.from HA.out).setG (j := 0) (u := .slice a1 (O.take 30).length c1) HRR.out (by decide) (by decide) hbw).setG (j := 1) (u := .slice a2 (R.take 30).length c2) (heap_set1 HRR.out _) (by decide) (by decide) hbw).setG (j := 2) (u := .slice a i cp) (heap_set1 (heap_set1 HRR.out _) _) (by decide) (by decide) hbw)
        have r4 := ((((HA.out.trans (HB.out.mono HA.out.size)).setCell (p := ⟨b1 + 1, 0, none⟩) hbw (.slice a1 (O.take 30).length c1)).setCell (p := ⟨b1 + 1, 1, none⟩) hbw (.slice a2 (R.take 30).length c2)).setCell (p := ⟨b1 + 1, 2, none⟩) hbw (.slice a i cp))
        rw [HTE.out, HME.out] at r3
        simp only [List.length_take] at r1 r2 r3 r4
        refine ⟨⟨_, _, _, _, rfl, ?_, ?_, r3⟩, r4⟩
        · show World.ownsRow _ _ _ _ _ _ _; rw [List.length_take]; exact r1
        · show World.ownsRow _ _ _ _ _ _ _; rw [List.length_take]; exact r2

end Go.Proofs.Ytahhkbdodgjaeaa
