/- Check answers as the definition of a right family says. No condition. -/
import Derived.Test.YtapidabhdbjnmaaRows
import Derived.Test.YtapidabhdbjnmaaChecked
import Derived.Test.YtapidabhdbjnmaaKg
import Derived.Test.YtapidabhdbjnmaaAwake
import Derived.ProofKit
import Derived.OpenShut
import Derived.BigRegion
namespace Go.Proofs.Ytapidabhdbjnmaa
open Go.RowKit

theorem own_ne_ty {w : World} {base size n G : Nat} {e t : TypeId} {v : Value} {xs : List Value} {c : Array Value} {f : Nat × Nat} (h : w.ownsRow base e size v n xs) (hG : w.heap[G]? = some (.cells c t f)) (hne : e ≠ t) : v.ownBlock ≠ some G := by
  intro hb
  rcases h.2 with ⟨rfl, _⟩ | ⟨k, cp, cur, h3, _, h5, _⟩
  · simp [Value.ownBlock] at hb
  · rw [h3] at hb
    simp [Value.ownBlock] at hb
    subst hb
    rw [h5] at hG
    injection hG with hG
    injection hG with _ hG _
    exact hne hG
theorem own_set2 {w : World} {base size n G : Nat} {e : TypeId} {v : Value} {xs : List Value} (h : w.ownsRow base e size v n xs) (hn : v.ownBlock ≠ some G) (x y : Value) : ((w.setCell ⟨G, 0, none⟩ x).setCell ⟨G, 1, none⟩ y).ownsRow base e size v n xs :=
  own_set_other (own_set_other h hn _) hn _
theorem heap_set1 {w : World} {G i : Nat} {c : Array Value} {t : TypeId} {f : Nat × Nat} (h : w.heap[G]? = some (.cells c t f)) (x : Value) : (w.setCell ⟨G, i, none⟩ x).heap[G]? = some (.cells (c.setIfInBounds i x) t f) := by
  show (w.heap.modify G _)[G]? = _
  rw [Array.getElem?_modify, if_pos rfl, h]
  rfl
theorem heap_set2 {w : World} {G : Nat} {a b : Value} {t : TypeId} (h : w.heap[G]? = some (.cells #[a, b] t (0, 0))) (x y : Value) : ((w.setCell ⟨G, 0, none⟩ x).setCell ⟨G, 1, none⟩ y).heap[G]? = some (.cells #[x, y] t (0, 0)) :=
  heap_set1 (heap_set1 h x) y
theorem MxZ.rdSet {w wr : World} {G : Nat} {v : Value} {vs : List Value} {Ms : List (List Int)} {c : Array Value} {t : TypeId} {f : Nat × Nat} (h : MxZ w wr v vs Ms) (hG : wr.heap[G]? = some (.cells c t f)) (h1 : 3 ≠ t) (h2 : 22 ≠ t) (x y : Value) : RdZ ((wr.setCell ⟨G, 0, none⟩ x).setCell ⟨G, 1, none⟩ y) v Ms :=
  ⟨vs, Rd.of_own (own_set2 h.own (own_ne_ty h.own hG h2) x y), fun i hi hi' =>
    have h9 := h.rows i _ _ (List.getElem?_eq_getElem hi') (List.getElem?_eq_getElem hi)
    Rd.of_own (own_set2 h9 (own_ne_ty h9 hG h1) x y)⟩
theorem cut61_le (N : List (List Int)) : (cut61 N).length ≤ 61 ∧ ∀ Y ∈ cut61 N, Y.length ≤ 61 := by
  unfold cut61
  refine ⟨by rw [List.length_map, List.length_take]; omega, fun Y hY => ?_⟩
  obtain ⟨l, _, rfl⟩ := List.mem_map.1 hY
  rw [List.length_take]; omega

namespace tableauChecks
open Go.ChangeShapes Go.WideShapes Go.ChangeAt Go.RowKit

theorem own : ownKnob Try.prog.godebug = none := by kernel_rfl

set_option maxRecDepth 100000 in
set_option maxHeartbeats 4000000 in
theorem walk (v va vb : Value) (k : Int) (Z0 : List Int) (A0 B0 : List (List Int)) (w : World) (hv : Hid (ArgI w v Z0)) (ha : Hid (ArgZ w va A0)) (hb0 : Hid (ArgZ w vb B0)) :
    Calls Try.prog 7 #[v, .int .i64 k, .agg #[va, vb]] w fun e w' => e = .returned (.bool true) ∧ Below w.heap.size w w' := by
  obtain ⟨x0, n0, c0, hs0⟩ := hv.out.form
  obtain ⟨xa, ca, hsa, _⟩ := ha.out
  obtain ⟨xb, cb, hsb, _⟩ := hb0.out
  subst hs0 hsa hsb
  obtain ⟨na, hna⟩ : ∃ n, n = A0.length := ⟨_, rfl⟩
  obtain ⟨nb, hnb⟩ : ∃ n, n = B0.length := ⟨_, rfl⟩
  rw [← hna] at ha ⊢
  rw [← hnb] at hb0 ⊢
  obtain ⟨b, hb⟩ : ∃ b, b = w.heap.size := ⟨_, rfl⟩
  obtain ⟨X, hX⟩ : ∃ X, X = w.alloc (.cells #[.slice xa na ca, .slice xb nb cb] 41) := ⟨_, rfl⟩
  have HX : Hid (Below w.heap.size w X) := by rw [hX]; exact (Below.refl _ _).alloc (Nat.le_refl _) _
  have HQ : Hid (X.heap[b]? = some (.cells #[.slice xa na ca, .slice xb nb cb] 41 (0, 0))) := by rw [hX, hb]; exact heap_alloc_new _ _
  have HPS : Hid (b < X.heap.size) := (Array.getElem?_eq_some_iff.1 HQ.out).1
  have HXS : Hid (∀ W', Below X.heap.size X W' → W'.cell? ⟨b, 0, none⟩ = some (.slice xa na ca) ∧ W'.cell? ⟨b, 1, none⟩ = some (.slice xb nb cb)) := fun W' h => by
    refine cell2 (T := 41) (k := (0, 0)) ?_
    rw [h.block b HPS.out]; exact HQ.out
  have HXD : Hid (Below X.heap.size X X.drew) := (Below.refl _ _).drew
  obtain ⟨W, hW⟩ : ∃ W, W = Z0.take 61 := ⟨_, rfl⟩
  obtain ⟨A, hA⟩ : ∃ A, A = cut61 A0 := ⟨_, rfl⟩
  obtain ⟨B, hB⟩ : ∃ B, B = cut61 B0 := ⟨_, rfl⟩
  have hl : W.length ≤ 61 := by rw [hW, List.length_take]; omega
  have hla : A.length ≤ 61 := by rw [hA]; exact (cut61_le A0).1
  have hlb : B.length ≤ 61 := by rw [hB]; exact (cut61_le B0).1
  have hra : Hid (∀ Z ∈ A, Z.length ≤ 61) := by show ∀ Z ∈ A, _; rw [hA]; exact (cut61_le A0).2
  have hrb : Hid (∀ Z ∈ B, Z.length ≤ 61) := by show ∀ Z ∈ B, _; rw [hB]; exact (cut61_le B0).2
  have HOW : Hid (∀ W1, Below X.heap.size X W1 → Calls Try.prog 21 #[.slice x0 n0 c0] W1 fun x w' => (∃ v', x = .returned v' ∧ NewZ W1 w' v' W) ∧ Below W1.heap.size W1 w') := fun W1 h => by
    rw [hW]; exact own_is Z0 _ W1 ((hv.out.below HX.out).below h)
  have HRA : Hid (∀ W1, Below X.heap.size X W1 → Calls Try.prog 12 #[.slice xa na ca] W1 fun e w' => ∃ v' vs, e = .returned v' ∧ MxZ W1 w' v' vs A) := fun W1 h => by
    rw [hA]; exact rows_is A0 _ W1 ((ha.out.below HX.out).below h)
  have HRB : Hid (∀ W1, Below X.heap.size X W1 → Calls Try.prog 12 #[.slice xb nb cb] W1 fun e w' => ∃ v' vs, e = .returned v' ∧ MxZ W1 w' v' vs B) := fun W1 h => by
    rw [hB]; exact rows_is B0 _ W1 ((hb0.out.below HX.out).below h)
  have HL := Lib.hid (And.intro hl (And.intro hla hlb))
  clear hv ha hb0 hna hnb hW hA hB hl hla hlb
  go_enter Try.func7, Try.ntmps7
  go_upto_region 1 with fail
  rw [← hb, ← hX]
  clear hX hb
  go_cut [7, 8] (fun sv pv wx => ∃ (W5 : World) (G : Nat) (v1 vA vB : Value), W5 = wx ∧ sv = v1 ∧ pv = .pointer (some ⟨G, 0, none⟩) ∧ X.heap.size ≤ G ∧ Hid (Rd wx v1 1 W.length (zs W)) ∧ Hid (RdZ wx vA A) ∧ Hid (RdZ wx vB B) ∧ Hid (wx.heap[G]? = some (.cells #[vA, vB] 41 (0, 0))) ∧ Hid (Below X.heap.size X wx))
  case first =>
    refine wp_region_noPanic ?_
    refine wp_region_held_drew (S := (fun w' => (w'.cell? ⟨b, 0, none⟩ = some (.slice xa na ca) ∧ w'.cell? ⟨b, 1, none⟩ = some (.slice xb nb cb)))) (by kernel_rfl) ?_ (fun hHeld => ?_)
    · (try dsimp only); exact HXS.out _ HXD.out
    refine wpAnyH_take (i := 0) (oi := { dst := some 10, op := Op.move (Operand.tmp 0), type := 22, pos := "law.go:131", after := #[], guard := none }) (v := ?_) rfl (by kernel_rfl) (by kernel_rfl) (by kernel_rfl) (fun _ _ _ h => h) (Or.inl ⟨by rfl, ?_⟩) (by assumption) ?_
    rotate_left
    · intro w hSw; (try dsimp only at hSw); go_simp; all_goals (try with_reducible rfl)
    try simp only [Act.put, List.setIfInBounds_toArray, List.set_cons_zero, List.set_cons_succ]
    refine wpAnyH_take (i := 2) (oi := { dst := some 12, op := Op.fieldAddr 41 (Operand.tmp 5) 0, type := 0, pos := "law.go:131", after := #[], guard := none }) (v := ?_) rfl (by kernel_rfl) (by kernel_rfl) (by kernel_rfl) (fun _ _ _ h => h) (Or.inl ⟨by rfl, ?_⟩) (by assumption) ?_
    rotate_left
    · intro w hSw; (try dsimp only at hSw); go_simp; all_goals (try with_reducible rfl)
    try simp only [Act.put, List.setIfInBounds_toArray, List.set_cons_zero, List.set_cons_succ]
    refine wpAnyH_take (i := 3) (oi := { dst := some 13, op := Op.load 24 (Operand.tmp 12), type := 24, pos := "law.go:131", after := #[{ on := 2, ground := Ground.data }], guard := none }) (v := ?_) rfl (by kernel_rfl) (by kernel_rfl) (by kernel_rfl) (fun _ _ _ h => h) (Or.inl ⟨by rfl, ?_⟩) (by assumption) ?_
    rotate_left
    · intro w hSw; (try dsimp only at hSw); go_simp; all_goals (try with_reducible rfl)
    try simp only [Act.put, List.setIfInBounds_toArray, List.set_cons_zero, List.set_cons_succ]
    refine wpAnyH_take (i := 5) (oi := { dst := some 15, op := Op.fieldAddr 41 (Operand.tmp 5) 1, type := 0, pos := "law.go:131", after := #[], guard := none }) (v := ?_) rfl (by kernel_rfl) (by kernel_rfl) (by kernel_rfl) (fun _ _ _ h => h) (Or.inl ⟨by rfl, ?_⟩) (by assumption) ?_
    rotate_left
    · intro w hSw; (try dsimp only at hSw); go_simp; all_goals (try with_reducible rfl)
    try simp only [Act.put, List.setIfInBounds_toArray, List.set_cons_zero, List.set_cons_succ]
    refine wpAnyH_take (i := 6) (oi := { dst := some 16, op := Op.load 24 (Operand.tmp 15), type := 24, pos := "law.go:131", after := #[{ on := 5, ground := Ground.data }], guard := none }) (v := ?_) rfl (by kernel_rfl) (by kernel_rfl) (by kernel_rfl) (fun _ _ _ h => h) (Or.inl ⟨by rfl, ?_⟩) (by assumption) ?_
    rotate_left
    · intro w hSw; (try dsimp only at hSw); go_simp; all_goals (try with_reducible rfl)
    try simp only [Act.put, List.setIfInBounds_toArray, List.set_cons_zero, List.set_cons_succ]
    refine wpAnyH_ready (rs := [1, 9]) (by kernel_rfl) (by simp) ?_
    refine AllReadyH.cons (o := { dst := some 11, op := Op.call { callee := Callee.value (Operand.func 21), args := #[Operand.tmp 10], argTypes := #[22] }, type := 22, pos := "law.go:131", after := #[{ on := 0, ground := Ground.data }], guard := none }) rfl (fun K hK => ?_) ?_
    ·
      go_simp
      go_at_call 21
      refine (HOW.out _ HXD.out).mono ?_
      rintro e w1 ⟨⟨v1, rfl, hN⟩, hB⟩
      have hBe : Below X.heap.size X w1 := below_step HXD.out hB
      have HN1 := Lib.hid hN
      have HK1 := Lib.hid hBe
      have HB1 := Lib.hid hB
      obtain ⟨a1, d1, hv1, _⟩ := own_form hN
      subst hv1
      clear hN hB hBe
      try go_wp2_with (fail)
      refine hK.out _ _ ?_ (fun hHeld => ?_)
      · (try dsimp only); exact HXS.out _ HK1.out
      clear hK K
      try simp only [Act.put, List.setIfInBounds_toArray, List.set_cons_zero, List.set_cons_succ]
      refine wpAnyH_ready (rs := [4, 9]) (by kernel_rfl) (by simp) ?_
      refine AllReadyH.cons (o := { dst := some 14, op := Op.call { callee := Callee.value (Operand.func 12), args := #[Operand.tmp 13], argTypes := #[24] }, type := 24, pos := "law.go:131", after := #[{ on := 3, ground := Ground.data }, { on := 1, ground := Ground.chain }], guard := none }) rfl (fun K hK => ?_) ?_
      ·
        go_simp
        go_at_call 12
        refine (HRA.out _ HK1.out).mono ?_
        rintro e wA ⟨vA, uA, rfl, hN⟩
        have hB := hN.below
        have hBe : Below X.heap.size X wA := below_step HK1.out hB
        have HMA := Lib.hid hN
        have HKA := Lib.hid hBe
        have HBA := Lib.hid hB
        obtain ⟨aA, dA, hvA, _⟩ := own_form hN.own
        subst hvA
        clear hN hB hBe
        try go_wp2_with (fail)
        refine hK.out _ _ ?_ (fun hHeld => ?_)
        · (try dsimp only); exact HXS.out _ HKA.out
        clear hK K
        try simp only [Act.put, List.setIfInBounds_toArray, List.set_cons_zero, List.set_cons_succ]
        refine wpAnyH_ready (rs := [7, 9]) (by kernel_rfl) (by simp) ?_
        refine AllReadyH.cons (o := { dst := some 17, op := Op.call { callee := Callee.value (Operand.func 12), args := #[Operand.tmp 16], argTypes := #[24] }, type := 24, pos := "law.go:131", after := #[{ on := 6, ground := Ground.data }, { on := 4, ground := Ground.chain }], guard := none }) rfl (fun K hK => ?_) ?_
        ·
          go_simp
          go_at_call 12
          refine (HRB.out _ HKA.out).mono ?_
          rintro e wB ⟨vB, uB, rfl, hN⟩
          have hB := hN.below
          have hBe : Below X.heap.size X wB := below_step HKA.out hB
          have HMB := Lib.hid hN
          have HKB := Lib.hid hBe
          have HBB := Lib.hid hB
          obtain ⟨aB, dB, hvB, _⟩ := own_form hN.own
          subst hvB
          clear hN hB hBe
          try go_wp2_with (fail)
          refine hK.out _ _ ?_ (fun hHeld => ?_)
          · (try dsimp only); exact HXS.out _ HKB.out
          clear hK K
          try simp only [Act.put, List.setIfInBounds_toArray, List.set_cons_zero, List.set_cons_succ]
          refine wpAnyH_take (i := 8) (oi := { dst := some 18, op := Op.build 41 #[(0, Operand.tmp 14), (1, Operand.tmp 17)], type := 41, pos := "law.go:131", after := #[{ on := 4, ground := Ground.data }, { on := 7, ground := Ground.data }, { on := 10, ground := Ground.gcOnly Departure.lateStores }], guard := none }) (v := ?_) rfl (by kernel_rfl) (by kernel_rfl) (by kernel_rfl) (fun _ _ _ h => h) (Or.inl ⟨by rfl, ?_⟩) (by assumption) ?_
          rotate_left
          · intro w hSw; (try dsimp only at hSw); go_simp; all_goals (try with_reducible rfl)
          try simp only [Act.put, List.setIfInBounds_toArray, List.set_cons_zero, List.set_cons_succ]
          refine wpAnyH_ready (rs := [9]) (by kernel_rfl) (by simp) ?_
          refine AllReadyH.cons (o := { dst := some 8, op := Op.alloc 41, type := 0, pos := "law.go:131", after := #[], guard := none }) rfl (fun K hK => ?_) ?_
          ·
            go_simp
            refine hK.out _ _ ?_ (fun hHeld => ?_)
            · (try dsimp only); exact HXS.out _ (HKB.out.alloc (HKB.out).size _)
            clear hK K
            try simp only [Act.put, List.setIfInBounds_toArray, List.set_cons_zero, List.set_cons_succ]
            refine wpAnyH_take (i := 10) (oi := { dst := some 7, op := Op.assign (Operand.tmp 11), type := 22, pos := "law.go:131", after := #[{ on := 1, ground := Ground.data }, { on := 7, ground := Ground.chain }, { on := 0, ground := Ground.phase }, { on := 1, ground := Ground.phase }, { on := 2, ground := Ground.textOnly Departure.lateStores }, { on := 3, ground := Ground.textOnly Departure.lateStores }, { on := 4, ground := Ground.textOnly Departure.lateStoresUnsure }, { on := 5, ground := Ground.textOnly Departure.lateStores }, { on := 6, ground := Ground.textOnly Departure.lateStores }, { on := 7, ground := Ground.textOnly Departure.lateStoresUnsure }, { on := 8, ground := Ground.textOnly Departure.lateStores }, { on := 9, ground := Ground.phase }], guard := none }) (v := ?_) rfl (by kernel_rfl) (by kernel_rfl) (by kernel_rfl) (fun _ _ _ h => h) (Or.inl ⟨by rfl, ?_⟩) (by assumption) ?_
            rotate_left
            · intro w hSw; (try dsimp only at hSw); go_simp; all_goals (try with_reducible rfl)
            try simp only [Act.put, List.setIfInBounds_toArray, List.set_cons_zero, List.set_cons_succ]
            refine wpAnyH_ready (rs := [11]) (by kernel_rfl) (by simp) ?_
            refine AllReadyH.cons (o := { dst := none, op := Op.store 41 (Operand.tmp 8) (Operand.tmp 18), type := 0, pos := "law.go:131", after := #[{ on := 9, ground := Ground.data }, { on := 8, ground := Ground.data }, { on := 10, ground := Ground.chain }, { on := 0, ground := Ground.phase }, { on := 1, ground := Ground.phase }, { on := 2, ground := Ground.phase }, { on := 3, ground := Ground.phase }, { on := 4, ground := Ground.phase }, { on := 5, ground := Ground.phase }, { on := 6, ground := Ground.phase }, { on := 7, ground := Ground.phase }, { on := 8, ground := Ground.phase }, { on := 9, ground := Ground.phase }, { on := 10, ground := Ground.phase }], guard := none }) rfl (fun K hK => ?_) ?_
            ·
              go_simp
              refine hK.out _ _ ?_ (fun hHeld => ?_)
              · (try dsimp only); exact HXS.out _ (HKB.out.alloc HKB.out.size _)
              clear hK K
              try simp only [Act.put, List.setIfInBounds_toArray, List.set_cons_zero, List.set_cons_succ]
              refine wpAnyH_done (by kernel_rfl) ?_ _
              refine NoPanic.normal ?_
              have HEN : Hid (Below X.heap.size X (wB.alloc (.cells #[.slice aA A.length dA, .slice aB B.length dB] 41))) := (HKB.out.alloc HKB.out.size _)
              have HR1 : Hid (Rd (wB.alloc (.cells #[.slice aA A.length dA, .slice aB B.length dB] 41)) (.slice a1 W.length d1) 1 W.length (zs W)) := Rd.of_own (own_kept (own_kept (own_kept HN1.out HBA.out) HBB.out) ((Below.refl _ _).alloc (Nat.le_refl _) _))
              have HR2 : Hid (RdZ (wB.alloc (.cells #[.slice aA A.length dA, .slice aB B.length dB] 41)) (.slice aA A.length dA) A) := (HMA.out.low HBB.out).rd.below ((Below.refl _ _).alloc (Nat.le_refl _) _)
              have HR3 : Hid (RdZ (wB.alloc (.cells #[.slice aA A.length dA, .slice aB B.length dB] 41)) (.slice aB B.length dB) B) := HMB.out.rd.below ((Below.refl _ _).alloc (Nat.le_refl _) _)
              have HH : Hid ((wB.alloc (.cells #[.slice aA A.length dA, .slice aB B.length dB] 41)).heap[wB.heap.size]? = some (.cells #[.slice aA A.length dA, .slice aB B.length dB] 41 (0, 0))) := heap_alloc_new _ _
              go_wp2_with (fail)
              go_meet
              exact ⟨_, wB.heap.size, .slice a1 W.length d1, .slice aA A.length dA, .slice aB B.length dB, rfl, by first | rfl | simp, by first | rfl | simp, HKB.out.size, HR1, HR2, HR3, HH, HEN⟩
            exact AllReadyH.nil
          exact AllReadyH.nil
        refine AllReadyH.cons (o := { dst := some 8, op := Op.alloc 41, type := 0, pos := "law.go:131", after := #[], guard := none }) rfl (fun K hK => ?_) ?_
        ·
          go_simp
          refine hK.out _ _ ?_ (fun hHeld => ?_)
          · (try dsimp only); exact HXS.out _ (HKA.out.alloc (HKA.out).size _)
          clear hK K
          try simp only [Act.put, List.setIfInBounds_toArray, List.set_cons_zero, List.set_cons_succ]
          refine wpAnyH_ready (rs := [7]) (by kernel_rfl) (by simp) ?_
          refine AllReadyH.cons (o := { dst := some 17, op := Op.call { callee := Callee.value (Operand.func 12), args := #[Operand.tmp 16], argTypes := #[24] }, type := 24, pos := "law.go:131", after := #[{ on := 6, ground := Ground.data }, { on := 4, ground := Ground.chain }], guard := none }) rfl (fun K hK => ?_) ?_
          ·
            go_simp
            go_at_call 12
            refine (HRB.out _ (HKA.out.alloc (HKA.out).size _)).mono ?_
            rintro e wB ⟨vB, uB, rfl, hN⟩
            have hB := hN.below
            have hBe : Below X.heap.size X wB := below_step (HKA.out.alloc (HKA.out).size _) hB
            have HMB := Lib.hid hN
            have HKB := Lib.hid hBe
            have HBB := Lib.hid hB
            obtain ⟨aB, dB, hvB, _⟩ := own_form hN.own
            subst hvB
            have hE : (wA.alloc (.cells #[.slice none 0 0, .slice none 0 0] 41)).heap[wA.heap.size]? = some (.cells #[.slice none 0 0, .slice none 0 0] 41 (0, 0)) := heap_alloc_new _ _
            have hl : wA.heap.size < (wA.alloc (.cells #[.slice none 0 0, .slice none 0 0] 41)).heap.size := by simp
            have HE := Lib.hid (And.intro ((hB.block _ hl).trans hE) (Nat.lt_of_lt_of_le hl hB.size))
            obtain ⟨q0, q1⟩ := cell2 HE.out.1
            have f0 : wB.frozen? ⟨wA.heap.size, 0, none⟩ = false := by have h9 := HE.out.1; simp [World.frozen?, h9]
            have f1 : wB.frozen? ⟨wA.heap.size, 1, none⟩ = false := by have h9 := HE.out.1; simp [World.frozen?, h9]
            clear hE hl
            clear hN hB hBe
            try go_wp2_with (fail)
            refine hK.out _ _ ?_ (fun hHeld => ?_)
            · (try dsimp only); exact HXS.out _ HKB.out
            clear hK K
            try simp only [Act.put, List.setIfInBounds_toArray, List.set_cons_zero, List.set_cons_succ]
            refine wpAnyH_take (i := 8) (oi := { dst := some 18, op := Op.build 41 #[(0, Operand.tmp 14), (1, Operand.tmp 17)], type := 41, pos := "law.go:131", after := #[{ on := 4, ground := Ground.data }, { on := 7, ground := Ground.data }, { on := 10, ground := Ground.gcOnly Departure.lateStores }], guard := none }) (v := ?_) rfl (by kernel_rfl) (by kernel_rfl) (by kernel_rfl) (fun _ _ _ h => h) (Or.inl ⟨by rfl, ?_⟩) (by assumption) ?_
            rotate_left
            · intro w hSw; (try dsimp only at hSw); go_simp; all_goals (try with_reducible rfl)
            try simp only [Act.put, List.setIfInBounds_toArray, List.set_cons_zero, List.set_cons_succ]
            refine wpAnyH_take (i := 10) (oi := { dst := some 7, op := Op.assign (Operand.tmp 11), type := 22, pos := "law.go:131", after := #[{ on := 1, ground := Ground.data }, { on := 7, ground := Ground.chain }, { on := 0, ground := Ground.phase }, { on := 1, ground := Ground.phase }, { on := 2, ground := Ground.textOnly Departure.lateStores }, { on := 3, ground := Ground.textOnly Departure.lateStores }, { on := 4, ground := Ground.textOnly Departure.lateStoresUnsure }, { on := 5, ground := Ground.textOnly Departure.lateStores }, { on := 6, ground := Ground.textOnly Departure.lateStores }, { on := 7, ground := Ground.textOnly Departure.lateStoresUnsure }, { on := 8, ground := Ground.textOnly Departure.lateStores }, { on := 9, ground := Ground.phase }], guard := none }) (v := ?_) rfl (by kernel_rfl) (by kernel_rfl) (by kernel_rfl) (fun _ _ _ h => h) (Or.inl ⟨by rfl, ?_⟩) (by assumption) ?_
            rotate_left
            · intro w hSw; (try dsimp only at hSw); go_simp; all_goals (try with_reducible rfl)
            try simp only [Act.put, List.setIfInBounds_toArray, List.set_cons_zero, List.set_cons_succ]
            refine wpAnyH_ready (rs := [11]) (by kernel_rfl) (by simp) ?_
            refine AllReadyH.cons (o := { dst := none, op := Op.store 41 (Operand.tmp 8) (Operand.tmp 18), type := 0, pos := "law.go:131", after := #[{ on := 9, ground := Ground.data }, { on := 8, ground := Ground.data }, { on := 10, ground := Ground.chain }, { on := 0, ground := Ground.phase }, { on := 1, ground := Ground.phase }, { on := 2, ground := Ground.phase }, { on := 3, ground := Ground.phase }, { on := 4, ground := Ground.phase }, { on := 5, ground := Ground.phase }, { on := 6, ground := Ground.phase }, { on := 7, ground := Ground.phase }, { on := 8, ground := Ground.phase }, { on := 9, ground := Ground.phase }, { on := 10, ground := Ground.phase }], guard := none }) rfl (fun K hK => ?_) ?_
            ·
              go_simp
              refine hK.out _ _ ?_ (fun hHeld => ?_)
              · (try dsimp only); exact HXS.out _ ((HKB.out.setCell (p := ⟨wA.heap.size, 0, none⟩) HKA.out.size _).setCell (p := ⟨wA.heap.size, 1, none⟩) HKA.out.size _)
              clear hK K
              try simp only [Act.put, List.setIfInBounds_toArray, List.set_cons_zero, List.set_cons_succ]
              refine wpAnyH_done (by kernel_rfl) ?_ _
              refine NoPanic.normal ?_
              have HEN : Hid (Below X.heap.size X ((wB.setCell ⟨wA.heap.size, 0, none⟩ (.slice aA A.length dA)).setCell ⟨wA.heap.size, 1, none⟩ (.slice aB B.length dB))) := ((HKB.out.setCell (p := ⟨wA.heap.size, 0, none⟩) HKA.out.size _).setCell (p := ⟨wA.heap.size, 1, none⟩) HKA.out.size _)
              have HR1 : Hid (Rd ((wB.setCell ⟨wA.heap.size, 0, none⟩ (.slice aA A.length dA)).setCell ⟨wA.heap.size, 1, none⟩ (.slice aB B.length dB)) (.slice a1 W.length d1) 1 W.length (zs W)) := Rd.of_own (own_set2 (own_kept (own_kept HN1.out HBA.out) (((Below.refl _ _).alloc (Nat.le_refl _) _).trans (HBB.out.mono (by simp)))) (own_ne_ty (own_kept (own_kept HN1.out HBA.out) (((Below.refl _ _).alloc (Nat.le_refl _) _).trans (HBB.out.mono (by simp)))) HE.out.1 (by decide)) _ _)
              have HR2 : Hid (RdZ ((wB.setCell ⟨wA.heap.size, 0, none⟩ (.slice aA A.length dA)).setCell ⟨wA.heap.size, 1, none⟩ (.slice aB B.length dB)) (.slice aA A.length dA) A) := (HMA.out.low (((Below.refl _ _).alloc (Nat.le_refl _) _).trans (HBB.out.mono (by simp)))).rdSet HE.out.1 (by decide) (by decide) _ _
              have HR3 : Hid (RdZ ((wB.setCell ⟨wA.heap.size, 0, none⟩ (.slice aA A.length dA)).setCell ⟨wA.heap.size, 1, none⟩ (.slice aB B.length dB)) (.slice aB B.length dB) B) := HMB.out.rdSet HE.out.1 (by decide) (by decide) _ _
              have HH : Hid (((wB.setCell ⟨wA.heap.size, 0, none⟩ (.slice aA A.length dA)).setCell ⟨wA.heap.size, 1, none⟩ (.slice aB B.length dB)).heap[wA.heap.size]? = some (.cells #[.slice aA A.length dA, .slice aB B.length dB] 41 (0, 0))) := heap_set2 HE.out.1 _ _
              go_wp2_with (fail)
              go_meet
              exact ⟨_, wA.heap.size, .slice a1 W.length d1, .slice aA A.length dA, .slice aB B.length dB, rfl, by first | rfl | simp, by first | rfl | simp, HKA.out.size, HR1, HR2, HR3, HH, HEN⟩
            exact AllReadyH.nil
          exact AllReadyH.nil
        exact AllReadyH.nil
      refine AllReadyH.cons (o := { dst := some 8, op := Op.alloc 41, type := 0, pos := "law.go:131", after := #[], guard := none }) rfl (fun K hK => ?_) ?_
      ·
        go_simp
        refine hK.out _ _ ?_ (fun hHeld => ?_)
        · (try dsimp only); exact HXS.out _ (HK1.out.alloc (HK1.out).size _)
        clear hK K
        try simp only [Act.put, List.setIfInBounds_toArray, List.set_cons_zero, List.set_cons_succ]
        refine wpAnyH_ready (rs := [4]) (by kernel_rfl) (by simp) ?_
        refine AllReadyH.cons (o := { dst := some 14, op := Op.call { callee := Callee.value (Operand.func 12), args := #[Operand.tmp 13], argTypes := #[24] }, type := 24, pos := "law.go:131", after := #[{ on := 3, ground := Ground.data }, { on := 1, ground := Ground.chain }], guard := none }) rfl (fun K hK => ?_) ?_
        ·
          go_simp
          go_at_call 12
          refine (HRA.out _ (HK1.out.alloc (HK1.out).size _)).mono ?_
          rintro e wA ⟨vA, uA, rfl, hN⟩
          have hB := hN.below
          have hBe : Below X.heap.size X wA := below_step (HK1.out.alloc (HK1.out).size _) hB
          have HMA := Lib.hid hN
          have HKA := Lib.hid hBe
          have HBA := Lib.hid hB
          obtain ⟨aA, dA, hvA, _⟩ := own_form hN.own
          subst hvA
          have hE : (w1.alloc (.cells #[.slice none 0 0, .slice none 0 0] 41)).heap[w1.heap.size]? = some (.cells #[.slice none 0 0, .slice none 0 0] 41 (0, 0)) := heap_alloc_new _ _
          have hl : w1.heap.size < (w1.alloc (.cells #[.slice none 0 0, .slice none 0 0] 41)).heap.size := by simp
          have HE := Lib.hid (And.intro ((hB.block _ hl).trans hE) (Nat.lt_of_lt_of_le hl hB.size))
          clear hE hl
          clear hN hB hBe
          try go_wp2_with (fail)
          refine hK.out _ _ ?_ (fun hHeld => ?_)
          · (try dsimp only); exact HXS.out _ HKA.out
          clear hK K
          try simp only [Act.put, List.setIfInBounds_toArray, List.set_cons_zero, List.set_cons_succ]
          refine wpAnyH_ready (rs := [7]) (by kernel_rfl) (by simp) ?_
          refine AllReadyH.cons (o := { dst := some 17, op := Op.call { callee := Callee.value (Operand.func 12), args := #[Operand.tmp 16], argTypes := #[24] }, type := 24, pos := "law.go:131", after := #[{ on := 6, ground := Ground.data }, { on := 4, ground := Ground.chain }], guard := none }) rfl (fun K hK => ?_) ?_
          ·
            go_simp
            go_at_call 12
            refine (HRB.out _ HKA.out).mono ?_
            rintro e wB ⟨vB, uB, rfl, hN⟩
            have hB := hN.below
            have hBe : Below X.heap.size X wB := below_step HKA.out hB
            have HMB := Lib.hid hN
            have HKB := Lib.hid hBe
            have HBB := Lib.hid hB
            obtain ⟨aB, dB, hvB, _⟩ := own_form hN.own
            subst hvB
            have hE := HE.out.1
            have hl := HE.out.2
            have HE := Lib.hid (And.intro ((hB.block _ hl).trans hE) (Nat.lt_of_lt_of_le hl hB.size))
            obtain ⟨q0, q1⟩ := cell2 HE.out.1
            have f0 : wB.frozen? ⟨w1.heap.size, 0, none⟩ = false := by have h9 := HE.out.1; simp [World.frozen?, h9]
            have f1 : wB.frozen? ⟨w1.heap.size, 1, none⟩ = false := by have h9 := HE.out.1; simp [World.frozen?, h9]
            clear hE hl
            clear hN hB hBe
            try go_wp2_with (fail)
            refine hK.out _ _ ?_ (fun hHeld => ?_)
            · (try dsimp only); exact HXS.out _ HKB.out
            clear hK K
            try simp only [Act.put, List.setIfInBounds_toArray, List.set_cons_zero, List.set_cons_succ]
            refine wpAnyH_take (i := 8) (oi := { dst := some 18, op := Op.build 41 #[(0, Operand.tmp 14), (1, Operand.tmp 17)], type := 41, pos := "law.go:131", after := #[{ on := 4, ground := Ground.data }, { on := 7, ground := Ground.data }, { on := 10, ground := Ground.gcOnly Departure.lateStores }], guard := none }) (v := ?_) rfl (by kernel_rfl) (by kernel_rfl) (by kernel_rfl) (fun _ _ _ h => h) (Or.inl ⟨by rfl, ?_⟩) (by assumption) ?_
            rotate_left
            · intro w hSw; (try dsimp only at hSw); go_simp; all_goals (try with_reducible rfl)
            try simp only [Act.put, List.setIfInBounds_toArray, List.set_cons_zero, List.set_cons_succ]
            refine wpAnyH_take (i := 10) (oi := { dst := some 7, op := Op.assign (Operand.tmp 11), type := 22, pos := "law.go:131", after := #[{ on := 1, ground := Ground.data }, { on := 7, ground := Ground.chain }, { on := 0, ground := Ground.phase }, { on := 1, ground := Ground.phase }, { on := 2, ground := Ground.textOnly Departure.lateStores }, { on := 3, ground := Ground.textOnly Departure.lateStores }, { on := 4, ground := Ground.textOnly Departure.lateStoresUnsure }, { on := 5, ground := Ground.textOnly Departure.lateStores }, { on := 6, ground := Ground.textOnly Departure.lateStores }, { on := 7, ground := Ground.textOnly Departure.lateStoresUnsure }, { on := 8, ground := Ground.textOnly Departure.lateStores }, { on := 9, ground := Ground.phase }], guard := none }) (v := ?_) rfl (by kernel_rfl) (by kernel_rfl) (by kernel_rfl) (fun _ _ _ h => h) (Or.inl ⟨by rfl, ?_⟩) (by assumption) ?_
            rotate_left
            · intro w hSw; (try dsimp only at hSw); go_simp; all_goals (try with_reducible rfl)
            try simp only [Act.put, List.setIfInBounds_toArray, List.set_cons_zero, List.set_cons_succ]
            refine wpAnyH_ready (rs := [11]) (by kernel_rfl) (by simp) ?_
            refine AllReadyH.cons (o := { dst := none, op := Op.store 41 (Operand.tmp 8) (Operand.tmp 18), type := 0, pos := "law.go:131", after := #[{ on := 9, ground := Ground.data }, { on := 8, ground := Ground.data }, { on := 10, ground := Ground.chain }, { on := 0, ground := Ground.phase }, { on := 1, ground := Ground.phase }, { on := 2, ground := Ground.phase }, { on := 3, ground := Ground.phase }, { on := 4, ground := Ground.phase }, { on := 5, ground := Ground.phase }, { on := 6, ground := Ground.phase }, { on := 7, ground := Ground.phase }, { on := 8, ground := Ground.phase }, { on := 9, ground := Ground.phase }, { on := 10, ground := Ground.phase }], guard := none }) rfl (fun K hK => ?_) ?_
            ·
              go_simp
              refine hK.out _ _ ?_ (fun hHeld => ?_)
              · (try dsimp only); exact HXS.out _ ((HKB.out.setCell (p := ⟨w1.heap.size, 0, none⟩) HK1.out.size _).setCell (p := ⟨w1.heap.size, 1, none⟩) HK1.out.size _)
              clear hK K
              try simp only [Act.put, List.setIfInBounds_toArray, List.set_cons_zero, List.set_cons_succ]
              refine wpAnyH_done (by kernel_rfl) ?_ _
              refine NoPanic.normal ?_
              have HEN : Hid (Below X.heap.size X ((wB.setCell ⟨w1.heap.size, 0, none⟩ (.slice aA A.length dA)).setCell ⟨w1.heap.size, 1, none⟩ (.slice aB B.length dB))) := ((HKB.out.setCell (p := ⟨w1.heap.size, 0, none⟩) HK1.out.size _).setCell (p := ⟨w1.heap.size, 1, none⟩) HK1.out.size _)
              have HR1 : Hid (Rd ((wB.setCell ⟨w1.heap.size, 0, none⟩ (.slice aA A.length dA)).setCell ⟨w1.heap.size, 1, none⟩ (.slice aB B.length dB)) (.slice a1 W.length d1) 1 W.length (zs W)) := Rd.of_own (own_set2 (own_kept (own_kept HN1.out (((Below.refl _ _).alloc (Nat.le_refl _) _).trans (HBA.out.mono (by simp)))) HBB.out) (own_ne_ty (own_kept (own_kept HN1.out (((Below.refl _ _).alloc (Nat.le_refl _) _).trans (HBA.out.mono (by simp)))) HBB.out) HE.out.1 (by decide)) _ _)
              have HR2 : Hid (RdZ ((wB.setCell ⟨w1.heap.size, 0, none⟩ (.slice aA A.length dA)).setCell ⟨w1.heap.size, 1, none⟩ (.slice aB B.length dB)) (.slice aA A.length dA) A) := (HMA.out.low HBB.out).rdSet HE.out.1 (by decide) (by decide) _ _
              have HR3 : Hid (RdZ ((wB.setCell ⟨w1.heap.size, 0, none⟩ (.slice aA A.length dA)).setCell ⟨w1.heap.size, 1, none⟩ (.slice aB B.length dB)) (.slice aB B.length dB) B) := HMB.out.rdSet HE.out.1 (by decide) (by decide) _ _
              have HH : Hid (((wB.setCell ⟨w1.heap.size, 0, none⟩ (.slice aA A.length dA)).setCell ⟨w1.heap.size, 1, none⟩ (.slice aB B.length dB)).heap[w1.heap.size]? = some (.cells #[.slice aA A.length dA, .slice aB B.length dB] 41 (0, 0))) := heap_set2 HE.out.1 _ _
              go_wp2_with (fail)
              go_meet
              exact ⟨_, w1.heap.size, .slice a1 W.length d1, .slice aA A.length dA, .slice aB B.length dB, rfl, by first | rfl | simp, by first | rfl | simp, HK1.out.size, HR1, HR2, HR3, HH, HEN⟩
            exact AllReadyH.nil
          exact AllReadyH.nil
        exact AllReadyH.nil
      exact AllReadyH.nil
    refine AllReadyH.cons (o := { dst := some 8, op := Op.alloc 41, type := 0, pos := "law.go:131", after := #[], guard := none }) rfl (fun K hK => ?_) ?_
    ·
      go_simp
      refine hK.out _ _ ?_ (fun hHeld => ?_)
      · (try dsimp only); exact HXS.out _ (HXD.out.alloc (HXD.out).size _)
      clear hK K
      try simp only [Act.put, List.setIfInBounds_toArray, List.set_cons_zero, List.set_cons_succ]
      refine wpAnyH_ready (rs := [1]) (by kernel_rfl) (by simp) ?_
      refine AllReadyH.cons (o := { dst := some 11, op := Op.call { callee := Callee.value (Operand.func 21), args := #[Operand.tmp 10], argTypes := #[22] }, type := 22, pos := "law.go:131", after := #[{ on := 0, ground := Ground.data }], guard := none }) rfl (fun K hK => ?_) ?_
      ·
        go_simp
        go_at_call 21
        refine (HOW.out _ (HXD.out.alloc (HXD.out).size _)).mono ?_
        rintro e w1 ⟨⟨v1, rfl, hN⟩, hB⟩
        have hBe : Below X.heap.size X w1 := below_step (HXD.out.alloc (HXD.out).size _) hB
        have HN1 := Lib.hid hN
        have HK1 := Lib.hid hBe
        have HB1 := Lib.hid hB
        obtain ⟨a1, d1, hv1, _⟩ := own_form hN
        subst hv1
        have hE : (X.drew.alloc (.cells #[.slice none 0 0, .slice none 0 0] 41)).heap[X.heap.size]? = some (.cells #[.slice none 0 0, .slice none 0 0] 41 (0, 0)) := heap_alloc_new _ _
        have hl : X.heap.size < (X.drew.alloc (.cells #[.slice none 0 0, .slice none 0 0] 41)).heap.size := by simp
        have HE := Lib.hid (And.intro ((hB.block _ hl).trans hE) (Nat.lt_of_lt_of_le hl hB.size))
        clear hE hl
        clear hN hB hBe
        try go_wp2_with (fail)
        refine hK.out _ _ ?_ (fun hHeld => ?_)
        · (try dsimp only); exact HXS.out _ HK1.out
        clear hK K
        try simp only [Act.put, List.setIfInBounds_toArray, List.set_cons_zero, List.set_cons_succ]
        refine wpAnyH_ready (rs := [4]) (by kernel_rfl) (by simp) ?_
        refine AllReadyH.cons (o := { dst := some 14, op := Op.call { callee := Callee.value (Operand.func 12), args := #[Operand.tmp 13], argTypes := #[24] }, type := 24, pos := "law.go:131", after := #[{ on := 3, ground := Ground.data }, { on := 1, ground := Ground.chain }], guard := none }) rfl (fun K hK => ?_) ?_
        ·
          go_simp
          go_at_call 12
          refine (HRA.out _ HK1.out).mono ?_
          rintro e wA ⟨vA, uA, rfl, hN⟩
          have hB := hN.below
          have hBe : Below X.heap.size X wA := below_step HK1.out hB
          have HMA := Lib.hid hN
          have HKA := Lib.hid hBe
          have HBA := Lib.hid hB
          obtain ⟨aA, dA, hvA, _⟩ := own_form hN.own
          subst hvA
          have hE := HE.out.1
          have hl := HE.out.2
          have HE := Lib.hid (And.intro ((hB.block _ hl).trans hE) (Nat.lt_of_lt_of_le hl hB.size))
          clear hE hl
          clear hN hB hBe
          try go_wp2_with (fail)
          refine hK.out _ _ ?_ (fun hHeld => ?_)
          · (try dsimp only); exact HXS.out _ HKA.out
          clear hK K
          try simp only [Act.put, List.setIfInBounds_toArray, List.set_cons_zero, List.set_cons_succ]
          refine wpAnyH_ready (rs := [7]) (by kernel_rfl) (by simp) ?_
          refine AllReadyH.cons (o := { dst := some 17, op := Op.call { callee := Callee.value (Operand.func 12), args := #[Operand.tmp 16], argTypes := #[24] }, type := 24, pos := "law.go:131", after := #[{ on := 6, ground := Ground.data }, { on := 4, ground := Ground.chain }], guard := none }) rfl (fun K hK => ?_) ?_
          ·
            go_simp
            go_at_call 12
            refine (HRB.out _ HKA.out).mono ?_
            rintro e wB ⟨vB, uB, rfl, hN⟩
            have hB := hN.below
            have hBe : Below X.heap.size X wB := below_step HKA.out hB
            have HMB := Lib.hid hN
            have HKB := Lib.hid hBe
            have HBB := Lib.hid hB
            obtain ⟨aB, dB, hvB, _⟩ := own_form hN.own
            subst hvB
            have hE := HE.out.1
            have hl := HE.out.2
            have HE := Lib.hid (And.intro ((hB.block _ hl).trans hE) (Nat.lt_of_lt_of_le hl hB.size))
            obtain ⟨q0, q1⟩ := cell2 HE.out.1
            have f0 : wB.frozen? ⟨X.heap.size, 0, none⟩ = false := by have h9 := HE.out.1; simp [World.frozen?, h9]
            have f1 : wB.frozen? ⟨X.heap.size, 1, none⟩ = false := by have h9 := HE.out.1; simp [World.frozen?, h9]
            clear hE hl
            clear hN hB hBe
            try go_wp2_with (fail)
            refine hK.out _ _ ?_ (fun hHeld => ?_)
            · (try dsimp only); exact HXS.out _ HKB.out
            clear hK K
            try simp only [Act.put, List.setIfInBounds_toArray, List.set_cons_zero, List.set_cons_succ]
            refine wpAnyH_take (i := 8) (oi := { dst := some 18, op := Op.build 41 #[(0, Operand.tmp 14), (1, Operand.tmp 17)], type := 41, pos := "law.go:131", after := #[{ on := 4, ground := Ground.data }, { on := 7, ground := Ground.data }, { on := 10, ground := Ground.gcOnly Departure.lateStores }], guard := none }) (v := ?_) rfl (by kernel_rfl) (by kernel_rfl) (by kernel_rfl) (fun _ _ _ h => h) (Or.inl ⟨by rfl, ?_⟩) (by assumption) ?_
            rotate_left
            · intro w hSw; (try dsimp only at hSw); go_simp; all_goals (try with_reducible rfl)
            try simp only [Act.put, List.setIfInBounds_toArray, List.set_cons_zero, List.set_cons_succ]
            refine wpAnyH_take (i := 10) (oi := { dst := some 7, op := Op.assign (Operand.tmp 11), type := 22, pos := "law.go:131", after := #[{ on := 1, ground := Ground.data }, { on := 7, ground := Ground.chain }, { on := 0, ground := Ground.phase }, { on := 1, ground := Ground.phase }, { on := 2, ground := Ground.textOnly Departure.lateStores }, { on := 3, ground := Ground.textOnly Departure.lateStores }, { on := 4, ground := Ground.textOnly Departure.lateStoresUnsure }, { on := 5, ground := Ground.textOnly Departure.lateStores }, { on := 6, ground := Ground.textOnly Departure.lateStores }, { on := 7, ground := Ground.textOnly Departure.lateStoresUnsure }, { on := 8, ground := Ground.textOnly Departure.lateStores }, { on := 9, ground := Ground.phase }], guard := none }) (v := ?_) rfl (by kernel_rfl) (by kernel_rfl) (by kernel_rfl) (fun _ _ _ h => h) (Or.inl ⟨by rfl, ?_⟩) (by assumption) ?_
            rotate_left
            · intro w hSw; (try dsimp only at hSw); go_simp; all_goals (try with_reducible rfl)
            try simp only [Act.put, List.setIfInBounds_toArray, List.set_cons_zero, List.set_cons_succ]
            refine wpAnyH_ready (rs := [11]) (by kernel_rfl) (by simp) ?_
            refine AllReadyH.cons (o := { dst := none, op := Op.store 41 (Operand.tmp 8) (Operand.tmp 18), type := 0, pos := "law.go:131", after := #[{ on := 9, ground := Ground.data }, { on := 8, ground := Ground.data }, { on := 10, ground := Ground.chain }, { on := 0, ground := Ground.phase }, { on := 1, ground := Ground.phase }, { on := 2, ground := Ground.phase }, { on := 3, ground := Ground.phase }, { on := 4, ground := Ground.phase }, { on := 5, ground := Ground.phase }, { on := 6, ground := Ground.phase }, { on := 7, ground := Ground.phase }, { on := 8, ground := Ground.phase }, { on := 9, ground := Ground.phase }, { on := 10, ground := Ground.phase }], guard := none }) rfl (fun K hK => ?_) ?_
            ·
              go_simp
              refine hK.out _ _ ?_ (fun hHeld => ?_)
              · (try dsimp only); exact HXS.out _ ((HKB.out.setCell (p := ⟨X.heap.size, 0, none⟩) (Nat.le_refl _) _).setCell (p := ⟨X.heap.size, 1, none⟩) (Nat.le_refl _) _)
              clear hK K
              try simp only [Act.put, List.setIfInBounds_toArray, List.set_cons_zero, List.set_cons_succ]
              refine wpAnyH_done (by kernel_rfl) ?_ _
              refine NoPanic.normal ?_
              have HEN : Hid (Below X.heap.size X ((wB.setCell ⟨X.heap.size, 0, none⟩ (.slice aA A.length dA)).setCell ⟨X.heap.size, 1, none⟩ (.slice aB B.length dB))) := ((HKB.out.setCell (p := ⟨X.heap.size, 0, none⟩) (Nat.le_refl _) _).setCell (p := ⟨X.heap.size, 1, none⟩) (Nat.le_refl _) _)
              have HR1 : Hid (Rd ((wB.setCell ⟨X.heap.size, 0, none⟩ (.slice aA A.length dA)).setCell ⟨X.heap.size, 1, none⟩ (.slice aB B.length dB)) (.slice a1 W.length d1) 1 W.length (zs W)) := Rd.of_own (own_set2 (own_kept (own_kept HN1.out HBA.out) HBB.out) (own_ne_ty (own_kept (own_kept HN1.out HBA.out) HBB.out) HE.out.1 (by decide)) _ _)
              have HR2 : Hid (RdZ ((wB.setCell ⟨X.heap.size, 0, none⟩ (.slice aA A.length dA)).setCell ⟨X.heap.size, 1, none⟩ (.slice aB B.length dB)) (.slice aA A.length dA) A) := (HMA.out.low HBB.out).rdSet HE.out.1 (by decide) (by decide) _ _
              have HR3 : Hid (RdZ ((wB.setCell ⟨X.heap.size, 0, none⟩ (.slice aA A.length dA)).setCell ⟨X.heap.size, 1, none⟩ (.slice aB B.length dB)) (.slice aB B.length dB) B) := HMB.out.rdSet HE.out.1 (by decide) (by decide) _ _
              have HH : Hid (((wB.setCell ⟨X.heap.size, 0, none⟩ (.slice aA A.length dA)).setCell ⟨X.heap.size, 1, none⟩ (.slice aB B.length dB)).heap[X.heap.size]? = some (.cells #[.slice aA A.length dA, .slice aB B.length dB] 41 (0, 0))) := heap_set2 HE.out.1 _ _
              go_wp2_with (fail)
              go_meet
              exact ⟨_, X.heap.size, .slice a1 W.length d1, .slice aA A.length dA, .slice aB B.length dB, rfl, by first | rfl | simp, by first | rfl | simp, (Nat.le_refl _), HR1, HR2, HR3, HH, HEN⟩
            exact AllReadyH.nil
          exact AllReadyH.nil
        exact AllReadyH.nil
      exact AllReadyH.nil
    exact AllReadyH.nil
  case rest =>
    obtain ⟨w1, G, v1, vA, vB, rfl, rfl, rfl, hG, HR1, HR2, HR3, HH, HB1⟩ := hcut
    have HBW : Hid (Below w.heap.size w w1) := below_step HX.out HB1.out
    obtain ⟨a1, d1, hv1⟩ := HR1.out.shape
    obtain ⟨aA, dA, hvA⟩ := HR2.out.shape'
    obtain ⟨aB, dB, hvB⟩ := HR3.out.shape'
    subst hv1 hvA hvB
    obtain ⟨c0, c1⟩ := cell2 HH.out
    have HGS : Hid (G < w1.heap.size) := (Array.getElem?_eq_some_iff.1 HH.out).1
    obtain ⟨hl, hla, hlb⟩ := HL.out
    by_cases hwd : WordI W
    · by_cases hk1 : 1 ≤ k
      · by_cases hk2 : k ≤ 60
        · obtain ⟨kn, hkn'⟩ := Int.eq_ofNat_of_zero_le (show 0 ≤ k by omega)
          have hd1 : decide (k < 1) = false := by rw [decide_eq_false_iff_not]; omega
          have hd2 : decide (60 < k) = false := by rw [decide_eq_false_iff_not]; omega
          by_cases hr : RightF W kn A B
          · have HCK := Lib.hid (Check_right W A B kn (.slice a1 W.length d1) (.slice aA A.length dA) (.slice aB B.length dB) w1 HR1 HR2 HR3 hl hla hlb hra hrb hwd (by omega) (by omega) hr)
            rw [← hkn'] at HCK
            have HRI : Hid (∀ w2, Rd w2 (.slice a1 W.length d1) 1 W.length (zs W) → RdZ w2 (.slice aA A.length dA) A → RdZ w2 (.slice aB B.length dB) B → Calls Try.prog 24 #[.slice a1 W.length d1, .int .i64 k, .agg #[.slice aA A.length dA, .slice aB B.length dB]] w2 fun e w' => e = .returned (.bool true) ∧ Below w2.heap.size w2 w') := fun w2 g1 g2 g3 => by
              rw [hkn']; exact rRight_is W A B kn _ _ _ true w2 g1 g2 g3 hwd.1 hla hlb hra hrb (by omega) ⟨fun _ => rfl, fun _ => hr⟩
            have HWI : Hid (WordI W) := hwd
            clear hwd hkn' hr hl hla hlb hk1 hk2
            go_wp2_with (fail)
            refine HCK.out.mono ?_
            rintro e w2 ⟨rfl, hB⟩
            have HB2 : Hid (Below w.heap.size w w2) := below_step HBW.out hB
            have HH2 : Hid (w2.heap[G]? = some (.cells #[.slice aA A.length dA, .slice aB B.length dB] 41 (0, 0))) := by
              show _ = _
              rw [hB.block G HGS.out]; exact HH.out
            have HR12 : Hid (Rd w2 (.slice a1 W.length d1) 1 W.length (zs W)) := HR1.out.below hB (Nat.le_refl _)
            have HR22 : Hid (RdZ w2 (.slice aA A.length dA) A) := HR2.out.below hB
            have HR32 : Hid (RdZ w2 (.slice aB B.length dB) B) := HR3.out.below hB
            clear hB c0 c1 HCK
            obtain ⟨c0, c1⟩ := cell2 HH2.out
            go_wp2_with (fail)
            refine (rWord_is W _ true w2 HR12 (by have := HL.out.1; omega) ⟨fun _ => rfl, fun _ => HWI.out⟩).mono ?_
            rintro e w3 ⟨rfl, hw3⟩
            subst hw3
            go_wp2_with (fail)
            refine (HRI.out _ HR12.out HR22.out HR32.out).mono ?_
            rintro e w4 ⟨rfl, hB⟩
            have HB4 : Hid (Below w.heap.size w w4) := below_step HB2.out hB
            clear hB
            go_wp2_with (fail)
            refine (awake_is _).mono ?_
            rintro e w8 ⟨rfl, hB⟩
            have HB8 : Hid (Below w.heap.size w w8) := below_step HB4.out hB
            clear hB
            go_wp2_with (fail)
            go_ret
            exact ⟨rfl, HB8.out⟩
          · have HCK := Lib.hid (Check_wrong W A B kn (.slice a1 W.length d1) (.slice aA A.length dA) (.slice aB B.length dB) w1 HR1 HR2 HR3 hl hla hlb hra hrb hwd (by omega) (by omega) hr)
            rw [← hkn'] at HCK
            have HRI : Hid (∀ w2, Rd w2 (.slice a1 W.length d1) 1 W.length (zs W) → RdZ w2 (.slice aA A.length dA) A → RdZ w2 (.slice aB B.length dB) B → Calls Try.prog 24 #[.slice a1 W.length d1, .int .i64 k, .agg #[.slice aA A.length dA, .slice aB B.length dB]] w2 fun e w' => e = .returned (.bool false) ∧ Below w2.heap.size w2 w') := fun w2 g1 g2 g3 => by
              rw [hkn']; exact rRight_is W A B kn _ _ _ false w2 g1 g2 g3 hwd.1 hla hlb hra hrb (by omega) ⟨fun h => absurd h hr, fun h => (by cases h)⟩
            have HWI : Hid (WordI W) := hwd
            clear hwd hkn' hr hl hla hlb hk1 hk2
            go_wp2_with (fail)
            refine HCK.out.mono ?_
            rintro e w2 ⟨rfl, hB⟩
            have HB2 : Hid (Below w.heap.size w w2) := below_step HBW.out hB
            have HH2 : Hid (w2.heap[G]? = some (.cells #[.slice aA A.length dA, .slice aB B.length dB] 41 (0, 0))) := by
              show _ = _
              rw [hB.block G HGS.out]; exact HH.out
            have HR12 : Hid (Rd w2 (.slice a1 W.length d1) 1 W.length (zs W)) := HR1.out.below hB (Nat.le_refl _)
            have HR22 : Hid (RdZ w2 (.slice aA A.length dA) A) := HR2.out.below hB
            have HR32 : Hid (RdZ w2 (.slice aB B.length dB) B) := HR3.out.below hB
            clear hB c0 c1 HCK
            obtain ⟨c0, c1⟩ := cell2 HH2.out
            go_wp2_with (fail)
            refine (rWord_is W _ true w2 HR12 (by have := HL.out.1; omega) ⟨fun _ => rfl, fun _ => HWI.out⟩).mono ?_
            rintro e w3 ⟨rfl, hw3⟩
            subst hw3
            go_wp2_with (fail)
            refine (HRI.out _ HR12.out HR22.out HR32.out).mono ?_
            rintro e w4 ⟨rfl, hB⟩
            have HB4 : Hid (Below w.heap.size w w4) := below_step HB2.out hB
            clear hB
            go_wp2_with (fail)
            refine (awake_is _).mono ?_
            rintro e w8 ⟨rfl, hB⟩
            have HB8 : Hid (Below w.heap.size w w8) := below_step HB4.out hB
            clear hB
            go_wp2_with (fail)
            go_ret
            exact ⟨rfl, HB8.out⟩
        · have HCK := Lib.hid (Check_size W A B k (.slice a1 W.length d1) (.slice aA A.length dA) (.slice aB B.length dB) w1 HR1 HR2 HR3 hl hla hlb hra hrb hwd (by omega))
          have hd1 : decide (k < 1) = false := by rw [decide_eq_false_iff_not]; omega
          have hd2 : decide (60 < k) = true := by rw [decide_eq_true_iff]; omega
          have HWI : Hid (WordI W) := hwd
          clear hwd hk1 hk2 hl hla hlb
          go_wp2_with (fail)
          refine HCK.out.mono ?_
          rintro e w2 ⟨rfl, hB⟩
          have HB2 : Hid (Below w.heap.size w w2) := below_step HBW.out hB
          have HH2 : Hid (w2.heap[G]? = some (.cells #[.slice aA A.length dA, .slice aB B.length dB] 41 (0, 0))) := by
            show _ = _
            rw [hB.block G HGS.out]; exact HH.out
          have HR12 : Hid (Rd w2 (.slice a1 W.length d1) 1 W.length (zs W)) := HR1.out.below hB (Nat.le_refl _)
          have HR22 : Hid (RdZ w2 (.slice aA A.length dA) A) := HR2.out.below hB
          have HR32 : Hid (RdZ w2 (.slice aB B.length dB) B) := HR3.out.below hB
          clear hB c0 c1 HCK
          obtain ⟨c0, c1⟩ := cell2 HH2.out
          go_wp2_with (fail)
          refine (rWord_is W _ true w2 HR12 (by have := HL.out.1; omega) ⟨fun _ => rfl, fun _ => HWI.out⟩).mono ?_
          rintro e w3 ⟨rfl, hw3⟩
          subst hw3
          go_wp2_with (fail)
          refine (awake_is _).mono ?_
          rintro e w8 ⟨rfl, hB⟩
          have HB8 : Hid (Below w.heap.size w w8) := below_step HB2.out hB
          clear hB
          go_wp2_with (fail)
          go_ret
          exact ⟨rfl, HB8.out⟩
      · have HCK := Lib.hid (Check_size W A B k (.slice a1 W.length d1) (.slice aA A.length dA) (.slice aB B.length dB) w1 HR1 HR2 HR3 hl hla hlb hra hrb hwd (by omega))
        have hd1 : decide (k < 1) = true := by rw [decide_eq_true_iff]; omega
        have HWI : Hid (WordI W) := hwd
        clear hwd hk1 hl hla hlb
        go_wp2_with (fail)
        refine HCK.out.mono ?_
        rintro e w2 ⟨rfl, hB⟩
        have HB2 : Hid (Below w.heap.size w w2) := below_step HBW.out hB
        have HH2 : Hid (w2.heap[G]? = some (.cells #[.slice aA A.length dA, .slice aB B.length dB] 41 (0, 0))) := by
          show _ = _
          rw [hB.block G HGS.out]; exact HH.out
        have HR12 : Hid (Rd w2 (.slice a1 W.length d1) 1 W.length (zs W)) := HR1.out.below hB (Nat.le_refl _)
        have HR22 : Hid (RdZ w2 (.slice aA A.length dA) A) := HR2.out.below hB
        have HR32 : Hid (RdZ w2 (.slice aB B.length dB) B) := HR3.out.below hB
        clear hB c0 c1 HCK
        obtain ⟨c0, c1⟩ := cell2 HH2.out
        go_wp2_with (fail)
        refine (rWord_is W _ true w2 HR12 (by have := HL.out.1; omega) ⟨fun _ => rfl, fun _ => HWI.out⟩).mono ?_
        rintro e w3 ⟨rfl, hw3⟩
        subst hw3
        go_wp2_with (fail)
        refine (awake_is _).mono ?_
        rintro e w8 ⟨rfl, hB⟩
        have HB8 : Hid (Below w.heap.size w w8) := below_step HB2.out hB
        clear hB
        go_wp2_with (fail)
        go_ret
        exact ⟨rfl, HB8.out⟩
    · have HCK := Lib.hid (Check_word W A B k (.slice a1 W.length d1) (.slice aA A.length dA) (.slice aB B.length dB) w1 HR1 HR2 HR3 hl hla hlb hra hrb hwd)
      have HWI : Hid (WordI W ↔ false = true) := ⟨fun h => absurd h hwd, fun h => (by cases h)⟩
      clear hwd hl hla hlb
      go_wp2_with (fail)
      refine HCK.out.mono ?_
      rintro e w2 ⟨rfl, hB⟩
      have HB2 : Hid (Below w.heap.size w w2) := below_step HBW.out hB
      have HH2 : Hid (w2.heap[G]? = some (.cells #[.slice aA A.length dA, .slice aB B.length dB] 41 (0, 0))) := by
        show _ = _
        rw [hB.block G HGS.out]; exact HH.out
      have HR12 : Hid (Rd w2 (.slice a1 W.length d1) 1 W.length (zs W)) := HR1.out.below hB (Nat.le_refl _)
      have HR22 : Hid (RdZ w2 (.slice aA A.length dA) A) := HR2.out.below hB
      have HR32 : Hid (RdZ w2 (.slice aB B.length dB) B) := HR3.out.below hB
      clear hB c0 c1 HCK
      obtain ⟨c0, c1⟩ := cell2 HH2.out
      go_wp2_with (fail)
      refine (rWord_is W _ false w2 HR12 (by have := HL.out.1; omega) HWI.out).mono ?_
      rintro e w3 ⟨rfl, hw3⟩
      subst hw3
      go_wp2_with (fail)
      refine (awake_is _).mono ?_
      rintro e w8 ⟨rfl, hB⟩
      have HB8 : Hid (Below w.heap.size w w8) := below_step HB2.out hB
      clear hB
      go_wp2_with (fail)
      go_ret
      exact ⟨rfl, HB8.out⟩

set_option maxRecDepth 100000 in
theorem lifted (os : Os) (started : os.Started) (H : Type) (enc : TypeId × Value → H) :
    ReturnsInHanded {} Try.checked os 7 .any (Rows.tableauChecksSpec.pre6 enc Try.prog Try.f7 Rows.tableauChecksRow.domain false) (Rows.tableauChecksSpec.post enc Try.prog Try.f7 false true false false) := by
  refine returnsInHanded_of_change (C := Try.checked) own started (by kernel_rfl) Try.func7
    (ChangeSpec.witness6 (enc := enc) (C := Try.checked) false ⟨#[], #[.slice none 0 0, .int .i64 0, .agg #[.slice none 0 0, .slice none 0 0]], []⟩ 8 (by kernel_rfl) (by kernel_rfl) (by kernel_rfl) (by kernel_rfl)) ?_
  intro W base args ds gs before hval0 hW hcnd _
  have hval : ∀ (j : Nat) t v, Try.f7.params[j]? = some t → args[j]? = some v → Value.okWide Try.prog W .any base t v := hval0
  have hW' := hW
  obtain ⟨p, q, hA0, hV, rfl, hfz, hnd⟩ := hW
  have hA : DataW.TrodAll enc Try.prog W 0 (fun _ => true) true Try.f7.params.toList args.toList ds p := hA0
  rw [Try.params7] at hA hval
  obtain ⟨v1, vs1, d1, ds1, p1, q1, hargs, rfl, rfl, h1, r1⟩ := trodAll_cons hA
  obtain ⟨v2, vs2, d2, ds2, p2, q2, rfl, rfl, rfl, h2, r2⟩ := trodAll_cons r1
  obtain ⟨v3, vs3, d3, ds3, p3, q3, rfl, rfl, rfl, h3, r3⟩ := trodAll_cons r2
  obtain ⟨rfl, rfl, rfl⟩ := trodAll_nil r3
  obtain rfl : args = #[v1, v2, v3] := by cases args; simp_all
  obtain ⟨rfl, rfl⟩ := trodVars_none hV
  have hlt := hW'.lt
  obtain ⟨Z1, hZ1⟩ := argI_of (hval 0 22 v1 rfl rfl) h1
  obtain ⟨a2, rfl, rfl, rfl, w2⟩ := open_int Try.underlying3 (hval 1 3 v2 rfl rfl) h2
  obtain ⟨va, vb, A0, B0, rfl, hZ2, hZ3⟩ := argF_of (hval 2 41 v3 rfl rfl) h3
  clear hA0 hval0
  simp only [List.append_nil] at hW'
  refine (walk v1 va vb a2 Z1 A0 B0 W hZ1 hZ2 hZ3).mono fun e W' ⟨he, hg⟩ => ?_
  subst he
  exact ⟨_, rfl, _, _, _, [], p1 ++ ([] ++ (p3 ++ ([]))), [], hW', trodAll_cons_mk (shut_bool Try.underlying4 _) trodAll_mk0, trodAll_cons_mk (Below.trod (by kernel_rfl) (by kernel_rfl) (by decide +kernel) h1 hg (fun x hx => hlt x (by simp [hx]))) (trodAll_cons_mk (shut_int Try.underlying3 w2) (trodAll_cons_mk (Below.trod (by kernel_rfl) (by kernel_rfl) (by decide +kernel) h3 hg (fun x hx => hlt x (by simp [hx]))) trodAll_mk0)), rfl, hg.frame _, fun h => by cases h⟩

theorem over : Rows.tableauChecksRow.holds Try.pinned (OpenSpec.ofChange Rows.tableauChecksSpec) :=
  OpenClaim.holds_of_wide 7 Try.f7 rfl rfl rfl rfl rfl rfl rfl ⟨rfl, rfl, rfl, rfl, rfl⟩ rfl rfl rfl rfl rfl (by kernel_rfl) Try.func7 (by kernel_rfl)
    (of_decide_eq_true (by kernel_rfl)) (by unfold Func.isWrapper; first | (rw [if_pos (by decide +kernel)]; kernel_rfl) | (rw [if_neg (by decide +kernel)]; exact ⟨rfl, rfl⟩))
    (fun os started H enc _ => lifted os started H enc)

theorem proved : Rows.TableauChecksSaid := over

end tableauChecks
end Go.Proofs.Ytapidabhdbjnmaa
