/- The walk over the reference's Right. -/
import Derived.Test.YtapidabhdbjnmaaKf
import Derived.Deep.RegionHeld3
namespace Go.Proofs.Ytapidabhdbjnmaa
open Go.RowKit

set_option maxRecDepth 100000 in
set_option maxHeartbeats 4000000 in
theorem rRight_is (W : List Int) (A B : List (List Int)) (k : Nat) (vw va vb : Value) (t : Bool) (w : World) (hw : Hid (Rd w vw 1 W.length (zs W))) (hA : Hid (RdZ w va A)) (hB : Hid (RdZ w vb B)) (hl : W.length ≤ 60) (hla : A.length ≤ 61) (hlb : B.length ≤ 61) (hra : Hid (∀ Z ∈ A, Z.length ≤ 61)) (hrb : Hid (∀ Z ∈ B, Z.length ≤ 61)) (hk : k ≤ 60)
    (ht : Hid (RightF W k A B ↔ t = true)) : Calls Try.prog 24 #[vw, .int .i64 (k : Int), .agg #[va, vb]] w fun e w' => e = .returned (.bool t) ∧ Below w.heap.size w w' := by
  obtain ⟨aw, cw, hvw⟩ := hw.out.shape
  obtain ⟨aa, ca, hva⟩ := hA.out.shape'
  obtain ⟨ab, cb, hvb⟩ := hB.out.shape'
  subst hvw hva hvb
  obtain ⟨m, hm⟩ : ∃ m, m = W.length := ⟨_, rfl⟩
  obtain ⟨n1, hn1⟩ : ∃ n, n = A.length := ⟨_, rfl⟩
  obtain ⟨n2, hn2⟩ : ∃ n, n = B.length := ⟨_, rfl⟩
  obtain ⟨b, hb⟩ : ∃ b, b = w.heap.size := ⟨_, rfl⟩
  have HM := Lib.hid (And.intro hm (And.intro hn1 hn2))
  rw [← hm] at hw ⊢
  rw [← hn1] at hA ⊢
  rw [← hn2] at hB ⊢
  obtain ⟨X, hX⟩ : ∃ X, X = w.alloc (.cells #[.slice aa n1 ca, .slice ab n2 cb] 41) := ⟨_, rfl⟩
  have HX : Hid (Below w.heap.size w X) := by rw [hX]; exact (Below.refl _ _).alloc (Nat.le_refl _) _
  have HQ : Hid (X.heap[b]? = some (.cells #[.slice aa n1 ca, .slice ab n2 cb] 41 (0, 0))) := by rw [hX, hb]; exact heap_alloc_new _ _
  obtain ⟨c0, c1⟩ := cell2 HQ.out
  have HPS : Hid (b < X.heap.size) := (Array.getElem?_eq_some_iff.1 HQ.out).1
  have HWX : Hid (Rd X (.slice aw m cw) 1 W.length (zs W)) := by have h9 := hw.out.below HX.out (Nat.le_refl _); show Rd _ _ _ _ _; rw [← HM.out.1]; exact h9
  have HAX : Hid (RdZ X (.slice aa n1 ca) A) := hA.out.below HX.out
  have HBX : Hid (RdZ X (.slice ab n2 cb) B) := hB.out.below HX.out
  have HAL := Lib.hid (C.sumL_le A hra.out)
  have HBL := Lib.hid (C.sumL_le B hrb.out)
  have hfalse : ¬ RightF W k A B → t = false := fun h => by
    cases t with
    | false => rfl
    | true => exact absurd (ht.out.2 rfl) h
  have HF := Lib.hid hfalse
  have hn1l : n1 ≤ 61 := by omega
  have hn2l : n2 ≤ 61 := by omega
  have hm60 : m ≤ 60 := by omega
  have HXS : Hid (∀ W', Below X.heap.size X W' → W'.cell? ⟨b, 0, none⟩ = some (.slice aa n1 ca) ∧ W'.cell? ⟨b, 1, none⟩ = some (.slice ab n2 cb)) := fun W' h => by
    refine cell2 (T := 41) (k := (0, 0)) ?_
    rw [h.block b HPS.out]; exact HQ.out
  have HXD : Hid (Below X.heap.size X X.drew) := (Below.refl _ _).drew
  clear hw hA hB hm hn1 hn2 hfalse
  by_cases h1 : k < n1
  · have HT := Lib.hid (HF.out fun h => by have h9 := h.1; have := HM.out.2.1; omega)
    have hd1 : decide (k < n1) = true := by simpa using h1
    clear h1
    go_enter Try.func24, Try.ntmps24
    go_upto_region 1 with fail
    rw [← hb, ← hX]
    clear hX hb
    go_wp2_with (fail)
    go_ret
    exact ⟨by rw [HT.out]; rfl, HX.out⟩
  · have hd1 : decide (k < n1) = false := by simpa using h1
    have hk1 : n1 ≤ k := by omega
    clear h1
    obtain ⟨sA, hsA⟩ : ∃ s, s = C.sumL A := ⟨_, rfl⟩
    obtain ⟨sB, hsB⟩ : ∃ s, s = C.sumL B := ⟨_, rfl⟩
    have HS := Lib.hid (And.intro hsA hsB)
    rw [← hsA] at HAL
    rw [← hsB] at HBL
    obtain ⟨un, hun⟩ : ∃ u : Int, u = -1 := ⟨_, rfl⟩
    have hdn : decide (0 ≤ un) = false := by rw [hun]; rfl
    by_cases hu : ∃ U, C.cov W true (List.replicate W.length false) A U
    · by_cases hd : ∃ U, C.cov W false (List.replicate W.length false) B U
      · have HAC : Hid (∀ w2, Below X.heap.size X w2 → Calls Try.prog 42 #[.slice aw m cw, .slice aa n1 ca, .bool true] w2 fun e w' => e = .returned (.int .i64 (sA : Nat)) ∧ Below w2.heap.size w2 w') := fun w2 h => rcovered_is W A true _ _ _ w2 (Lib.hid (HWX.out.below h (Nat.le_refl _))) (Lib.hid (HAX.out.below h)) hl hla hra ⟨fun _ _ => by rw [hsA], fun h => absurd hu h⟩
        have HBC : Hid (∀ w2, Below X.heap.size X w2 → Calls Try.prog 42 #[.slice aw m cw, .slice ab n2 cb, .bool false] w2 fun e w' => e = .returned (.int .i64 (sB : Nat)) ∧ Below w2.heap.size w2 w') := fun w2 h => rcovered_is W B false _ _ _ w2 (Lib.hid (HWX.out.below h (Nat.le_refl _))) (Lib.hid (HBX.out.below h)) hl hlb hrb ⟨fun _ _ => by rw [hsB], fun h => absurd hd h⟩
        have hAl : sA ≤ 61 * 61 := by have := HAL.out; omega
        have hBl : sB ≤ 61 * 61 := by have := HBL.out; omega
        obtain ⟨q, hq⟩ : ∃ q, q = k * n2 := ⟨_, rfl⟩
        have hql : q ≤ 60 * 61 := by rw [hq]; exact Nat.mul_le_mul hk hn2l
        have hqz : (k : Int) * (n2 : Int) = (q : Int) := by rw [hq]; rfl
        have HTE : Hid (t = decide ((sA : Int) = (q : Int) + (m : Int) - (sB : Int))) := by
          show _ = _
          have e : RightF W k A B ↔ (sA : Int) = (q : Int) + (m : Int) - (sB : Int) := by
            unfold RightF
            rw [← HM.out.1, ← HM.out.2.1, ← HM.out.2.2, ← hsA, ← hsB, hqz]
            refine ⟨fun h => h.2.2.2, fun h => ⟨hk1, ?_, ?_, h⟩⟩
            · rw [HM.out.1]; exact hu
            · rw [HM.out.1]; exact hd
          symm
          cases t with
          | true => rw [decide_eq_true_iff]; exact e.1 (ht.out.2 rfl)
          | false => rw [decide_eq_false_iff_not]; intro h; exact absurd (ht.out.1 (e.2 h)) (by simp)
        clear hu hd hsA hsB hq hk1 hun hdn
        go_enter Try.func24, Try.ntmps24
        go_upto_region 1 with fail
        rw [← hb, ← hX]
        clear hX hb
        go_wp2_with (fail)
        refine wp_region_held_drew (S := (fun w' => (w'.cell? ⟨b, 0, none⟩ = some (.slice aa n1 ca) ∧ w'.cell? ⟨b, 1, none⟩ = some (.slice ab n2 cb)))) (by kernel_rfl) ?_ (fun hHeld => ?_)
        · (try dsimp only); exact HXS.out _ HXD.out
        refine wpAnyH_take (i := 0) (oi := { dst := some 14, op := Op.move (Operand.tmp 0), type := 22, pos := "ref.go:298", after := #[], guard := none }) (v := ?_) rfl (by kernel_rfl) (by kernel_rfl) (by kernel_rfl) (fun _ _ _ h => h) (Or.inl ⟨by rfl, ?_⟩) (by assumption) ?_
        rotate_left
        · intro w hSw; (try dsimp only at hSw); go_simp; all_goals (try with_reducible rfl)
        try simp only [Act.put, List.setIfInBounds_toArray, List.set_cons_zero, List.set_cons_succ]
        refine wpAnyH_take (i := 1) (oi := { dst := some 15, op := Op.fieldAddr 41 (Operand.tmp 5) 0, type := 0, pos := "ref.go:298", after := #[], guard := none }) (v := ?_) rfl (by kernel_rfl) (by kernel_rfl) (by kernel_rfl) (fun _ _ _ h => h) (Or.inl ⟨by rfl, ?_⟩) (by assumption) ?_
        rotate_left
        · intro w hSw; (try dsimp only at hSw); go_simp; all_goals (try with_reducible rfl)
        try simp only [Act.put, List.setIfInBounds_toArray, List.set_cons_zero, List.set_cons_succ]
        refine wpAnyH_take (i := 2) (oi := { dst := some 16, op := Op.load 24 (Operand.tmp 15), type := 24, pos := "ref.go:298", after := #[{ on := 1, ground := Ground.data }], guard := none }) (v := ?_) rfl (by kernel_rfl) (by kernel_rfl) (by kernel_rfl) (fun _ _ _ h => h) (Or.inl ⟨by rfl, ?_⟩) (by assumption) ?_
        rotate_left
        · intro w hSw; (try dsimp only at hSw); go_simp; all_goals (try with_reducible rfl)
        try simp only [Act.put, List.setIfInBounds_toArray, List.set_cons_zero, List.set_cons_succ]
        refine wpAnyH_take (i := 4) (oi := { dst := some 18, op := Op.move (Operand.tmp 0), type := 22, pos := "ref.go:298", after := #[], guard := none }) (v := ?_) rfl (by kernel_rfl) (by kernel_rfl) (by kernel_rfl) (fun _ _ _ h => h) (Or.inl ⟨by rfl, ?_⟩) (by assumption) ?_
        rotate_left
        · intro w hSw; (try dsimp only at hSw); go_simp; all_goals (try with_reducible rfl)
        try simp only [Act.put, List.setIfInBounds_toArray, List.set_cons_zero, List.set_cons_succ]
        refine wpAnyH_take (i := 5) (oi := { dst := some 19, op := Op.fieldAddr 41 (Operand.tmp 5) 1, type := 0, pos := "ref.go:298", after := #[], guard := none }) (v := ?_) rfl (by kernel_rfl) (by kernel_rfl) (by kernel_rfl) (fun _ _ _ h => h) (Or.inl ⟨by rfl, ?_⟩) (by assumption) ?_
        rotate_left
        · intro w hSw; (try dsimp only at hSw); go_simp; all_goals (try with_reducible rfl)
        try simp only [Act.put, List.setIfInBounds_toArray, List.set_cons_zero, List.set_cons_succ]
        refine wpAnyH_take (i := 6) (oi := { dst := some 20, op := Op.load 24 (Operand.tmp 19), type := 24, pos := "ref.go:298", after := #[{ on := 5, ground := Ground.data }], guard := none }) (v := ?_) rfl (by kernel_rfl) (by kernel_rfl) (by kernel_rfl) (fun _ _ _ h => h) (Or.inl ⟨by rfl, ?_⟩) (by assumption) ?_
        rotate_left
        · intro w hSw; (try dsimp only at hSw); go_simp; all_goals (try with_reducible rfl)
        try simp only [Act.put, List.setIfInBounds_toArray, List.set_cons_zero, List.set_cons_succ]
        refine wpAnyH_ready (rs := [3]) (by kernel_rfl) (by simp) ?_
        refine AllReadyH.cons (o := { dst := some 17, op := Op.call { callee := Callee.value (Operand.func 42), args := #[Operand.tmp 14, Operand.tmp 16, Operand.const (Value.bool true)], argTypes := #[22, 24, 4] }, type := 3, pos := "ref.go:298", after := #[{ on := 0, ground := Ground.data }, { on := 2, ground := Ground.data }], guard := none }) rfl (fun K hK => ?_) ?_
        ·
          go_simp
          go_at_call 42
          refine (HAC.out _ HXD.out).mono ?_
          rintro e wA ⟨rfl, hB⟩
          have HBA : Hid (Below X.heap.size X wA) := below_step HXD.out hB
          clear hB
          try go_wp2_with (fail)
          refine hK.out _ _ ?_ (fun hHeld => ?_)
          · (try dsimp only); exact HXS.out _ HBA.out
          clear hK K
          try simp only [Act.put, List.setIfInBounds_toArray, List.set_cons_zero, List.set_cons_succ]
          refine wpAnyH_ready (rs := [7]) (by kernel_rfl) (by simp) ?_
          refine AllReadyH.cons (o := { dst := some 21, op := Op.call { callee := Callee.value (Operand.func 42), args := #[Operand.tmp 18, Operand.tmp 20, Operand.const (Value.bool false)], argTypes := #[22, 24, 4] }, type := 3, pos := "ref.go:298", after := #[{ on := 4, ground := Ground.data }, { on := 6, ground := Ground.data }, { on := 3, ground := Ground.chain }], guard := none }) rfl (fun K hK => ?_) ?_
          ·
            go_simp
            go_at_call 42
            refine (HBC.out _ HBA.out).mono ?_
            rintro e wB ⟨rfl, hB⟩
            have HBB : Hid (Below X.heap.size X wB) := below_step HBA.out hB
            clear hB
            try go_wp2_with (fail)
            refine hK.out _ _ ?_ (fun hHeld => ?_)
            · (try dsimp only); exact HXS.out _ HBB.out
            clear hK K
            try simp only [Act.put, List.setIfInBounds_toArray, List.set_cons_zero, List.set_cons_succ]
            refine wpAnyH_take (i := 8) (oi := { dst := some 7, op := Op.assign (Operand.tmp 17), type := 3, pos := "ref.go:298", after := #[{ on := 3, ground := Ground.data }, { on := 7, ground := Ground.chain }, { on := 0, ground := Ground.phase }, { on := 1, ground := Ground.phase }, { on := 2, ground := Ground.phase }, { on := 3, ground := Ground.phase }, { on := 4, ground := Ground.textOnly Departure.lateStores }, { on := 5, ground := Ground.textOnly Departure.lateStores }, { on := 6, ground := Ground.textOnly Departure.lateStores }, { on := 7, ground := Ground.textOnly Departure.lateStoresUnsure }], guard := none }) (v := ?_) rfl (by kernel_rfl) (by kernel_rfl) (by kernel_rfl) (fun _ _ _ h => h) (Or.inl ⟨by rfl, ?_⟩) (by assumption) ?_
            rotate_left
            · intro w hSw; (try dsimp only at hSw); go_simp; all_goals (try with_reducible rfl)
            try simp only [Act.put, List.setIfInBounds_toArray, List.set_cons_zero, List.set_cons_succ]
            refine wpAnyH_take (i := 9) (oi := { dst := some 8, op := Op.assign (Operand.tmp 21), type := 3, pos := "ref.go:298", after := #[{ on := 7, ground := Ground.data }, { on := 8, ground := Ground.chain }, { on := 0, ground := Ground.phase }, { on := 1, ground := Ground.phase }, { on := 2, ground := Ground.phase }, { on := 3, ground := Ground.phase }, { on := 4, ground := Ground.phase }, { on := 5, ground := Ground.phase }, { on := 6, ground := Ground.phase }, { on := 7, ground := Ground.phase }, { on := 8, ground := Ground.phase }], guard := none }) (v := ?_) rfl (by kernel_rfl) (by kernel_rfl) (by kernel_rfl) (fun _ _ _ h => h) (Or.inl ⟨by rfl, ?_⟩) (by assumption) ?_
            rotate_left
            · intro w hSw; (try dsimp only at hSw); go_simp; all_goals (try with_reducible rfl)
            try simp only [Act.put, List.setIfInBounds_toArray, List.set_cons_zero, List.set_cons_succ]
            refine wpAnyH_done (by kernel_rfl) ?_ _
            obtain ⟨f0, f1⟩ := HXS.out _ HBB.out
            have HW3 : Hid (Below w.heap.size w wB) := below_step HX.out HBB.out
            go_wp2_with (fail)
            go_ret
            exact ⟨by rw [HTE.out]; rfl, HW3.out⟩
          exact AllReadyH.nil
        exact AllReadyH.nil
      · have HAC : Hid (∀ w2, Below X.heap.size X w2 → Calls Try.prog 42 #[.slice aw m cw, .slice aa n1 ca, .bool true] w2 fun e w' => e = .returned (.int .i64 (sA : Nat)) ∧ Below w2.heap.size w2 w') := fun w2 h => rcovered_is W A true _ _ _ w2 (Lib.hid (HWX.out.below h (Nat.le_refl _))) (Lib.hid (HAX.out.below h)) hl hla hra ⟨fun _ _ => by rw [hsA], fun h => absurd hu h⟩
        have HBC : Hid (∀ w2, Below X.heap.size X w2 → Calls Try.prog 42 #[.slice aw m cw, .slice ab n2 cb, .bool false] w2 fun e w' => e = .returned (.int .i64 un) ∧ Below w2.heap.size w2 w') := fun w2 h => rcovered_is W B false _ _ _ w2 (Lib.hid (HWX.out.below h (Nat.le_refl _))) (Lib.hid (HBX.out.below h)) hl hlb hrb ⟨fun U h => absurd ⟨U, h⟩ hd, fun _ => by rw [hun]⟩
        have HT := Lib.hid (HF.out fun h => hd h.2.2.1)
        clear hu hd hsA hsB hk1 hun
        go_enter Try.func24, Try.ntmps24
        go_upto_region 1 with fail
        rw [← hb, ← hX]
        clear hX hb
        go_wp2_with (fail)
        refine wp_region_held_drew (S := (fun w' => (w'.cell? ⟨b, 0, none⟩ = some (.slice aa n1 ca) ∧ w'.cell? ⟨b, 1, none⟩ = some (.slice ab n2 cb)))) (by kernel_rfl) ?_ (fun hHeld => ?_)
        · (try dsimp only); exact HXS.out _ HXD.out
        refine wpAnyH_take (i := 0) (oi := { dst := some 14, op := Op.move (Operand.tmp 0), type := 22, pos := "ref.go:298", after := #[], guard := none }) (v := ?_) rfl (by kernel_rfl) (by kernel_rfl) (by kernel_rfl) (fun _ _ _ h => h) (Or.inl ⟨by rfl, ?_⟩) (by assumption) ?_
        rotate_left
        · intro w hSw; (try dsimp only at hSw); go_simp; all_goals (try with_reducible rfl)
        try simp only [Act.put, List.setIfInBounds_toArray, List.set_cons_zero, List.set_cons_succ]
        refine wpAnyH_take (i := 1) (oi := { dst := some 15, op := Op.fieldAddr 41 (Operand.tmp 5) 0, type := 0, pos := "ref.go:298", after := #[], guard := none }) (v := ?_) rfl (by kernel_rfl) (by kernel_rfl) (by kernel_rfl) (fun _ _ _ h => h) (Or.inl ⟨by rfl, ?_⟩) (by assumption) ?_
        rotate_left
        · intro w hSw; (try dsimp only at hSw); go_simp; all_goals (try with_reducible rfl)
        try simp only [Act.put, List.setIfInBounds_toArray, List.set_cons_zero, List.set_cons_succ]
        refine wpAnyH_take (i := 2) (oi := { dst := some 16, op := Op.load 24 (Operand.tmp 15), type := 24, pos := "ref.go:298", after := #[{ on := 1, ground := Ground.data }], guard := none }) (v := ?_) rfl (by kernel_rfl) (by kernel_rfl) (by kernel_rfl) (fun _ _ _ h => h) (Or.inl ⟨by rfl, ?_⟩) (by assumption) ?_
        rotate_left
        · intro w hSw; (try dsimp only at hSw); go_simp; all_goals (try with_reducible rfl)
        try simp only [Act.put, List.setIfInBounds_toArray, List.set_cons_zero, List.set_cons_succ]
        refine wpAnyH_take (i := 4) (oi := { dst := some 18, op := Op.move (Operand.tmp 0), type := 22, pos := "ref.go:298", after := #[], guard := none }) (v := ?_) rfl (by kernel_rfl) (by kernel_rfl) (by kernel_rfl) (fun _ _ _ h => h) (Or.inl ⟨by rfl, ?_⟩) (by assumption) ?_
        rotate_left
        · intro w hSw; (try dsimp only at hSw); go_simp; all_goals (try with_reducible rfl)
        try simp only [Act.put, List.setIfInBounds_toArray, List.set_cons_zero, List.set_cons_succ]
        refine wpAnyH_take (i := 5) (oi := { dst := some 19, op := Op.fieldAddr 41 (Operand.tmp 5) 1, type := 0, pos := "ref.go:298", after := #[], guard := none }) (v := ?_) rfl (by kernel_rfl) (by kernel_rfl) (by kernel_rfl) (fun _ _ _ h => h) (Or.inl ⟨by rfl, ?_⟩) (by assumption) ?_
        rotate_left
        · intro w hSw; (try dsimp only at hSw); go_simp; all_goals (try with_reducible rfl)
        try simp only [Act.put, List.setIfInBounds_toArray, List.set_cons_zero, List.set_cons_succ]
        refine wpAnyH_take (i := 6) (oi := { dst := some 20, op := Op.load 24 (Operand.tmp 19), type := 24, pos := "ref.go:298", after := #[{ on := 5, ground := Ground.data }], guard := none }) (v := ?_) rfl (by kernel_rfl) (by kernel_rfl) (by kernel_rfl) (fun _ _ _ h => h) (Or.inl ⟨by rfl, ?_⟩) (by assumption) ?_
        rotate_left
        · intro w hSw; (try dsimp only at hSw); go_simp; all_goals (try with_reducible rfl)
        try simp only [Act.put, List.setIfInBounds_toArray, List.set_cons_zero, List.set_cons_succ]
        refine wpAnyH_ready (rs := [3]) (by kernel_rfl) (by simp) ?_
        refine AllReadyH.cons (o := { dst := some 17, op := Op.call { callee := Callee.value (Operand.func 42), args := #[Operand.tmp 14, Operand.tmp 16, Operand.const (Value.bool true)], argTypes := #[22, 24, 4] }, type := 3, pos := "ref.go:298", after := #[{ on := 0, ground := Ground.data }, { on := 2, ground := Ground.data }], guard := none }) rfl (fun K hK => ?_) ?_
        ·
          go_simp
          go_at_call 42
          refine (HAC.out _ HXD.out).mono ?_
          rintro e wA ⟨rfl, hB⟩
          have HBA : Hid (Below X.heap.size X wA) := below_step HXD.out hB
          clear hB
          try go_wp2_with (fail)
          refine hK.out _ _ ?_ (fun hHeld => ?_)
          · (try dsimp only); exact HXS.out _ HBA.out
          clear hK K
          try simp only [Act.put, List.setIfInBounds_toArray, List.set_cons_zero, List.set_cons_succ]
          refine wpAnyH_ready (rs := [7]) (by kernel_rfl) (by simp) ?_
          refine AllReadyH.cons (o := { dst := some 21, op := Op.call { callee := Callee.value (Operand.func 42), args := #[Operand.tmp 18, Operand.tmp 20, Operand.const (Value.bool false)], argTypes := #[22, 24, 4] }, type := 3, pos := "ref.go:298", after := #[{ on := 4, ground := Ground.data }, { on := 6, ground := Ground.data }, { on := 3, ground := Ground.chain }], guard := none }) rfl (fun K hK => ?_) ?_
          ·
            go_simp
            go_at_call 42
            refine (HBC.out _ HBA.out).mono ?_
            rintro e wB ⟨rfl, hB⟩
            have HBB : Hid (Below X.heap.size X wB) := below_step HBA.out hB
            clear hB
            try go_wp2_with (fail)
            refine hK.out _ _ ?_ (fun hHeld => ?_)
            · (try dsimp only); exact HXS.out _ HBB.out
            clear hK K
            try simp only [Act.put, List.setIfInBounds_toArray, List.set_cons_zero, List.set_cons_succ]
            refine wpAnyH_take (i := 8) (oi := { dst := some 7, op := Op.assign (Operand.tmp 17), type := 3, pos := "ref.go:298", after := #[{ on := 3, ground := Ground.data }, { on := 7, ground := Ground.chain }, { on := 0, ground := Ground.phase }, { on := 1, ground := Ground.phase }, { on := 2, ground := Ground.phase }, { on := 3, ground := Ground.phase }, { on := 4, ground := Ground.textOnly Departure.lateStores }, { on := 5, ground := Ground.textOnly Departure.lateStores }, { on := 6, ground := Ground.textOnly Departure.lateStores }, { on := 7, ground := Ground.textOnly Departure.lateStoresUnsure }], guard := none }) (v := ?_) rfl (by kernel_rfl) (by kernel_rfl) (by kernel_rfl) (fun _ _ _ h => h) (Or.inl ⟨by rfl, ?_⟩) (by assumption) ?_
            rotate_left
            · intro w hSw; (try dsimp only at hSw); go_simp; all_goals (try with_reducible rfl)
            try simp only [Act.put, List.setIfInBounds_toArray, List.set_cons_zero, List.set_cons_succ]
            refine wpAnyH_take (i := 9) (oi := { dst := some 8, op := Op.assign (Operand.tmp 21), type := 3, pos := "ref.go:298", after := #[{ on := 7, ground := Ground.data }, { on := 8, ground := Ground.chain }, { on := 0, ground := Ground.phase }, { on := 1, ground := Ground.phase }, { on := 2, ground := Ground.phase }, { on := 3, ground := Ground.phase }, { on := 4, ground := Ground.phase }, { on := 5, ground := Ground.phase }, { on := 6, ground := Ground.phase }, { on := 7, ground := Ground.phase }, { on := 8, ground := Ground.phase }], guard := none }) (v := ?_) rfl (by kernel_rfl) (by kernel_rfl) (by kernel_rfl) (fun _ _ _ h => h) (Or.inl ⟨by rfl, ?_⟩) (by assumption) ?_
            rotate_left
            · intro w hSw; (try dsimp only at hSw); go_simp; all_goals (try with_reducible rfl)
            try simp only [Act.put, List.setIfInBounds_toArray, List.set_cons_zero, List.set_cons_succ]
            refine wpAnyH_done (by kernel_rfl) ?_ _
            obtain ⟨f0, f1⟩ := HXS.out _ HBB.out
            have HW3 : Hid (Below w.heap.size w wB) := below_step HX.out HBB.out
            go_wp2_with (fail)
            go_ret
            exact ⟨by rw [HT.out]; rfl, HW3.out⟩
          exact AllReadyH.nil
        exact AllReadyH.nil
    · obtain ⟨rb, hrb1⟩ : ∃ r : Int, (∀ U, C.cov W false (List.replicate W.length false) B U → r = (C.sumL B : Nat)) ∧ ((¬ ∃ U, C.cov W false (List.replicate W.length false) B U) → r = -1) := by
        by_cases hd : ∃ U, C.cov W false (List.replicate W.length false) B U
        · exact ⟨_, fun _ _ => rfl, fun h => absurd hd h⟩
        · exact ⟨-1, fun U h => absurd ⟨U, h⟩ hd, fun _ => rfl⟩
      have HAC : Hid (∀ w2, Below X.heap.size X w2 → Calls Try.prog 42 #[.slice aw m cw, .slice aa n1 ca, .bool true] w2 fun e w' => e = .returned (.int .i64 un) ∧ Below w2.heap.size w2 w') := fun w2 h => rcovered_is W A true _ _ _ w2 (Lib.hid (HWX.out.below h (Nat.le_refl _))) (Lib.hid (HAX.out.below h)) hl hla hra ⟨fun U h => absurd ⟨U, h⟩ hu, fun _ => by rw [hun]⟩
      have HBC : Hid (∀ w2, Below X.heap.size X w2 → Calls Try.prog 42 #[.slice aw m cw, .slice ab n2 cb, .bool false] w2 fun e w' => e = .returned (.int .i64 rb) ∧ Below w2.heap.size w2 w') := fun w2 h => rcovered_is W B false _ _ _ w2 (Lib.hid (HWX.out.below h (Nat.le_refl _))) (Lib.hid (HBX.out.below h)) hl hlb hrb hrb1
      have HT := Lib.hid (HF.out fun h => hu h.2.1)
      clear hu hsA hsB hk1 hun hrb1
      go_enter Try.func24, Try.ntmps24
      go_upto_region 1 with fail
      rw [← hb, ← hX]
      clear hX hb
      go_wp2_with (fail)
      refine wp_region_held_drew (S := (fun w' => (w'.cell? ⟨b, 0, none⟩ = some (.slice aa n1 ca) ∧ w'.cell? ⟨b, 1, none⟩ = some (.slice ab n2 cb)))) (by kernel_rfl) ?_ (fun hHeld => ?_)
      · (try dsimp only); exact HXS.out _ HXD.out
      refine wpAnyH_take (i := 0) (oi := { dst := some 14, op := Op.move (Operand.tmp 0), type := 22, pos := "ref.go:298", after := #[], guard := none }) (v := ?_) rfl (by kernel_rfl) (by kernel_rfl) (by kernel_rfl) (fun _ _ _ h => h) (Or.inl ⟨by rfl, ?_⟩) (by assumption) ?_
      rotate_left
      · intro w hSw; (try dsimp only at hSw); go_simp; all_goals (try with_reducible rfl)
      try simp only [Act.put, List.setIfInBounds_toArray, List.set_cons_zero, List.set_cons_succ]
      refine wpAnyH_take (i := 1) (oi := { dst := some 15, op := Op.fieldAddr 41 (Operand.tmp 5) 0, type := 0, pos := "ref.go:298", after := #[], guard := none }) (v := ?_) rfl (by kernel_rfl) (by kernel_rfl) (by kernel_rfl) (fun _ _ _ h => h) (Or.inl ⟨by rfl, ?_⟩) (by assumption) ?_
      rotate_left
      · intro w hSw; (try dsimp only at hSw); go_simp; all_goals (try with_reducible rfl)
      try simp only [Act.put, List.setIfInBounds_toArray, List.set_cons_zero, List.set_cons_succ]
      refine wpAnyH_take (i := 2) (oi := { dst := some 16, op := Op.load 24 (Operand.tmp 15), type := 24, pos := "ref.go:298", after := #[{ on := 1, ground := Ground.data }], guard := none }) (v := ?_) rfl (by kernel_rfl) (by kernel_rfl) (by kernel_rfl) (fun _ _ _ h => h) (Or.inl ⟨by rfl, ?_⟩) (by assumption) ?_
      rotate_left
      · intro w hSw; (try dsimp only at hSw); go_simp; all_goals (try with_reducible rfl)
      try simp only [Act.put, List.setIfInBounds_toArray, List.set_cons_zero, List.set_cons_succ]
      refine wpAnyH_take (i := 4) (oi := { dst := some 18, op := Op.move (Operand.tmp 0), type := 22, pos := "ref.go:298", after := #[], guard := none }) (v := ?_) rfl (by kernel_rfl) (by kernel_rfl) (by kernel_rfl) (fun _ _ _ h => h) (Or.inl ⟨by rfl, ?_⟩) (by assumption) ?_
      rotate_left
      · intro w hSw; (try dsimp only at hSw); go_simp; all_goals (try with_reducible rfl)
      try simp only [Act.put, List.setIfInBounds_toArray, List.set_cons_zero, List.set_cons_succ]
      refine wpAnyH_take (i := 5) (oi := { dst := some 19, op := Op.fieldAddr 41 (Operand.tmp 5) 1, type := 0, pos := "ref.go:298", after := #[], guard := none }) (v := ?_) rfl (by kernel_rfl) (by kernel_rfl) (by kernel_rfl) (fun _ _ _ h => h) (Or.inl ⟨by rfl, ?_⟩) (by assumption) ?_
      rotate_left
      · intro w hSw; (try dsimp only at hSw); go_simp; all_goals (try with_reducible rfl)
      try simp only [Act.put, List.setIfInBounds_toArray, List.set_cons_zero, List.set_cons_succ]
      refine wpAnyH_take (i := 6) (oi := { dst := some 20, op := Op.load 24 (Operand.tmp 19), type := 24, pos := "ref.go:298", after := #[{ on := 5, ground := Ground.data }], guard := none }) (v := ?_) rfl (by kernel_rfl) (by kernel_rfl) (by kernel_rfl) (fun _ _ _ h => h) (Or.inl ⟨by rfl, ?_⟩) (by assumption) ?_
      rotate_left
      · intro w hSw; (try dsimp only at hSw); go_simp; all_goals (try with_reducible rfl)
      try simp only [Act.put, List.setIfInBounds_toArray, List.set_cons_zero, List.set_cons_succ]
      refine wpAnyH_ready (rs := [3]) (by kernel_rfl) (by simp) ?_
      refine AllReadyH.cons (o := { dst := some 17, op := Op.call { callee := Callee.value (Operand.func 42), args := #[Operand.tmp 14, Operand.tmp 16, Operand.const (Value.bool true)], argTypes := #[22, 24, 4] }, type := 3, pos := "ref.go:298", after := #[{ on := 0, ground := Ground.data }, { on := 2, ground := Ground.data }], guard := none }) rfl (fun K hK => ?_) ?_
      ·
        go_simp
        go_at_call 42
        refine (HAC.out _ HXD.out).mono ?_
        rintro e wA ⟨rfl, hB⟩
        have HBA : Hid (Below X.heap.size X wA) := below_step HXD.out hB
        clear hB
        try go_wp2_with (fail)
        refine hK.out _ _ ?_ (fun hHeld => ?_)
        · (try dsimp only); exact HXS.out _ HBA.out
        clear hK K
        try simp only [Act.put, List.setIfInBounds_toArray, List.set_cons_zero, List.set_cons_succ]
        refine wpAnyH_ready (rs := [7]) (by kernel_rfl) (by simp) ?_
        refine AllReadyH.cons (o := { dst := some 21, op := Op.call { callee := Callee.value (Operand.func 42), args := #[Operand.tmp 18, Operand.tmp 20, Operand.const (Value.bool false)], argTypes := #[22, 24, 4] }, type := 3, pos := "ref.go:298", after := #[{ on := 4, ground := Ground.data }, { on := 6, ground := Ground.data }, { on := 3, ground := Ground.chain }], guard := none }) rfl (fun K hK => ?_) ?_
        ·
          go_simp
          go_at_call 42
          refine (HBC.out _ HBA.out).mono ?_
          rintro e wB ⟨rfl, hB⟩
          have HBB : Hid (Below X.heap.size X wB) := below_step HBA.out hB
          clear hB
          try go_wp2_with (fail)
          refine hK.out _ _ ?_ (fun hHeld => ?_)
          · (try dsimp only); exact HXS.out _ HBB.out
          clear hK K
          try simp only [Act.put, List.setIfInBounds_toArray, List.set_cons_zero, List.set_cons_succ]
          refine wpAnyH_take (i := 8) (oi := { dst := some 7, op := Op.assign (Operand.tmp 17), type := 3, pos := "ref.go:298", after := #[{ on := 3, ground := Ground.data }, { on := 7, ground := Ground.chain }, { on := 0, ground := Ground.phase }, { on := 1, ground := Ground.phase }, { on := 2, ground := Ground.phase }, { on := 3, ground := Ground.phase }, { on := 4, ground := Ground.textOnly Departure.lateStores }, { on := 5, ground := Ground.textOnly Departure.lateStores }, { on := 6, ground := Ground.textOnly Departure.lateStores }, { on := 7, ground := Ground.textOnly Departure.lateStoresUnsure }], guard := none }) (v := ?_) rfl (by kernel_rfl) (by kernel_rfl) (by kernel_rfl) (fun _ _ _ h => h) (Or.inl ⟨by rfl, ?_⟩) (by assumption) ?_
          rotate_left
          · intro w hSw; (try dsimp only at hSw); go_simp; all_goals (try with_reducible rfl)
          try simp only [Act.put, List.setIfInBounds_toArray, List.set_cons_zero, List.set_cons_succ]
          refine wpAnyH_take (i := 9) (oi := { dst := some 8, op := Op.assign (Operand.tmp 21), type := 3, pos := "ref.go:298", after := #[{ on := 7, ground := Ground.data }, { on := 8, ground := Ground.chain }, { on := 0, ground := Ground.phase }, { on := 1, ground := Ground.phase }, { on := 2, ground := Ground.phase }, { on := 3, ground := Ground.phase }, { on := 4, ground := Ground.phase }, { on := 5, ground := Ground.phase }, { on := 6, ground := Ground.phase }, { on := 7, ground := Ground.phase }, { on := 8, ground := Ground.phase }], guard := none }) (v := ?_) rfl (by kernel_rfl) (by kernel_rfl) (by kernel_rfl) (fun _ _ _ h => h) (Or.inl ⟨by rfl, ?_⟩) (by assumption) ?_
          rotate_left
          · intro w hSw; (try dsimp only at hSw); go_simp; all_goals (try with_reducible rfl)
          try simp only [Act.put, List.setIfInBounds_toArray, List.set_cons_zero, List.set_cons_succ]
          refine wpAnyH_done (by kernel_rfl) ?_ _
          obtain ⟨f0, f1⟩ := HXS.out _ HBB.out
          have HW3 : Hid (Below w.heap.size w wB) := below_step HX.out HBB.out
          go_wp2_with (fail)
          go_ret
          exact ⟨by rw [HT.out]; rfl, HW3.out⟩
        exact AllReadyH.nil
      exact AllReadyH.nil

end Go.Proofs.Ytapidabhdbjnmaa
