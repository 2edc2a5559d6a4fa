/- The walks over isFamilySize, isRight and Check. -/
import Derived.Test.YtapidabhdbjnmaaKd
namespace Go.Proofs.Ytapidabhdbjnmaa
open Go.RowKit

/-- The definition of a right family. -/
def RightF (W : List Int) (k : Nat) (A B : List (List Int)) : Prop :=
  A.length ≤ k ∧ (∃ U, C.cov W true (List.replicate W.length false) A U) ∧ (∃ U, C.cov W false (List.replicate W.length false) B U) ∧ (C.sumL A : Int) = (k : Int) * (B.length : Int) + (W.length : Int) - (C.sumL B : Int)

theorem C.sumL_le : ∀ (L : List (List Int)), (∀ Z ∈ L, Z.length ≤ 61) → C.sumL L ≤ L.length * 61
  | [], _ => by simp [C.sumL]
  | Z :: L, h => by
    have h1 := h Z (by simp)
    have h2 := C.sumL_le L fun Y hY => h Y (by simp [hY])
    rw [C.sumL, List.length_cons]; omega

theorem cell2 {W : World} {p : Nat} {v0 v1 : Value} {T : TypeId} {k : Nat × Nat} (h : W.heap[p]? = some (.cells #[v0, v1] T k)) : W.cell? ⟨p, 0, none⟩ = some v0 ∧ W.cell? ⟨p, 1, none⟩ = some v1 := by
  simp [World.cell?, h]

set_option maxRecDepth 100000 in
theorem isFamilySize_is (k : Int) (t : Bool) (w : World) (ht : Hid ((1 ≤ k ∧ k ≤ 60) ↔ t = true)) : Calls Try.prog 40 #[.int .i64 k] w fun e w' => e = .returned (.bool t) ∧ w' = w := by
  by_cases h1 : 1 ≤ k
  · have hd1 : decide (1 ≤ k) = true := by simpa using h1
    by_cases h2 : k ≤ 60
    · have hd2 : decide (k ≤ 60) = true := by simpa using h2
      have HT : Hid (t = true) := ht.out.1 ⟨h1, h2⟩
      clear h1 h2
      go_enter Try.func40, Try.ntmps40
      go_wp2_with (fail)
      go_ret
      exact ⟨by rw [HT.out]; rfl, rfl⟩
    · have hd2 : decide (k ≤ 60) = false := by simpa using h2
      have HT : Hid (t = false) := by
        show _ = _
        cases t with
        | false => rfl
        | true => exact absurd (ht.out.2 rfl).2 h2
      clear h1 h2
      go_enter Try.func40, Try.ntmps40
      go_wp2_with (fail)
      go_ret
      exact ⟨by rw [HT.out]; rfl, rfl⟩
  · have hd1 : decide (1 ≤ k) = false := by simpa using h1
    have HT : Hid (t = false) := by
      show _ = _
      cases t with
      | false => rfl
      | true => exact absurd (ht.out.2 rfl).1 h1
    clear h1
    go_enter Try.func40, Try.ntmps40
    go_wp2_with (fail)
    go_ret
    exact ⟨by rw [HT.out]; rfl, rfl⟩

set_option maxRecDepth 100000 in
set_option maxHeartbeats 4000000 in
theorem isRight_is (W : List Int) (A B : List (List Int)) (k : Nat) (vw va vb : Value) (t : Bool) (w : World) (hw : Hid (Rd w vw 1 W.length (zs W))) (hA : Hid (RdZ w va A)) (hB : Hid (RdZ w vb B)) (hl : W.length ≤ 60) (hla : A.length ≤ 61) (hlb : B.length ≤ 61) (hra : Hid (∀ Z ∈ A, Z.length ≤ 61)) (hrb : Hid (∀ Z ∈ B, Z.length ≤ 61)) (hk : k ≤ 60)
    (ht : Hid (RightF W k A B ↔ t = true)) : Calls Try.prog 41 #[vw, .int .i64 k, .agg #[va, vb]] w fun e w' => e = .returned (.bool t) ∧ Below w.heap.size w w' := by
  obtain ⟨aw, cw, hvw⟩ := hw.out.shape
  obtain ⟨aa, ca, hva⟩ := hA.out.shape'
  obtain ⟨ab, cb, hvb⟩ := hB.out.shape'
  subst hvw hva hvb
  obtain ⟨m, hm⟩ : ∃ m, m = W.length := ⟨_, rfl⟩
  obtain ⟨n1, hn1⟩ : ∃ n, n = A.length := ⟨_, rfl⟩
  obtain ⟨n2, hn2⟩ : ∃ n, n = B.length := ⟨_, rfl⟩
  obtain ⟨b, hb⟩ : ∃ b, b = w.heap.size := ⟨_, rfl⟩
  have HM := Lib.hid (And.intro hm (And.intro hn1 hn2))
  rw [← hm] at hw ⊢
  rw [← hn1] at hA ⊢
  rw [← hn2] at hB ⊢
  obtain ⟨X, hX⟩ : ∃ X, X = w.alloc (.cells #[.slice aa n1 ca, .slice ab n2 cb] 41) := ⟨_, rfl⟩
  have HX : Hid (Below w.heap.size w X) := by rw [hX]; exact (Below.refl _ _).alloc (Nat.le_refl _) _
  have HQ : Hid (X.heap[b]? = some (.cells #[.slice aa n1 ca, .slice ab n2 cb] 41 (0, 0))) := by rw [hX, hb]; exact heap_alloc_new _ _
  obtain ⟨c0, c1⟩ := cell2 HQ.out
  have HPS : Hid (b < X.heap.size) := (Array.getElem?_eq_some_iff.1 HQ.out).1
  have HWX : Hid (Rd X (.slice aw m cw) 1 W.length (zs W)) := by have h9 := hw.out.below HX.out (Nat.le_refl _); show Rd _ _ _ _ _; rw [← HM.out.1]; exact h9
  have HAX : Hid (RdZ X (.slice aa n1 ca) A) := hA.out.below HX.out
  have HBX : Hid (RdZ X (.slice ab n2 cb) B) := hB.out.below HX.out
  have HAL := Lib.hid (C.sumL_le A hra.out)
  have HBL := Lib.hid (C.sumL_le B hrb.out)
  have hfalse : ¬ RightF W k A B → t = false := fun h => by
    cases t with
    | false => rfl
    | true => exact absurd (ht.out.2 rfl) h
  have HF := Lib.hid hfalse
  have hn1l : n1 ≤ 61 := by omega
  have hn2l : n2 ≤ 61 := by omega
  have hm60 : m ≤ 60 := by omega
  clear hw hA hB hm hn1 hn2 hfalse
  by_cases h1 : k < n1
  · have HT := Lib.hid (HF.out fun h => by have h9 := h.1; have := HM.out.2.1; omega)
    have hd1 : decide (k < n1) = true := by simpa using h1
    clear h1
    go_enter Try.func41, Try.ntmps41
    go_upto_region 1 with fail
    rw [← hb, ← hX]
    clear hX hb
    go_wp2_with (fail)
    go_ret
    exact ⟨by rw [HT.out]; rfl, HX.out⟩
  · have hd1 : decide (k < n1) = false := by simpa using h1
    have hk1 : n1 ≤ k := by omega
    clear h1
    have HWX0 : Hid (Rd X (.slice aw m cw) 1 W.length (zs W)) := HWX
    have HAX0 : Hid (RdZ X (.slice aa n1 ca) A) := HAX
    obtain ⟨sA, hsA⟩ : ∃ s, s = C.sumL A := ⟨_, rfl⟩
    obtain ⟨sB, hsB⟩ : ∃ s, s = C.sumL B := ⟨_, rfl⟩
    have HS := Lib.hid (And.intro hsA hsB)
    rw [← hsA] at HAL
    rw [← hsB] at HBL
    by_cases hu : ∃ U, C.cov W true (List.replicate W.length false) A U
    · have HU := Lib.hid (coveredU W A _ _ (.tuple #[.int .i64 (sA : Nat), .bool true]) X HWX0 HAX0 hl hla hra ⟨fun _ _ => by rw [hsA], fun h => absurd hu h⟩)
      by_cases hd : ∃ U, C.cov W false (List.replicate W.length false) B U
      · have HD := Lib.hid (fun w2 (h : Below X.heap.size X w2) => coveredD W B (.slice aw m cw) (.slice ab n2 cb) (.tuple #[.int .i64 (sB : Nat), .bool true]) w2 (Lib.hid (HWX.out.below h (Nat.le_refl _))) (Lib.hid (HBX.out.below h)) hl hlb hrb ⟨fun _ _ => by rw [hsB], fun h => absurd hd h⟩)
        have hAl : sA ≤ 61 * 61 := by have := HAL.out; omega
        have hBl : sB ≤ 61 * 61 := by have := HBL.out; omega
        obtain ⟨q, hq⟩ : ∃ q, q = k * n2 := ⟨_, rfl⟩
        have hql : q ≤ 60 * 61 := by rw [hq]; exact Nat.mul_le_mul hk hn2l
        have hqz : (k : Int) * (n2 : Int) = (q : Int) := by rw [hq]; rfl
        have HTE : Hid (decide ((sA : Int) = (q : Int) + (m : Int) - (sB : Int)) = t) := by
          show _ = _
          have e : RightF W k A B ↔ (sA : Int) = (q : Int) + (m : Int) - (sB : Int) := by
            unfold RightF
            rw [← HM.out.1, ← HM.out.2.1, ← HM.out.2.2, ← hsA, ← hsB, hqz]
            refine ⟨fun h => h.2.2.2, fun h => ⟨hk1, ?_, ?_, h⟩⟩
            · rw [HM.out.1]; exact hu
            · rw [HM.out.1]; exact hd
          cases t with
          | true => rw [decide_eq_true_iff]; exact e.1 (ht.out.2 rfl)
          | false => rw [decide_eq_false_iff_not]; intro h; exact absurd (ht.out.1 (e.2 h)) (by simp)
        clear hu hd hsA hsB hq hk1 HWX0 HAX0
        go_enter Try.func41, Try.ntmps41
        go_upto_region 1 with fail
        rw [← hb, ← hX]
        clear hX hb
        go_wp2_with (fail)
        refine HU.out.mono ?_
        rintro e w2 ⟨rfl, hB⟩
        have HB2 : Hid (Below X.heap.size X w2) := hB
        have HW2 : Hid (Below w.heap.size w w2) := below_step HX.out hB
        have HQ2 : Hid (w2.heap[b]? = some (.cells #[.slice aa n1 ca, .slice ab n2 cb] 41 (0, 0))) := by
          show _ = _
          rw [hB.block b HPS.out]; exact HQ.out
        obtain ⟨d0, d1⟩ := cell2 HQ2.out
        have HPS2 : Hid (b < w2.heap.size) := Nat.lt_of_lt_of_le HPS.out hB.size
        clear hB
        go_wp2_with (fail)
        refine (HD.out _ HB2.out).mono ?_
        rintro e w3 ⟨rfl, hB⟩
        have HW3 : Hid (Below w.heap.size w w3) := below_step HW2.out hB
        have HQ3 : Hid (w3.heap[b]? = some (.cells #[.slice aa n1 ca, .slice ab n2 cb] 41 (0, 0))) := by
          show _ = _
          rw [hB.block b HPS2.out]; exact HQ2.out
        obtain ⟨f0, f1⟩ := cell2 HQ3.out
        clear hB
        go_wp2_with (fail)
        go_ret
        exact ⟨by rw [← HTE.out]; rfl, HW3.out⟩
      · have HD := Lib.hid (fun w2 (h : Below X.heap.size X w2) => coveredD W B (.slice aw m cw) (.slice ab n2 cb) (.tuple #[.int .i64 0, .bool false]) w2 (Lib.hid (HWX.out.below h (Nat.le_refl _))) (Lib.hid (HBX.out.below h)) hl hlb hrb ⟨fun U h => absurd ⟨U, h⟩ hd, fun _ => rfl⟩)
        have HT := Lib.hid (HF.out fun h => hd h.2.2.1)
        clear hu hd hsA hsB hk1 HWX0 HAX0
        go_enter Try.func41, Try.ntmps41
        go_upto_region 1 with fail
        rw [← hb, ← hX]
        clear hX hb
        go_wp2_with (fail)
        refine HU.out.mono ?_
        rintro e w2 ⟨rfl, hB⟩
        have HB2 : Hid (Below X.heap.size X w2) := hB
        have HW2 : Hid (Below w.heap.size w w2) := below_step HX.out hB
        have HQ2 : Hid (w2.heap[b]? = some (.cells #[.slice aa n1 ca, .slice ab n2 cb] 41 (0, 0))) := by
          show _ = _
          rw [hB.block b HPS.out]; exact HQ.out
        obtain ⟨d0, d1⟩ := cell2 HQ2.out
        have HPS2 : Hid (b < w2.heap.size) := Nat.lt_of_lt_of_le HPS.out hB.size
        clear hB
        go_wp2_with (fail)
        refine (HD.out _ HB2.out).mono ?_
        rintro e w3 ⟨rfl, hB⟩
        have HW3 : Hid (Below w.heap.size w w3) := below_step HW2.out hB
        have HQ3 : Hid (w3.heap[b]? = some (.cells #[.slice aa n1 ca, .slice ab n2 cb] 41 (0, 0))) := by
          show _ = _
          rw [hB.block b HPS2.out]; exact HQ2.out
        obtain ⟨f0, f1⟩ := cell2 HQ3.out
        clear hB
        go_wp2_with (fail)
        go_ret
        exact ⟨by rw [HT.out]; rfl, HW3.out⟩
    · have HU := Lib.hid (coveredU W A _ _ (.tuple #[.int .i64 0, .bool false]) X HWX0 HAX0 hl hla hra ⟨fun U h => absurd ⟨U, h⟩ hu, fun _ => rfl⟩)
      have HT := Lib.hid (HF.out fun h => hu h.2.1)
      clear hu hsA hsB hk1 HWX0 HAX0
      go_enter Try.func41, Try.ntmps41
      go_upto_region 1 with fail
      rw [← hb, ← hX]
      clear hX hb
      go_wp2_with (fail)
      refine HU.out.mono ?_
      rintro e w2 ⟨rfl, hB⟩
      have HB2 : Hid (Below X.heap.size X w2) := hB
      have HW2 : Hid (Below w.heap.size w w2) := below_step HX.out hB
      have HQ2 : Hid (w2.heap[b]? = some (.cells #[.slice aa n1 ca, .slice ab n2 cb] 41 (0, 0))) := by
        show _ = _
        rw [hB.block b HPS.out]; exact HQ.out
      obtain ⟨d0, d1⟩ := cell2 HQ2.out
      have HPS2 : Hid (b < w2.heap.size) := Nat.lt_of_lt_of_le HPS.out hB.size
      clear hB
      go_wp2_with (fail)
      go_ret
      exact ⟨by rw [HT.out]; rfl, HW2.out⟩

end Go.Proofs.Ytapidabhdbjnmaa
