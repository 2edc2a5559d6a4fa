/- The walk over Check. -/
import Derived.Test.YtapidabhdbjnmaaKe
namespace Go.Proofs.Ytapidabhdbjnmaa
open Go.RowKit

set_option maxRecDepth 100000 in
set_option maxHeartbeats 4000000 in
theorem Check_word (W : List Int) (A B : List (List Int)) (k : Int) (vw va vb : Value) (w : World) (hw : Hid (Rd w vw 1 W.length (zs W))) (hA : Hid (RdZ w va A)) (hB : Hid (RdZ w vb B)) (hl : W.length ≤ 61) (hla : A.length ≤ 61) (hlb : B.length ≤ 61) (hra : Hid (∀ Z ∈ A, Z.length ≤ 61)) (hrb : Hid (∀ Z ∈ B, Z.length ≤ 61)) (hn : ¬ WordI W) :
    Calls Try.prog 22 #[vw, .int .i64 k, .agg #[va, vb]] w fun e w' => e = .returned (.int .i64 2) ∧ Below w.heap.size w w' := by
  obtain ⟨aw, cw, hvw⟩ := hw.out.shape
  obtain ⟨aa, ca, hva⟩ := hA.out.shape'
  obtain ⟨ab, cb, hvb⟩ := hB.out.shape'
  subst hvw hva hvb
  obtain ⟨m, hm⟩ : ∃ m, m = W.length := ⟨_, rfl⟩
  obtain ⟨n1, hn1⟩ : ∃ n, n = A.length := ⟨_, rfl⟩
  obtain ⟨n2, hn2⟩ : ∃ n, n = B.length := ⟨_, rfl⟩
  obtain ⟨b, hb⟩ : ∃ b, b = w.heap.size := ⟨_, rfl⟩
  have HM := Lib.hid (And.intro hm (And.intro hn1 hn2))
  rw [← hm] at hw ⊢
  rw [← hn1] at hA ⊢
  rw [← hn2] at hB ⊢
  obtain ⟨X, hX⟩ : ∃ X, X = w.alloc (.cells #[.slice aa n1 ca, .slice ab n2 cb] 41) := ⟨_, rfl⟩
  have HX : Hid (Below w.heap.size w X) := by rw [hX]; exact (Below.refl _ _).alloc (Nat.le_refl _) _
  have HQ : Hid (X.heap[b]? = some (.cells #[.slice aa n1 ca, .slice ab n2 cb] 41 (0, 0))) := by rw [hX, hb]; exact heap_alloc_new _ _
  obtain ⟨c0, c1⟩ := cell2 HQ.out
  have HPS : Hid (b < X.heap.size) := (Array.getElem?_eq_some_iff.1 HQ.out).1
  have HWX : Hid (Rd X (.slice aw m cw) 1 W.length (zs W)) := by have h9 := hw.out.below HX.out (Nat.le_refl _); show Rd _ _ _ _ _; rw [← HM.out.1]; exact h9
  have HAX : Hid (RdZ X (.slice aa n1 ca) A) := hA.out.below HX.out
  have HBX : Hid (RdZ X (.slice ab n2 cb) B) := hB.out.below HX.out
  have HWD := Lib.hid (isWord_is W _ false X HWX (by omega) ⟨fun h => absurd h hn, fun h => (by cases h)⟩)
  clear hn hw hA hB hm hn1 hn2
  go_enter Try.func22, Try.ntmps22
  go_upto_region 1 with fail
  rw [← hb, ← hX]
  clear hX hb
  go_wp2_with (fail)
  refine HWD.out.mono ?_
  rintro e w2 ⟨rfl, hw2⟩
  subst hw2
  go_wp2_with (fail)
  go_ret
  exact ⟨rfl, HX.out⟩

set_option maxRecDepth 100000 in
set_option maxHeartbeats 4000000 in
theorem Check_size (W : List Int) (A B : List (List Int)) (k : Int) (vw va vb : Value) (w : World) (hw : Hid (Rd w vw 1 W.length (zs W))) (hA : Hid (RdZ w va A)) (hB : Hid (RdZ w vb B)) (hl : W.length ≤ 61) (hla : A.length ≤ 61) (hlb : B.length ≤ 61) (hra : Hid (∀ Z ∈ A, Z.length ≤ 61)) (hrb : Hid (∀ Z ∈ B, Z.length ≤ 61)) (hn : WordI W) (hk : ¬ (1 ≤ k ∧ k ≤ 60)) :
    Calls Try.prog 22 #[vw, .int .i64 k, .agg #[va, vb]] w fun e w' => e = .returned (.int .i64 2) ∧ Below w.heap.size w w' := by
  obtain ⟨aw, cw, hvw⟩ := hw.out.shape
  obtain ⟨aa, ca, hva⟩ := hA.out.shape'
  obtain ⟨ab, cb, hvb⟩ := hB.out.shape'
  subst hvw hva hvb
  obtain ⟨m, hm⟩ : ∃ m, m = W.length := ⟨_, rfl⟩
  obtain ⟨n1, hn1⟩ : ∃ n, n = A.length := ⟨_, rfl⟩
  obtain ⟨n2, hn2⟩ : ∃ n, n = B.length := ⟨_, rfl⟩
  obtain ⟨b, hb⟩ : ∃ b, b = w.heap.size := ⟨_, rfl⟩
  have HM := Lib.hid (And.intro hm (And.intro hn1 hn2))
  rw [← hm] at hw ⊢
  rw [← hn1] at hA ⊢
  rw [← hn2] at hB ⊢
  obtain ⟨X, hX⟩ : ∃ X, X = w.alloc (.cells #[.slice aa n1 ca, .slice ab n2 cb] 41) := ⟨_, rfl⟩
  have HX : Hid (Below w.heap.size w X) := by rw [hX]; exact (Below.refl _ _).alloc (Nat.le_refl _) _
  have HQ : Hid (X.heap[b]? = some (.cells #[.slice aa n1 ca, .slice ab n2 cb] 41 (0, 0))) := by rw [hX, hb]; exact heap_alloc_new _ _
  obtain ⟨c0, c1⟩ := cell2 HQ.out
  have HPS : Hid (b < X.heap.size) := (Array.getElem?_eq_some_iff.1 HQ.out).1
  have HWX : Hid (Rd X (.slice aw m cw) 1 W.length (zs W)) := by have h9 := hw.out.below HX.out (Nat.le_refl _); show Rd _ _ _ _ _; rw [← HM.out.1]; exact h9
  have HAX : Hid (RdZ X (.slice aa n1 ca) A) := hA.out.below HX.out
  have HBX : Hid (RdZ X (.slice ab n2 cb) B) := hB.out.below HX.out
  have HWD := Lib.hid (isWord_is W _ true X HWX (by omega) ⟨fun _ => rfl, fun _ => hn⟩)
  have HFS := Lib.hid (isFamilySize_is k false X ⟨fun h => absurd h hk, fun h => (by cases h)⟩)
  clear hn hk hw hA hB hm hn1 hn2
  go_enter Try.func22, Try.ntmps22
  go_upto_region 1 with fail
  rw [← hb, ← hX]
  clear hX hb
  go_wp2_with (fail)
  refine HWD.out.mono ?_
  rintro e w2 ⟨rfl, hw2⟩
  subst hw2
  go_wp2_with (fail)
  refine HFS.out.mono ?_
  rintro e w2 ⟨rfl, hw2⟩
  subst hw2
  go_wp2_with (fail)
  go_ret
  exact ⟨rfl, HX.out⟩

set_option maxRecDepth 100000 in
set_option maxHeartbeats 4000000 in
theorem Check_right (W : List Int) (A B : List (List Int)) (k : Nat) (vw va vb : Value) (w : World) (hw : Hid (Rd w vw 1 W.length (zs W))) (hA : Hid (RdZ w va A)) (hB : Hid (RdZ w vb B)) (hl : W.length ≤ 61) (hla : A.length ≤ 61) (hlb : B.length ≤ 61) (hra : Hid (∀ Z ∈ A, Z.length ≤ 61)) (hrb : Hid (∀ Z ∈ B, Z.length ≤ 61)) (hn : WordI W) (hk1 : 1 ≤ k) (hk2 : k ≤ 60) (hr : RightF W k A B) :
    Calls Try.prog 22 #[vw, .int .i64 (k : Int), .agg #[va, vb]] w fun e w' => e = .returned (.int .i64 0) ∧ Below w.heap.size w w' := by
  obtain ⟨aw, cw, hvw⟩ := hw.out.shape
  obtain ⟨aa, ca, hva⟩ := hA.out.shape'
  obtain ⟨ab, cb, hvb⟩ := hB.out.shape'
  subst hvw hva hvb
  obtain ⟨m, hm⟩ : ∃ m, m = W.length := ⟨_, rfl⟩
  obtain ⟨n1, hn1⟩ : ∃ n, n = A.length := ⟨_, rfl⟩
  obtain ⟨n2, hn2⟩ : ∃ n, n = B.length := ⟨_, rfl⟩
  obtain ⟨b, hb⟩ : ∃ b, b = w.heap.size := ⟨_, rfl⟩
  have HM := Lib.hid (And.intro hm (And.intro hn1 hn2))
  rw [← hm] at hw ⊢
  rw [← hn1] at hA ⊢
  rw [← hn2] at hB ⊢
  obtain ⟨X, hX⟩ : ∃ X, X = w.alloc (.cells #[.slice aa n1 ca, .slice ab n2 cb] 41) := ⟨_, rfl⟩
  have HX : Hid (Below w.heap.size w X) := by rw [hX]; exact (Below.refl _ _).alloc (Nat.le_refl _) _
  have HQ : Hid (X.heap[b]? = some (.cells #[.slice aa n1 ca, .slice ab n2 cb] 41 (0, 0))) := by rw [hX, hb]; exact heap_alloc_new _ _
  obtain ⟨c0, c1⟩ := cell2 HQ.out
  have HPS : Hid (b < X.heap.size) := (Array.getElem?_eq_some_iff.1 HQ.out).1
  have HWX : Hid (Rd X (.slice aw m cw) 1 W.length (zs W)) := by have h9 := hw.out.below HX.out (Nat.le_refl _); show Rd _ _ _ _ _; rw [← HM.out.1]; exact h9
  have HAX : Hid (RdZ X (.slice aa n1 ca) A) := hA.out.below HX.out
  have HBX : Hid (RdZ X (.slice ab n2 cb) B) := hB.out.below HX.out
  have HWD := Lib.hid (isWord_is W _ true X HWX (by omega) ⟨fun _ => rfl, fun _ => hn⟩)
  have HFS := Lib.hid (isFamilySize_is (k : Int) true X ⟨fun _ => rfl, fun _ => by omega⟩)
  have HRI := Lib.hid (isRight_is W A B k (.slice aw m cw) (.slice aa n1 ca) (.slice ab n2 cb) true X HWX HAX HBX hn.1 hla hlb hra hrb hk2 ⟨fun _ => rfl, fun _ => hr⟩)
  clear hn hk1 hk2 hr hw hA hB hm hn1 hn2
  go_enter Try.func22, Try.ntmps22
  go_upto_region 1 with fail
  rw [← hb, ← hX]
  clear hX hb
  go_wp2_with (fail)
  refine HWD.out.mono ?_
  rintro e w2 ⟨rfl, hw2⟩
  subst hw2
  go_wp2_with (fail)
  refine HFS.out.mono ?_
  rintro e w2 ⟨rfl, hw2⟩
  subst hw2
  go_wp2_with (fail)
  refine HRI.out.mono ?_
  rintro e w3 ⟨rfl, hB3⟩
  have HW3 : Hid (Below w.heap.size w w3) := below_step HX.out hB3
  clear hB3
  go_wp2_with (fail)
  go_ret
  exact ⟨rfl, HW3.out⟩

set_option maxRecDepth 100000 in
set_option maxHeartbeats 4000000 in
theorem Check_wrong (W : List Int) (A B : List (List Int)) (k : Nat) (vw va vb : Value) (w : World) (hw : Hid (Rd w vw 1 W.length (zs W))) (hA : Hid (RdZ w va A)) (hB : Hid (RdZ w vb B)) (hl : W.length ≤ 61) (hla : A.length ≤ 61) (hlb : B.length ≤ 61) (hra : Hid (∀ Z ∈ A, Z.length ≤ 61)) (hrb : Hid (∀ Z ∈ B, Z.length ≤ 61)) (hn : WordI W) (hk1 : 1 ≤ k) (hk2 : k ≤ 60) (hr : ¬ RightF W k A B) :
    Calls Try.prog 22 #[vw, .int .i64 (k : Int), .agg #[va, vb]] w fun e w' => e = .returned (.int .i64 10) ∧ Below w.heap.size w w' := by
  obtain ⟨aw, cw, hvw⟩ := hw.out.shape
  obtain ⟨aa, ca, hva⟩ := hA.out.shape'
  obtain ⟨ab, cb, hvb⟩ := hB.out.shape'
  subst hvw hva hvb
  obtain ⟨m, hm⟩ : ∃ m, m = W.length := ⟨_, rfl⟩
  obtain ⟨n1, hn1⟩ : ∃ n, n = A.length := ⟨_, rfl⟩
  obtain ⟨n2, hn2⟩ : ∃ n, n = B.length := ⟨_, rfl⟩
  obtain ⟨b, hb⟩ : ∃ b, b = w.heap.size := ⟨_, rfl⟩
  have HM := Lib.hid (And.intro hm (And.intro hn1 hn2))
  rw [← hm] at hw ⊢
  rw [← hn1] at hA ⊢
  rw [← hn2] at hB ⊢
  obtain ⟨X, hX⟩ : ∃ X, X = w.alloc (.cells #[.slice aa n1 ca, .slice ab n2 cb] 41) := ⟨_, rfl⟩
  have HX : Hid (Below w.heap.size w X) := by rw [hX]; exact (Below.refl _ _).alloc (Nat.le_refl _) _
  have HQ : Hid (X.heap[b]? = some (.cells #[.slice aa n1 ca, .slice ab n2 cb] 41 (0, 0))) := by rw [hX, hb]; exact heap_alloc_new _ _
  obtain ⟨c0, c1⟩ := cell2 HQ.out
  have HPS : Hid (b < X.heap.size) := (Array.getElem?_eq_some_iff.1 HQ.out).1
  have HWX : Hid (Rd X (.slice aw m cw) 1 W.length (zs W)) := by have h9 := hw.out.below HX.out (Nat.le_refl _); show Rd _ _ _ _ _; rw [← HM.out.1]; exact h9
  have HAX : Hid (RdZ X (.slice aa n1 ca) A) := hA.out.below HX.out
  have HBX : Hid (RdZ X (.slice ab n2 cb) B) := hB.out.below HX.out
  have HWD := Lib.hid (isWord_is W _ true X HWX (by omega) ⟨fun _ => rfl, fun _ => hn⟩)
  have HFS := Lib.hid (isFamilySize_is (k : Int) true X ⟨fun _ => rfl, fun _ => by omega⟩)
  have HRI := Lib.hid (isRight_is W A B k (.slice aw m cw) (.slice aa n1 ca) (.slice ab n2 cb) false X HWX HAX HBX hn.1 hla hlb hra hrb hk2 ⟨fun h => absurd h hr, fun h => (by cases h)⟩)
  clear hn hk1 hk2 hr hw hA hB hm hn1 hn2
  go_enter Try.func22, Try.ntmps22
  go_upto_region 1 with fail
  rw [← hb, ← hX]
  clear hX hb
  go_wp2_with (fail)
  refine HWD.out.mono ?_
  rintro e w2 ⟨rfl, hw2⟩
  subst hw2
  go_wp2_with (fail)
  refine HFS.out.mono ?_
  rintro e w2 ⟨rfl, hw2⟩
  subst hw2
  go_wp2_with (fail)
  refine HRI.out.mono ?_
  rintro e w3 ⟨rfl, hB3⟩
  have HW3 : Hid (Below w.heap.size w w3) := below_step HX.out hB3
  clear hB3
  go_wp2_with (fail)
  go_ret
  exact ⟨rfl, HW3.out⟩

end Go.Proofs.Ytapidabhdbjnmaa
