/- The walks over slices.Index, Contains and Turn. -/
import Derived.Test.YtahhkbdodgjaeaaPg
namespace Go.Proofs.Ytahhkbdodgjaeaa
open Go.RowKit

set_option maxRecDepth 100000 in
set_option maxHeartbeats 1000000 in
theorem index_is (Z : List Int) (x : Int) (K : Nat) (v rv : Value) (w : World) (hr : Hid (Rd w v 1 Z.length (zs Z))) (hl : Z.length ≤ 1000000) (hK : K ≤ Z.length) (h1 : Hid (∀ j, j < K → Z.getD j 0 ≠ x)) (h2 : Hid (K < Z.length → Z.getD K 0 = x)) (hv : Hid ((K < Z.length → rv = .int .i64 (K : Nat)) ∧ (K = Z.length → rv = .int .i64 (-1)))) :
    Calls Try.prog 79 #[v, .int .i64 x] w fun e w' => e = .returned rv ∧ w' = w := by
  obtain ⟨a0, cap0, hv0⟩ := hr.out.shape
  subst hv0
  obtain ⟨m, hm⟩ : ∃ m, m = Z.length := ⟨_, rfl⟩
  have HM := Lib.hid hm
  have HRD : Hid (Rd w (.slice a0 m cap0) 1 Z.length (zs Z)) := by show Rd _ _ _ _ _; rw [hm]; exact hr.out
  rw [← hm] at hl hK h2 hv ⊢
  clear hm hr
  go_enter Try.func79, Try.ntmps79
  go_wp2_with (fail)
  go_loopw [8] (fun iv wx => ∃ (i : Nat), iv = .int .i64 i ∧ i ≤ K ∧ wx = w) (fun iv _ => m - (intOf iv).toNat)
  case atStart => exact ⟨0, rfl, by omega, rfl⟩
  case round =>
    obtain ⟨i, rfl, him, rfl⟩ := hrel
    by_cases hin : i < m
    · have hiL : i < Z.length := by rw [← HM.out]; exact hin
      obtain ⟨b0, e0, _, hc9⟩ := zat HRD.out i hiL
      subst e0
      obtain ⟨y, hy⟩ : ∃ y, y = Z.getD i 0 := ⟨_, rfl⟩
      rw [← hy] at hc9
      have hin1 : (i : Int) < (m : Int) := by omega
      by_cases hxy : x = y
      · have hKi : K = i := by
          rcases Nat.lt_or_ge i K with e | e
          · exact absurd (hy.symm.trans hxy.symm) (h1.out i e)
          · omega
        subst hKi
        have hd : (x == y) = true := by simpa using hxy
        have HR := Lib.hid (hv.out.1 hin)
        clear hy hxy hin
        go_wp2_with (fail)
        go_ret
        exact ⟨by rw [HR.out]; rfl, rfl⟩
      · have hd : (x == y) = false := by simpa using hxy
        have hKi : i + 1 ≤ K := by
          rcases Nat.lt_or_ge i K with e | e
          · omega
          · obtain rfl : i = K := by omega
            exact absurd ((h2.out hin).symm.trans hy.symm) hxy
        clear hy hxy
        go_wp2_with (fail)
        go_roundw
        case rel => exact ⟨i + 1, by first | rfl | go_num, hKi, by first | rfl | trivial⟩
        case measure => simp [intOf]; omega
    · obtain rfl : m = i := by omega
      have HR := Lib.hid (hv.out.2 (by omega))
      clear hin
      go_wp2_with (fail)
      go_ret
      exact ⟨by rw [HR.out]; rfl, rfl⟩

theorem first_at (Z : List Int) (x : Int) : ∃ K, K ≤ Z.length ∧ (∀ j, j < K → Z.getD j 0 ≠ x) ∧ (K < Z.length → Z.getD K 0 = x) ∧ (x ∈ Z ↔ K < Z.length) := by
  induction Z with
  | nil => exact ⟨0, by simp, fun j h => by omega, fun h => by simp at h, by simp⟩
  | cons y Z ih =>
    by_cases e : y = x
    · exact ⟨0, by simp, fun j h => by omega, fun _ => e, by simp [e]⟩
    · obtain ⟨K, h1, h2, h3, h4⟩ := ih
      refine ⟨K + 1, by simp; omega, fun j hj => ?_, fun h => ?_, ?_⟩
      · cases j with
        | zero => exact e
        | succ j => exact h2 j (by omega)
      · exact h3 (by simpa using h)
      · simp only [List.mem_cons, List.length_cons]
        constructor
        · rintro (h | h)
          · exact absurd h.symm e
          · have := h4.1 h; omega
        · intro h; right; exact h4.2 (by omega)

set_option maxRecDepth 100000 in
theorem contains_is (Z : List Int) (x : Int) (t : Bool) (v : Value) (w : World) (hr : Hid (Rd w v 1 Z.length (zs Z))) (hl : Z.length ≤ 1000000) (ht : Hid (x ∈ Z ↔ t = true)) :
    Calls Try.prog 60 #[v, .int .i64 x] w fun e w' => e = .returned (.bool t) ∧ w' = w := by
  obtain ⟨K, h1, h2, h3, h4⟩ := first_at Z x
  have H2 := Lib.hid h2
  have H3 := Lib.hid h3
  obtain ⟨a0, cap0, hv0⟩ := hr.out.shape
  subst hv0
  by_cases hK : K < Z.length
  · have HT : Hid (t = true) := ht.out.1 (h4.2 hK)
    have HI := Lib.hid (index_is Z x K _ (.int .i64 (K : Nat)) w hr hl h1 H2 H3 ⟨fun _ => rfl, fun h => by omega⟩)
    clear h1 h2 h3 h4 hK hr
    go_enter Try.func60, Try.ntmps60
    go_wp2_with (fail)
    refine HI.out.mono ?_
    rintro e w2 ⟨rfl, rfl⟩
    go_wp2_with (fail)
    go_ret
    exact ⟨by rw [HT.out]; first | rfl | simp, rfl⟩
  · have HT : Hid (t = false) := by
      show _ = _
      cases t with
      | false => rfl
      | true => exact absurd (h4.1 (ht.out.2 rfl)) hK
    have HI := Lib.hid (index_is Z x K _ (.int .i64 (-1)) w hr hl h1 H2 H3 ⟨fun h => absurd h hK, fun _ => rfl⟩)
    clear h1 h2 h3 h4 hK hr
    go_enter Try.func60, Try.ntmps60
    go_wp2_with (fail)
    refine HI.out.mono ?_
    rintro e w2 ⟨rfl, rfl⟩
    go_wp2_with (fail)
    go_ret
    exact ⟨by rw [HT.out]; first | rfl | simp, rfl⟩

end Go.Proofs.Ytahhkbdodgjaeaa
