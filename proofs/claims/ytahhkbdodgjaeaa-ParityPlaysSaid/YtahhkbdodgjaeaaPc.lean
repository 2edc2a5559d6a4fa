/- The walks over the questions whether lists ascend. -/
import Derived.Test.YtahhkbdodgjaeaaPa
namespace Go.Proofs.Ytahhkbdodgjaeaa
open Go.RowKit

def gA (n : Nat) (Z : List Int) (j : Nat) : Prop := 0 ≤ Z.getD j 0 ∧ Z.getD j 0 < n ∧ (0 < j → Z.getD (j - 1) 0 < Z.getD j 0)
def AscZ (n : Nat) (Z : List Int) : Prop := ∀ j, j < Z.length → gA n Z j

set_option maxRecDepth 100000 in
theorem isPlayer_is (x : Int) (t : Bool) (w : World) (ht : Hid ((x = 0 ∨ x = 1) ↔ t = true)) : Calls Try.prog 44 #[.int .i64 x] w fun e w' => e = .returned (.bool t) ∧ w' = w := by
  by_cases h0 : x = 0
  · have HT : Hid (t = true) := ht.out.1 (.inl h0)
    subst h0
    go_enter Try.func44, Try.ntmps44
    go_wp2_with (fail)
    go_ret
    exact ⟨by rw [HT.out]; rfl, rfl⟩
  · have hd : (x == 0) = false := by simpa using h0
    by_cases h1 : x = 1
    · have HT : Hid (t = true) := ht.out.1 (.inr h1)
      subst h1
      clear h0
      go_enter Try.func44, Try.ntmps44
      go_wp2_with (fail)
      go_ret
      exact ⟨by rw [HT.out]; rfl, rfl⟩
    · have hd1 : (x == 1) = false := by simpa using h1
      have HT : Hid (t = false) := by
        show _ = _
        cases t with
        | false => rfl
        | true => have := ht.out.2 rfl; omega
      clear h0 h1
      go_enter Try.func44, Try.ntmps44
      go_wp2_with (fail)
      go_ret
      exact ⟨by rw [HT.out]; rfl, rfl⟩

set_option maxRecDepth 100000 in
set_option maxHeartbeats 1000000 in
theorem areAscending_is (Z : List Int) (n : Nat) (v : Value) (t : Bool) (w : World) (hr : Hid (Rd w v 1 Z.length (zs Z))) (hl : Z.length ≤ 1000000) (hn : n ≤ 1000000) (ht : Hid (AscZ n Z ↔ t = true)) :
    Calls Try.prog 45 #[v, .int .i64 (n : Int)] w fun e w' => e = .returned (.bool t) ∧ w' = w := by
  obtain ⟨a0, cap0, hv⟩ := hr.out.shape
  subst hv
  obtain ⟨m, hm⟩ : ∃ m, m = Z.length := ⟨_, rfl⟩
  have HM := Lib.hid hm
  have HRD : Hid (Rd w (.slice a0 m cap0) 1 Z.length (zs Z)) := by show Rd _ _ _ _ _; rw [hm]; exact hr.out
  rw [← hm] at hl ⊢
  clear hm hr
  go_enter Try.func45, Try.ntmps45
  go_wp2_with (fail)
  go_loopw [5, 10] (fun dv iv wx => ∃ (i : Nat) (d : Int), dv = .int .i64 d ∧ iv = .int .i64 i ∧ i ≤ m ∧ wx = w ∧ 0 ≤ d ∧ d ≤ 1000000 ∧ Hid (∀ j, j < i → gA n Z j) ∧ Hid ((i = 0 → d = 0) ∧ (0 < i → d = Z.getD (i - 1) 0 + 1))) (fun _ iv _ => m - (intOf iv).toNat)
  case atStart => exact ⟨0, 0, rfl, rfl, by omega, rfl, by omega, by omega, fun j hj => by omega, fun _ => rfl, fun h => by omega⟩
  case round =>
    obtain ⟨i, d, rfl, rfl, him, rfl, hd0, hd1, HG, HD⟩ := hrel
    by_cases hin : i < m
    · have hiL : i < Z.length := by rw [← HM.out]; exact hin
      obtain ⟨b0, e0, _, hc9⟩ := zat HRD.out i hiL
      subst e0
      obtain ⟨x, hx⟩ : ∃ x, x = Z.getD i 0 := ⟨_, rfl⟩
      rw [← hx] at hc9
      have hin1 : (i : Int) < (m : Int) := by omega
      have hgi : gA n Z i ↔ d ≤ x ∧ x < n := by
        unfold gA
        rw [← hx]
        obtain ⟨h1, h2⟩ := HD.out
        constructor
        · rintro ⟨g1, g2, g3⟩
          by_cases h0 : i = 0
          · have := h1 h0; exact ⟨by omega, g2⟩
          · have := h2 (by omega); have := g3 (by omega); exact ⟨by omega, g2⟩
        · rintro ⟨g1, g2⟩
          refine ⟨by omega, g2, fun h => ?_⟩
          have := h2 h; omega
      have hno : ¬ gA n Z i → t = false := fun h => by
        cases t with
        | false => rfl
        | true => exact absurd (ht.out.2 rfl i hiL) h
      by_cases hxd : x < d
      · have HT := Lib.hid (hno fun h => by have := (hgi.1 h).1; omega)
        have hd : decide (x < d) = true := by simpa using hxd
        clear hx hgi hno hxd
        go_wp2_with (fail)
        go_ret
        exact ⟨by rw [HT.out]; rfl, rfl⟩
      · have hd : decide (x < d) = false := by simpa using hxd
        by_cases hxn : (n : Int) ≤ x
        · have HT := Lib.hid (hno fun h => by have := (hgi.1 h).2; omega)
          have hdn : decide ((n : Int) ≤ x) = true := by simpa using hxn
          clear hx hgi hno hxd hxn
          go_wp2_with (fail)
          go_ret
          exact ⟨by rw [HT.out]; rfl, rfl⟩
        · have hdn : decide ((n : Int) ≤ x) = false := by simpa using hxn
          have HGN : Hid (∀ j, j < i + 1 → gA n Z j) := fun j hj => by
            by_cases hji : j < i
            · exact HG.out j hji
            · obtain rfl : j = i := by omega
              exact hgi.2 ⟨by omega, by omega⟩
          have HDN : Hid ((i + 1 = 0 → x + 1 = 0) ∧ (0 < i + 1 → x + 1 = Z.getD (i + 1 - 1) 0 + 1)) := ⟨fun h => by omega, fun _ => by rw [Nat.add_sub_cancel, ← hx]⟩
          have hx0 : 0 ≤ x + 1 := by omega
          have hx1 : x + 1 ≤ 1000000 := by omega
          clear hx hgi hno hxd hxn
          go_wp2_with (fail)
          go_roundw
          case rel => exact ⟨i + 1, x + 1, by first | rfl | go_num, by first | rfl | go_num, by omega, by first | rfl | trivial, hx0, hx1, HGN, HDN⟩
          case measure => simp [intOf]; omega
    · obtain rfl : m = i := by omega
      have HT : Hid (t = true) := ht.out.1 fun j hj => HG.out j (by rw [HM.out]; exact hj)
      clear hin
      go_wp2_with (fail)
      go_ret
      exact ⟨by rw [HT.out]; rfl, rfl⟩

set_option maxRecDepth 100000 in
set_option maxHeartbeats 1000000 in
theorem rAscending_is (Z : List Int) (n : Nat) (v : Value) (t : Bool) (w : World) (hr : Hid (Rd w v 1 Z.length (zs Z))) (hl : Z.length ≤ 1000000) (hn : n ≤ 1000000) (ht : Hid (AscZ n Z ↔ t = true)) :
    Calls Try.prog 26 #[v, .int .i64 (n : Int)] w fun e w' => e = .returned (.bool t) ∧ ∃ q, w' = w.drewN q := by
  obtain ⟨a0, cap0, hv⟩ := hr.out.shape
  subst hv
  obtain ⟨m, hm⟩ : ∃ m, m = Z.length := ⟨_, rfl⟩
  have HM := Lib.hid hm
  have HRD : Hid (Rd w (.slice a0 m cap0) 1 Z.length (zs Z)) := by show Rd _ _ _ _ _; rw [hm]; exact hr.out
  rw [← hm] at hl ⊢
  clear hm hr
  go_enter Try.func26, Try.ntmps26
  go_wp2_with (fail)
  go_loopw [5] (fun iv wx => ∃ (i q : Nat), iv = .int .i64 i ∧ i ≤ m ∧ wx = w.drewN q ∧ Hid (∀ j, j < i → gA n Z j)) (fun iv _ => m - (intOf iv).toNat)
  case atStart => exact ⟨0, 0, rfl, by omega, by first | rfl | trivial | simp, fun j hj => by omega⟩
  case round =>
    obtain ⟨i, q, rfl, him, rfl, HG⟩ := hrel
    by_cases hin : i < m
    · have hiL : i < Z.length := by rw [← HM.out]; exact hin
      obtain ⟨b0, e0, _, hc9⟩ := zat HRD.out i hiL
      subst e0
      obtain ⟨x, hx⟩ : ∃ x, x = Z.getD i 0 := ⟨_, rfl⟩
      rw [← hx] at hc9
      have hin1 : (i : Int) < (m : Int) := by omega
      have hno : ¬ gA n Z i → t = false := fun h => by
        cases t with
        | false => rfl
        | true => exact absurd (ht.out.2 rfl i hiL) h
      have hgo : gA n Z i → ∀ j, j < i + 1 → gA n Z j := fun h j hj => by
        by_cases hji : j < i
        · exact HG.out j hji
        · obtain rfl : j = i := by omega
          exact h
      unfold gA at hno hgo
      rw [← hx] at hno hgo
      by_cases hx0 : x < 0
      · have HT := Lib.hid (hno fun h => by omega)
        have hd : decide (x < 0) = true := by simpa using hx0
        clear hx hno hgo hx0
        go_wp2_with (fail)
        go_quiet (fail)
        go_wp2_with (fail)
        go_ret
        exact ⟨by rw [HT.out]; rfl, _, by first | rfl | exact World.drewN_drewN _ _ _⟩
      · have hd : decide (x < 0) = false := by simpa using hx0
        by_cases hxn : (n : Int) ≤ x
        · have HT := Lib.hid (hno fun h => by omega)
          have hdn : decide ((n : Int) ≤ x) = true := by simpa using hxn
          clear hx hno hgo hx0 hxn
          go_wp2_with (fail)
          go_quiet (fail)
          go_wp2_with (fail)
          go_ret
          exact ⟨by rw [HT.out]; rfl, _, by first | rfl | exact World.drewN_drewN _ _ _⟩
        · have hdn : decide ((n : Int) ≤ x) = false := by simpa using hxn
          by_cases hi0 : i = 0
          · have HGN := Lib.hid (hgo ⟨by omega, by omega, fun h => by omega⟩)
            have HGN : Hid (∀ j, j < i + 1 → gA n Z j) := HGN.out
            have hdi : decide (0 < i) = false := by rw [decide_eq_false_iff_not]; omega
            have HI := Lib.hid hi0
            clear hx hno hgo hx0 hxn hi0
            go_wp2_with (fail)
            go_quiet (fail)
            go_wp2_with (fail)
            go_roundw
            case rel => exact ⟨i + 1, _, by first | rfl | go_num, by omega, by first | rfl | exact World.drewN_drewN _ _ _, HGN⟩
            case measure => simp [intOf]; omega
          · obtain ⟨k, hk⟩ : ∃ k, i = k + 1 := ⟨i - 1, by omega⟩
            have hk1 : (i : Int) - 1 = (k : Int) := by omega
            obtain ⟨b1, e1, _, hc1⟩ := zat HRD.out k (by omega)
            injection e1 with e1
            injection e1 with e1
            subst e1
            obtain ⟨y, hy⟩ : ∃ y, y = Z.getD k 0 := ⟨_, rfl⟩
            rw [← hy] at hc1
            have hyg : Z.getD (i - 1) 0 = y := by rw [hy, show i - 1 = k by omega]
            rw [hyg] at hno hgo
            have hdi : decide (0 < i) = true := by rw [decide_eq_true_iff]; omega
            have hkm : (k : Int) < (m : Int) := by omega
            have HK := Lib.hid hk
            by_cases hyx : x ≤ y
            · have HT := Lib.hid (hno fun h => by have := h.2.2 (by omega); omega)
              have hdy : decide (x ≤ y) = true := by simpa using hyx
              clear hx hy hyg hno hgo hx0 hxn hi0 hk hyx
              go_wp2_with (fail)
              go_quiet (fail)
              go_wp2_with (fail)
              go_ret
              exact ⟨by rw [HT.out]; rfl, _, by first | rfl | exact World.drewN_drewN _ _ _⟩
            · have HGN : Hid (∀ j, j < i + 1 → gA n Z j) := hgo ⟨by omega, by omega, fun _ => by omega⟩
              have hdy : decide (x ≤ y) = false := by simpa using hyx
              clear hx hy hyg hno hgo hx0 hxn hi0 hk hyx
              go_wp2_with (fail)
              go_quiet (fail)
              go_wp2_with (fail)
              go_roundw
              case rel => exact ⟨i + 1, _, by first | rfl | go_num, by omega, by first | rfl | exact World.drewN_drewN _ _ _, HGN⟩
              case measure => simp [intOf]; omega
    · obtain rfl : m = i := by omega
      have HT : Hid (t = true) := ht.out.1 fun j hj => HG.out j (by rw [HM.out]; exact hj)
      clear hin
      go_wp2_with (fail)
      go_ret
      exact ⟨by rw [HT.out]; rfl, _, rfl⟩

end Go.Proofs.Ytahhkbdodgjaeaa
