/- The walks over sort.Search and the program's insert. -/
import Derived.Test.YtapidabhdbjnmaaTi
namespace Go.Proofs.Ytapidabhdbjnmaa
open Go.RowKit

set_option maxRecDepth 100000 in
set_option maxHeartbeats 1000000 in
theorem above_is (Y : List Nat) (x h R X gY m cp : Nat) (w : World) (h1 : w.cell? ⟨R, 0, none⟩ = some (.slice (some ⟨gY, 0, none⟩) m cp)) (h2 : w.cell? ⟨X, 0, none⟩ = some (.int .i64 (x : Int))) (h3 : w.cell? ⟨gY, h, none⟩ = some (.int .i64 (Y.getD h 0 : Nat))) (hm : h < m) (t : Bool) (ht : Hid (x < Y.getD h 0 ↔ t = true)) :
    Calls Try.prog 67 #[.int .i64 (h : Int), .pointer (some ⟨R, 0, none⟩), .pointer (some ⟨X, 0, none⟩)] w fun e w' => e = .returned (.bool t) ∧ ∃ n, w' = w.drewN n := by
  obtain ⟨y, hy⟩ : ∃ y, y = Y.getD h 0 := ⟨_, rfl⟩
  rw [← hy] at h3 ht
  have HD : Hid (decide (x < y) = t) := by
    show _ = _
    cases t with
    | true => rw [decide_eq_true_iff]; exact ht.out.2 rfl
    | false => rw [decide_eq_false_iff_not]; intro h9; have := ht.out.1 h9; cases this
  have hm1 : (h : Int) < (m : Int) := by omega
  clear hy
  go_enter Try.func67, Try.ntmps67
  go_wp2_with (fail)
  go_quiet (fail)
  go_wp2_with (fail)
  go_ret
  exact ⟨by show Ending.returned (.bool (decide (x < y))) = _; rw [HD.out], _, rfl⟩

set_option maxRecDepth 100000 in
set_option maxHeartbeats 1000000 in
theorem search_is (Y : List Nat) (x R X gY m cp : Nat) (w : World) (hm : m = Y.length) (hA : Hid (T.Asc Y)) (hml : m ≤ 1000000) (h1 : w.cell? ⟨R, 0, none⟩ = some (.slice (some ⟨gY, 0, none⟩) m cp)) (h2 : w.cell? ⟨X, 0, none⟩ = some (.int .i64 (x : Int))) (h3 : Hid (∀ i, i < m → w.cell? ⟨gY, i, none⟩ = some (.int .i64 (Y.getD i 0 : Nat)))) :
    Calls Try.prog 66 #[.int .i64 (m : Int), .func (.func 67) #[] #[.pointer (some ⟨R, 0, none⟩), .pointer (some ⟨X, 0, none⟩)]] w fun e w' => e = .returned (.int .i64 (T.pos x Y : Nat)) ∧ ∃ n, w' = w.drewN n := by
  obtain ⟨K, hK⟩ : ∃ K, K = T.pos x Y := ⟨_, rfl⟩
  have HPL : Hid (∀ j, j < K → Y.getD j 0 ≤ x) := fun j hj => T.pos_lt x Y j (by omega)
  have HPA : Hid (∀ j, K ≤ j → j < m → x < Y.getD j 0) := fun j h9 h10 => by
    have h11 := T.pos_at x Y (by omega)
    have h12 := hA.out.le j (T.pos x Y) (by omega) (by omega)
    omega
  have hKm : K ≤ m := by rw [hK, hm]; exact T.pos_le x Y
  rw [← hK]
  clear hK hm hA
  go_enter Try.func66, Try.ntmps66
  go_wp2_with (fail)
  go_loopw [5, 6] (fun iv jv wx => ∃ (i j q : Nat), iv = .int .i64 i ∧ jv = .int .i64 j ∧ i ≤ K ∧ K ≤ j ∧ j ≤ m ∧ wx = w.drewN q) (fun iv jv _ => (intOf jv).toNat - (intOf iv).toNat)
  case atStart => exact ⟨0, m, 0, rfl, rfl, by omega, hKm, Nat.le_refl _, by first | rfl | simp⟩
  case round =>
    obtain ⟨i, j, q, rfl, rfl, hi, hj, hjm, rfl⟩ := hrel
    by_cases hij : i < j
    · obtain ⟨h, hh⟩ : ∃ h, h = (i + j) / 2 := ⟨_, rfl⟩
      have hij1 : (i : Int) < (j : Int) := by omega
      have hh1 : ((i : Int) + (j : Int)) / 2 = (h : Int) := by omega
      have hhi : i ≤ h := by omega
      have hhj : h < j := by omega
      have c1 : (w.drewN q).cell? ⟨R, 0, none⟩ = some (.slice (some ⟨gY, 0, none⟩) m cp) := by simpa using h1
      have c2 : (w.drewN q).cell? ⟨X, 0, none⟩ = some (.int .i64 (x : Int)) := by simpa using h2
      have c3 : (w.drewN q).cell? ⟨gY, h, none⟩ = some (.int .i64 (Y.getD h 0 : Nat)) := by simpa using h3.out h (by omega)
      by_cases hx : x < Y.getD h 0
      · have hKh : K ≤ h := Nat.le_of_not_lt fun h9 => by have := HPL.out h h9; omega
        have HX := Lib.hid hx
        have hABV := Lib.hid (above_is Y x h R X gY m cp (w.drewN q) c1 c2 c3 (by omega) true ⟨fun _ => rfl, fun _ => HX.out⟩)
        clear hh hx c1 c2 c3
        go_wp2_with (fail)
        refine hABV.out.mono ?_
        rintro e w2 ⟨rfl, nn, hw⟩
        subst hw
        go_wp2_with (fail)
        go_roundw
        case rel => exact ⟨i, h, _, rfl, rfl, by omega, hKh, by omega, by first | rfl | exact World.drewN_drewN _ _ _ | (simp only [World.drewN_drewN]; rfl)⟩
        case measure => simp [intOf]; omega
      · have hKh : h < K := Nat.lt_of_not_le fun h9 => by have := HPA.out h h9 (by omega); omega
        have HX := Lib.hid hx
        have hABV := Lib.hid (above_is Y x h R X gY m cp (w.drewN q) c1 c2 c3 (by omega) false ⟨fun h9 => absurd h9 HX.out, fun h9 => by cases h9⟩)
        clear hh hx c1 c2 c3
        go_wp2_with (fail)
        refine hABV.out.mono ?_
        rintro e w2 ⟨rfl, nn, hw⟩
        subst hw
        go_wp2_with (fail)
        go_roundw
        case rel => exact ⟨h + 1, j, _, by go_num, rfl, by omega, by omega, by omega, by first | rfl | exact World.drewN_drewN _ _ _ | (simp only [World.drewN_drewN]; rfl)⟩
        case measure => simp [intOf]; omega
    · obtain rfl : i = K := by omega
      have hij1 : ¬ (i : Int) < (j : Int) := by omega
      clear hij
      go_wp2_with (fail)
      go_ret
      exact ⟨rfl, _, rfl⟩

end Go.Proofs.Ytapidabhdbjnmaa
