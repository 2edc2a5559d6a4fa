/- The walks over the questions whether a list is a word. -/
import Derived.Test.YtapidabhdbjnmaaTh
namespace Go.Proofs.Ytapidabhdbjnmaa
open Go.RowKit

def isLet (x : Int) : Prop := 0 ≤ x ∧ x ≤ 1000
instance (x : Int) : Decidable (isLet x) := by unfold isLet; infer_instance
def WordI (Z : List Int) : Prop := Z.length ≤ 60 ∧ ∀ x ∈ Z, isLet x

theorem zat {w : World} {a : Option Addr} {n cap : Nat} {Z : List Int} (h : Rd w (.slice a n cap) 1 Z.length (zs Z)) (i : Nat) (hi : i < Z.length) : ∃ b, a = some ⟨b, 0, none⟩ ∧ w.cell? ⟨b, i, none⟩ = some (.int .i64 (Z[i]'hi)) := by
  obtain ⟨_, a', cap', e, _, h4⟩ := h
  injection e with e _ _
  subst e
  rcases h4 with h4 | ⟨b, rfl, hb, hc⟩
  · omega
  · exact ⟨b, rfl, hc i _ (by rw [zs_get Z i hi])⟩

set_option maxRecDepth 100000 in
theorem letter_is (x : Int) (t : Bool) (w : World) (ht : Hid (isLet x ↔ t = true)) : Calls Try.prog 65 #[.int .i64 x] w fun e w' => e = .returned (.bool (!t)) ∧ w' = w := by
  by_cases h0 : x < 0
  · have hd : decide (x < 0) = true := by simpa using h0
    have htt : Hid (t = false) := by
      cases t with
      | false => rfl
      | true => have := (ht.out.2 rfl).1; omega
    clear h0
    go_enter Try.func65, Try.ntmps65
    go_wp2_with (fail)
    go_ret
    exact ⟨by rw [htt.out]; rfl, rfl⟩
  · have hd : decide (x < 0) = false := by simpa using h0
    by_cases h1 : 1000 < x
    · have hd1 : decide (1000 < x) = true := by simpa using h1
      have htt : Hid (t = false) := by
        cases t with
        | false => rfl
        | true => have := (ht.out.2 rfl).2; omega
      clear h0 h1
      go_enter Try.func65, Try.ntmps65
      go_wp2_with (fail)
      go_ret
      exact ⟨by rw [htt.out]; rfl, rfl⟩
    · have hd1 : decide (1000 < x) = false := by simpa using h1
      have htt : Hid (t = true) := ht.out.1 ⟨by omega, by omega⟩
      clear h0 h1
      go_enter Try.func65, Try.ntmps65
      go_wp2_with (fail)
      go_ret
      exact ⟨by rw [htt.out]; rfl, rfl⟩

set_option maxRecDepth 100000 in
set_option maxHeartbeats 1000000 in
theorem index_is (Z : List Int) (v : Value) (t : Bool) (w : World) (hr : Hid (Rd w v 1 Z.length (zs Z))) (hl : Z.length ≤ 1000000) (ht : Hid ((∀ x ∈ Z, isLet x) ↔ t = true)) :
    Calls Try.prog 87 #[v, .func (.func 65) #[] #[]] w fun e w' => (∃ k : Int, e = .returned (.int .i64 k) ∧ (0 ≤ k ↔ t = false) ∧ k ≤ 1000000 ∧ -1 ≤ k) ∧ w' = w := by
  obtain ⟨a, cap, hv⟩ := hr.out.shape
  subst hv
  obtain ⟨n, hn⟩ : ∃ n, n = Z.length := ⟨_, rfl⟩
  have HR : Hid (Rd w (.slice a n cap) 1 Z.length (zs Z)) := by show Rd _ _ _ _ _; rw [hn]; exact hr.out
  have HN := Lib.hid hn
  rw [← hn] at hl ⊢
  clear hn hr
  go_enter Try.func87, Try.ntmps87
  go_wp2_with (fail)
  go_loop [8] (fun iv => ∃ (k : Nat), iv = .int .i64 k ∧ k ≤ n ∧ Hid (∀ i (h : i < Z.length), i < k → isLet Z[i])) (fun iv => n - (intOf iv).toNat)
  case atStart => exact ⟨0, rfl, by omega, fun i _ hi => by omega⟩
  case round =>
    obtain ⟨k, rfl, hk, HK⟩ := hrel
    by_cases hkn : k < n
    · have hkZ : k < Z.length := by rw [← HN.out]; exact hkn
      obtain ⟨b, hb, c1⟩ := zat HR.out k hkZ
      subst hb
      obtain ⟨x, hx⟩ : ∃ x, x = Z[k] := ⟨_, rfl⟩
      rw [← hx] at c1
      have HX := Lib.hid hx
      have hkn1 : (k : Int) < (n : Int) := by omega
      clear hx
      by_cases hlx : isLet x
      · have HL : Hid (isLet x) := hlx
        have HK2 : Hid (∀ i (h : i < Z.length), i < k + 1 → isLet Z[i]) := fun i h hi => by
          by_cases e : i = k
          · subst e; rw [← HX.out]; exact hlx
          · exact HK.out i h (by omega)
        clear hlx
        go_wp2_with (fail)
        refine (letter_is x true _ ⟨fun _ => rfl, fun _ => HL.out⟩).mono ?_
        rintro e w2 ⟨rfl, hw⟩
        subst hw
        go_wp2_with (fail)
        go_round
        case rel => exact ⟨k + 1, by go_num, by omega, HK2⟩
        case measure => simp [intOf]; omega
      · have HL : Hid (isLet x ↔ false = true) := ⟨fun h => absurd h hlx, fun h => by cases h⟩
        have htf : Hid (t = false) := by
          cases t with
          | false => rfl
          | true => exact absurd (by rw [HX.out]; exact ht.out.2 rfl _ (List.getElem_mem hkZ)) hlx
        clear hlx
        go_wp2_with (fail)
        refine (letter_is x false _ HL).mono ?_
        rintro e w2 ⟨rfl, hw⟩
        subst hw
        go_wp2_with (fail)
        go_ret
        exact ⟨⟨_, rfl, ⟨fun _ => htf.out, fun _ => by omega⟩, by omega, by omega⟩, rfl⟩
    · obtain rfl : n = k := by omega
      have htt : Hid (t = true) := ht.out.1 fun x hx => by
        obtain ⟨i, hi, rfl⟩ := List.getElem_of_mem hx
        exact HK.out i hi (by rw [HN.out]; exact hi)
      clear hkn
      go_wp2_with (fail)
      go_ret
      exact ⟨⟨_, rfl, ⟨fun h => by omega, fun h => by rw [htt.out] at h; cases h⟩, by omega, by omega⟩, rfl⟩

set_option maxRecDepth 100000 in
theorem areLetters_is (Z : List Int) (v : Value) (t : Bool) (w : World) (hr : Hid (Rd w v 1 Z.length (zs Z))) (hl : Z.length ≤ 1000000) (ht : Hid ((∀ x ∈ Z, isLet x) ↔ t = true)) :
    Calls Try.prog 43 #[v] w fun e w' => e = .returned (.bool t) ∧ w' = w := by
  have hc : Calls Try.prog 64 #[v, .func (.func 65) #[] #[]] w fun e w' => e = .returned (.bool (!t)) ∧ w' = w := by
    obtain ⟨a, cap, hv⟩ := hr.out.shape
    subst hv
    go_enter Try.func64, Try.ntmps64
    go_wp2_with (fail)
    refine (index_is Z _ t _ hr hl ht).mono ?_
    rintro e w2 ⟨⟨k, rfl, hk, hk1, hk2⟩, hw⟩
    subst hw
    cases t with
    | true =>
      have h9 : ¬ 0 ≤ k := fun h => by have := hk.1 h; cases this
      have hd : decide (0 ≤ k) = false := by simpa using h9
      clear h9 hk
      go_wp2_with (fail)
      go_ret
      exact ⟨rfl, rfl⟩
    | false =>
      have h9 : 0 ≤ k := hk.2 rfl
      have hd : decide (0 ≤ k) = true := by simpa using h9
      clear h9 hk
      go_wp2_with (fail)
      go_ret
      exact ⟨rfl, rfl⟩
  have HC := Lib.hid hc
  obtain ⟨a, cap, hv⟩ := hr.out.shape
  subst hv
  clear hc hr
  go_enter Try.func43, Try.ntmps43
  go_wp2_with (fail)
  refine HC.out.mono ?_
  rintro e w2 ⟨rfl, hw⟩
  subst hw
  go_wp2_with (fail)
  go_ret
  exact ⟨by cases t <;> rfl, rfl⟩

set_option maxRecDepth 100000 in
theorem isWord_is (Z : List Int) (v : Value) (t : Bool) (w : World) (hr : Hid (Rd w v 1 Z.length (zs Z))) (hl : Z.length ≤ 1000000) (ht : Hid (WordI Z ↔ t = true)) :
    Calls Try.prog 25 #[v] w fun e w' => e = .returned (.bool t) ∧ w' = w := by
  obtain ⟨a, cap, hv⟩ := hr.out.shape
  subst hv
  by_cases h60 : Z.length ≤ 60
  · have HT : Hid ((∀ x ∈ Z, isLet x) ↔ t = true) := ⟨fun h => ht.out.1 ⟨h60, h⟩, fun h => (ht.out.2 h).2⟩
    have hd : (Z.length : Int) ≤ 60 := by omega
    clear h60
    go_enter Try.func25, Try.ntmps25
    go_wp2_with (fail)
    refine (areLetters_is Z _ t _ hr hl HT).mono ?_
    rintro e w2 ⟨rfl, hw⟩
    subst hw
    go_wp2_with (fail)
    go_ret
    exact ⟨rfl, rfl⟩
  · have htf : Hid (t = false) := by
      cases t with
      | false => rfl
      | true => exact absurd (ht.out.2 rfl).1 h60
    have hd : ¬ (Z.length : Int) ≤ 60 := by omega
    clear h60
    go_enter Try.func25, Try.ntmps25
    go_wp2_with (fail)
    go_ret
    exact ⟨by rw [htf.out]; rfl, rfl⟩

set_option maxRecDepth 100000 in
set_option maxHeartbeats 1000000 in
theorem rWord_is (Z : List Int) (v : Value) (t : Bool) (w : World) (hr : Hid (Rd w v 1 Z.length (zs Z))) (hl : Z.length ≤ 1000000) (ht : Hid (WordI Z ↔ t = true)) :
    Calls Try.prog 23 #[v] w fun e w' => e = .returned (.bool t) ∧ w' = w := by
  obtain ⟨a, cap, hv⟩ := hr.out.shape
  subst hv
  obtain ⟨n, hn⟩ : ∃ n, n = Z.length := ⟨_, rfl⟩
  have HR : Hid (Rd w (.slice a n cap) 1 Z.length (zs Z)) := by show Rd _ _ _ _ _; rw [hn]; exact hr.out
  have HN := Lib.hid hn
  rw [← hn] at hl ⊢
  clear hn hr
  go_enter Try.func23, Try.ntmps23
  go_wp2_with (fail)
  go_loop [3] (fun iv => ∃ (k : Nat), iv = .int .i64 k ∧ k ≤ n ∧ Hid (∀ i (h : i < Z.length), i < k → isLet Z[i])) (fun iv => n - (intOf iv).toNat)
  case atStart => exact ⟨0, rfl, by omega, fun i _ hi => by omega⟩
  case round =>
    obtain ⟨k, rfl, hk, HK⟩ := hrel
    by_cases hkn : k < n
    · have hkZ : k < Z.length := by rw [← HN.out]; exact hkn
      obtain ⟨b, hb, c1⟩ := zat HR.out k hkZ
      subst hb
      obtain ⟨x, hx⟩ : ∃ x, x = Z[k] := ⟨_, rfl⟩
      rw [← hx] at c1
      have HX := Lib.hid hx
      have hkn1 : (k : Int) < (n : Int) := by omega
      clear hx
      have hno : ¬ isLet x → t = false := fun hlx => by
        cases t with
        | false => rfl
        | true => exact absurd (by rw [HX.out]; exact (ht.out.2 rfl).2 _ (List.getElem_mem hkZ)) hlx
      by_cases h0 : x < 0
      · have hd : decide (x < 0) = true := by simpa using h0
        have htf := Lib.hid (hno fun h => by have := h.1; omega)
        clear h0 hno
        go_wp2_with (fail)
        go_ret
        exact ⟨by rw [htf.out]; rfl, rfl⟩
      · have hd : decide (x < 0) = false := by simpa using h0
        by_cases h1 : 1000 < x
        · have hd1 : decide (1000 < x) = true := by simpa using h1
          have htf := Lib.hid (hno fun h => by have := h.2; omega)
          clear h0 h1 hno
          go_wp2_with (fail)
          go_ret
          exact ⟨by rw [htf.out]; rfl, rfl⟩
        · have hd1 : decide (1000 < x) = false := by simpa using h1
          have HK2 : Hid (∀ i (h : i < Z.length), i < k + 1 → isLet Z[i]) := fun i h hi => by
            by_cases e : i = k
            · subst e; rw [← HX.out]; exact ⟨by omega, by omega⟩
            · exact HK.out i h (by omega)
          clear h0 h1 hno
          go_wp2_with (fail)
          go_round
          case rel => exact ⟨k + 1, by go_num, by omega, HK2⟩
          case measure => simp [intOf]; omega
    · obtain rfl : n = k := by omega
      have HALL : Hid (∀ x ∈ Z, isLet x) := fun x hx => by
        obtain ⟨i, hi, rfl⟩ := List.getElem_of_mem hx
        exact HK.out i hi (by rw [HN.out]; exact hi)
      have htt : Hid (decide ((n : Int) ≤ 60) = t) := by
        show _ = _
        by_cases h60 : n ≤ 60
        · rw [ht.out.1 ⟨by rw [← HN.out]; exact h60, HALL.out⟩, decide_eq_true_iff]; omega
        · cases t with
          | false => rw [decide_eq_false_iff_not]; omega
          | true => exact absurd (by rw [HN.out]; exact (ht.out.2 rfl).1) h60
      clear hkn
      go_wp2_with (fail)
      go_ret
      exact ⟨by rw [← htt.out]; first | rfl | simp, rfl⟩

end Go.Proofs.Ytapidabhdbjnmaa
