/- The walks over isRight, Check. -/
import Derived.Test.YtldfbadcigdbkaaWalkProof
namespace Go.Proofs.Ytldfbadcigdbkaa
open Go.RowKit Go.Maps

/-- The program's judgement of a verdict. -/
def rightP (n d : Int) (L : List M.Ent) : Bool :=
  if d = 0 then decide (0 < L.length) && M.proofP n 1 [] L
  else if 0 < L.length then false
  else if n = 1 then d == 1
  else decide (1 < d ∧ d < n ∧ n % d = 0)

def verV (d : Int) (v : Value) : Value := .agg #[.int .i64 d, v]

theorem RdE.lenv {w : World} {v : Value} {L : List M.Ent} (h : RdE w v L) : ∃ a cap, v = .slice a L.length cap := by
  obtain ⟨a, cap, hv, _⟩ := h
  exact ⟨a, cap, hv⟩

set_option maxRecDepth 100000 in
set_option maxHeartbeats 4000000 in
theorem isRight_is (n d : Int) (v : Value) (L : List M.Ent) (t : Bool) (w : World) (hn : 1 ≤ n) (hn2 : n ≤ 2147483647) (hd : (Lit.int .i64 d).wf = true) (hr : Hid (RdE w v L)) (hlen : L.length ≤ 1000000) (hL : Hid (∀ E ∈ L, EntOk E)) (ht : Hid (rightP n d L = t)) :
    Calls Try.prog 20 #[.int .i64 n, verV d v] w fun x w' => x = .returned (.bool t) ∧ Below w.heap.size w w' := by
  have hb64 := bounds_i64 hd
  have hE := ht.out
  unfold rightP at hE
  obtain ⟨a, cap, hv⟩ := hr.out.lenv
  subst hv
  unfold verV
  obtain ⟨m, hm⟩ : ∃ m, m = L.length := ⟨_, rfl⟩
  rw [← hm] at hE
  have HM := Lib.hid hm
  have hB := (Below.refl w.heap.size w).alloc (Nat.le_refl _) (.cells #[.int .i64 d, .slice a m cap] 24)
  have hr2 := Lib.hid (hr.out.below hB)
  rw [← hm] at hlen hr2 ⊢
  have HB := Lib.hid hB
  clear hB ht hm
  by_cases h0 : d = 0
  · rw [if_pos h0] at hE
    have hb1 : (d == 0) = true := by simp [h0]
    have HT := Lib.hid hE
    clear h0 hE
    go_enter Try.func20, Try.ntmps20
    go_wp2_with (fail)
    refine (isProof_is n _ L t _ hn hn2 hr2 (by rw [← HM.out]; exact hlen) hL (by rw [← HM.out]; exact HT)).mono ?_
    rintro e w' ⟨rfl, hB2⟩
    have HB2 := Lib.hid hB2
    clear hB2
    go_wp2_with (fail)
    go_ret
    exact ⟨rfl, HB.out.trans (HB2.out.mono HB.out.size)⟩
  · rw [if_neg h0] at hE
    have hb1 : (d == 0) = false := by simp [h0]
    by_cases h1 : 0 < m
    · rw [if_pos h1] at hE
      have hb2 : decide (0 < m) = true := by simpa using h1
      have HT := Lib.hid hE
      clear h0 h1 hE
      go_enter Try.func20, Try.ntmps20
      go_wp2_with (fail)
      go_ret
      exact ⟨ret_b HT.out, HB.out⟩
    · rw [if_neg h1] at hE
      have hb2 : decide (0 < m) = false := by simpa using h1
      by_cases h2 : n = 1
      · rw [if_pos h2] at hE
        have hb3 : (n == 1) = true := by simp [h2]
        have HT := Lib.hid hE
        clear h0 h1 h2 hE
        go_enter Try.func20, Try.ntmps20
        go_wp2_with (fail)
        go_ret
        exact ⟨ret_b HT.out, HB.out⟩
      · rw [if_neg h2] at hE
        have hb3 : (n == 1) = false := by simp [h2]
        by_cases h3 : 1 < d
        · have hb4 : decide (1 < d) = true := by simpa using h3
          by_cases h4 : d < n
          · have hb5 : decide (d < n) = true := by simpa using h4
            have HT : Hid ((n % d == 0) = t) := by
              rw [← hE]
              show _ = _
              rw [Bool.eq_iff_iff]
              simp [h3, h4]
            clear h0 h1 h2 hE
            go_enter Try.func20, Try.ntmps20
            go_wp2_with (fail)
            go_ret
            exact ⟨ret_b HT.out, HB.out⟩
          · have hb5 : decide (d < n) = false := by simpa using h4
            have HT : Hid (false = t) := by
              rw [← hE]
              show _ = _
              simp [h4]
            clear h0 h1 h2 hE h4
            go_enter Try.func20, Try.ntmps20
            go_wp2_with (fail)
            go_ret
            exact ⟨ret_b HT.out, HB.out⟩
        · have hb4 : decide (1 < d) = false := by simpa using h3
          have HT : Hid (false = t) := by
            rw [← hE]
            show _ = _
            simp [h3]
          clear h0 h1 h2 hE h3
          go_enter Try.func20, Try.ntmps20
          go_wp2_with (fail)
          go_ret
          exact ⟨ret_b HT.out, HB.out⟩

theorem Check_no (n d : Int) (v : Value) (w : World) (h : n < 1 ∨ 2147483647 < n) :
    Calls Try.prog 8 #[.int .i64 n, verV d v] w fun x w' => x = .returned (.int .i64 2) ∧ Below w.heap.size w w' := by
  unfold verV
  have hB := (Below.refl w.heap.size w).alloc (Nat.le_refl _) (.cells #[.int .i64 d, v] 24)
  have HB := Lib.hid hB
  clear hB
  go_enter Try.func8, Try.ntmps8
  go_wp2_with (go_at_call 17; refine (isNumber_no _ _ h).mono ?_; rintro e w' ⟨rfl, rfl⟩)
  go_ret
  exact ⟨rfl, HB.out⟩

theorem Check_is (n d : Int) (v : Value) (L : List M.Ent) (t : Bool) (w : World) (hn : 1 ≤ n) (hn2 : n ≤ 2147483647) (hd : (Lit.int .i64 d).wf = true) (hr : Hid (RdE w v L)) (hlen : L.length ≤ 1000000) (hL : Hid (∀ E ∈ L, EntOk E)) (ht : Hid (rightP n d L = t)) :
    Calls Try.prog 8 #[.int .i64 n, verV d v] w fun x w' => x = .returned (.int .i64 (if t = true then 0 else 10)) ∧ Below w.heap.size w w' := by
  have hu : verV d v = .agg #[.int .i64 d, v] := rfl
  have hB := (Below.refl w.heap.size w).alloc (Nat.le_refl _) (.cells #[.int .i64 d, v] 24)
  have HB := Lib.hid hB
  have hr2 := Lib.hid (hr.out.below hB)
  obtain ⟨a, cap, hv⟩ := hr.out.lenv
  subst hv
  have HU := Lib.hid hu
  clear hB hu
  rw [HU.out]
  go_enter Try.func8, Try.ntmps8
  cases t with
  | true =>
    go_wp2_with (first
      | (go_at_call 17; refine (isNumber_yes _ _ hn hn2).mono ?_; rintro e w' ⟨rfl, rfl⟩)
      | (go_at_call 20; rw [← HU.out]; refine (isRight_is n d _ L true _ hn hn2 hd hr2 hlen hL ht).mono ?_; rintro e w' ⟨rfl, hB2⟩; have HB2 := Lib.hid hB2; clear hB2))
    go_ret
    exact ⟨rfl, HB.out.trans (HB2.out.mono HB.out.size)⟩
  | false =>
    go_wp2_with (first
      | (go_at_call 17; refine (isNumber_yes _ _ hn hn2).mono ?_; rintro e w' ⟨rfl, rfl⟩)
      | (go_at_call 20; rw [← HU.out]; refine (isRight_is n d _ L false _ hn hn2 hd hr2 hlen hL ht).mono ?_; rintro e w' ⟨rfl, hB2⟩; have HB2 := Lib.hid hB2; clear hB2))
    go_ret
    exact ⟨rfl, HB.out.trans (HB2.out.mono HB.out.size)⟩

end Go.Proofs.Ytldfbadcigdbkaa
