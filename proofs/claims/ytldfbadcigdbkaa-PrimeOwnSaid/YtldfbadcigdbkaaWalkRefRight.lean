/- The walk over the reference's Right. -/
import Derived.Test.YtldfbadcigdbkaaWalkRefCheck
namespace Go.Proofs.Ytldfbadcigdbkaa
open Go.RowKit Go.Maps

theorem proofR_eq (n : Int) (L : List M.Ent) : M.proofR n none [] L = (decide (0 < L.length) && M.proofP n 1 [] L) := by
  rw [M.proof_eq L 1 none [] (by simp) (by omega) (by simp) (by simp)]
  cases L with
  | nil => rfl
  | cons E L => simp

set_option maxRecDepth 100000 in
set_option maxHeartbeats 4000000 in
theorem Right_is (n d : Int) (v : Value) (L : List M.Ent) (t : Bool) (w : World) (hn : 1 ≤ n) (hn2 : n ≤ 2147483647) (hd : (Lit.int .i64 d).wf = true) (hr : Hid (RdE w v L)) (hlen : L.length ≤ 1000000) (hL : Hid (∀ E ∈ L, EntOk E)) (ht : Hid (rightP n d L = t)) :
    Calls Try.prog 10 #[.int .i64 n, verV d v] w fun x w' => x = .returned (.bool t) ∧ Below w.heap.size w w' := by
  have hb64 := bounds_i64 hd
  have hE := ht.out
  unfold rightP at hE
  obtain ⟨a, cap, hv⟩ := hr.out.lenv
  subst hv
  unfold verV
  obtain ⟨m, hm⟩ : ∃ m, m = L.length := ⟨_, rfl⟩
  rw [← hm] at hE
  have HM := Lib.hid hm
  have hB := (Below.refl w.heap.size w).alloc (Nat.le_refl _) (.cells #[.int .i64 d, .slice a m cap] 24)
  have hr2 := Lib.hid (hr.out.below hB)
  rw [← hm] at hlen hr2 ⊢
  have HB := Lib.hid hB
  clear hB ht hm
  by_cases h0 : d = 0
  · rw [if_pos h0] at hE
    have hb1 : (d == 0) = true := by simp [h0]
    have HT := Lib.hid hE
    clear h0 hE
    go_enter Try.func10, Try.ntmps10
    go_wp2_with (fail)
    refine (IsProof_is n _ L t _ hn hn2 hr2 (by rw [← HM.out]; exact hlen) hL (by show _ = _; rw [proofR_eq n L, ← HM.out]; exact HT.out)).mono ?_
    rintro e w' ⟨rfl, hB2⟩
    have HB2 := Lib.hid hB2
    clear hB2
    go_wp2_with (fail)
    go_ret
    exact ⟨rfl, HB.out.trans (HB2.out.mono HB.out.size)⟩
  · rw [if_neg h0] at hE
    have hb1 : (d == 0) = false := by simp [h0]
    by_cases h1 : 0 < m
    · rw [if_pos h1] at hE
      have hb2 : decide (0 < m) = true := by simpa using h1
      have HT := Lib.hid hE
      clear h0 h1 hE
      go_enter Try.func10, Try.ntmps10
      go_wp2_with (fail)
      go_ret
      exact ⟨ret_b HT.out, HB.out⟩
    · rw [if_neg h1] at hE
      have hb2 : decide (0 < m) = false := by simpa using h1
      by_cases h2 : n = 1
      · rw [if_pos h2] at hE
        have hb3 : (n == 1) = true := by simp [h2]
        by_cases h4 : d = 1
        · have hb6 : (d == 1) = true := by simp [h4]
          have HT : Hid (true = t) := by show _ = _; rw [← hE, hb6]
          clear h0 h1 h2 hE h4
          go_enter Try.func10, Try.ntmps10
          go_wp2_with (fail)
          go_ret
          exact ⟨ret_b HT.out, HB.out⟩
        · have hb6 : (d == 1) = false := by simp [h4]
          have HT : Hid (false = t) := by show _ = _; rw [← hE, hb6]
          have hb7 : decide (1 < d) = false ∨ (decide (1 < d) = true ∧ decide (d < n) = false) := by
            by_cases h5 : 1 < d
            · exact .inr ⟨by simpa using h5, by simp; omega⟩
            · exact .inl (by simpa using h5)
          clear h0 h1 h2 hE h4
          rcases hb7 with hb7 | ⟨hb7, hb8⟩
          · go_enter Try.func10, Try.ntmps10
            go_wp2_with (fail)
            go_ret
            exact ⟨ret_b HT.out, HB.out⟩
          · go_enter Try.func10, Try.ntmps10
            go_wp2_with (fail)
            go_ret
            exact ⟨ret_b HT.out, HB.out⟩
      · rw [if_neg h2] at hE
        have hb3 : (n == 1) = false := by simp [h2]
        by_cases h3 : 1 < d
        · have hb4 : decide (1 < d) = true := by simpa using h3
          by_cases h4 : d < n
          · have hb5 : decide (d < n) = true := by simpa using h4
            have HT : Hid ((n % d == 0) = t) := by
              rw [← hE]
              show _ = _
              rw [Bool.eq_iff_iff]
              simp [h3, h4]
            clear h0 h1 h2 hE
            go_enter Try.func10, Try.ntmps10
            go_wp2_with (fail)
            go_ret
            exact ⟨ret_b HT.out, HB.out⟩
          · have hb5 : decide (d < n) = false := by simpa using h4
            have HT : Hid (false = t) := by
              rw [← hE]
              show _ = _
              simp [h4]
            clear h0 h1 h2 hE h4
            go_enter Try.func10, Try.ntmps10
            go_wp2_with (fail)
            go_ret
            exact ⟨ret_b HT.out, HB.out⟩
        · have hb4 : decide (1 < d) = false := by simpa using h3
          have HT : Hid (false = t) := by
            rw [← hE]
            show _ = _
            simp [h3]
          clear h0 h1 h2 hE h3
          go_enter Try.func10, Try.ntmps10
          go_wp2_with (fail)
          go_ret
          exact ⟨ret_b HT.out, HB.out⟩

end Go.Proofs.Ytldfbadcigdbkaa
