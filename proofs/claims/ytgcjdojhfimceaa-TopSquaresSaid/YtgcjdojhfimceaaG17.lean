/- Texts of the proof, laid together. -/
import Derived.Test.YtgcjdojhfimceaaG08
import Derived.Test.YtgcjdojhfimceaaG04
import Derived.Test.YtgcjdojhfimceaaG16
import Derived.Test.YtgcjdojhfimceaaG15
namespace Go.Proofs.Ytgcjdojhfimceaa
open Go.RowKit

theorem no_square {p A : Nat} (hP : M.Pr p) (h3 : 3 ≤ p) (hA1 : 1 ≤ A) (hn : (M.pw (A : Int) (((p : Int) - 1) / 2) (p : Int) == 1) = false) : ∀ r, r < p → r * r % p ≠ A := by
  intro r hr h
  have hodd := M.odd_prime hP h3
  rw [beq_eq_false_iff_ne] at hn
  apply hn
  rw [show ((p : Int) - 1) / 2 = (((p - 1) / 2 : Nat) : Int) by omega, pw_nat]
  have hr0 : ¬ p ∣ r := fun hd => by
    obtain ⟨k, rfl⟩ := hd
    rw [Nat.mul_assoc, Nat.mul_mod_right] at h; omega
  have hf := M.fermat hP hr0
  have : A ^ ((p - 1) / 2) % p = 1 := by
    rw [← h, ← Nat.pow_mod, ← Nat.pow_two, ← Nat.pow_mul, show 2 * ((p - 1) / 2) = p - 1 by omega]; exact hf
  rw [this]; rfl

theorem p7 : M.Pr 7 := pr7

set_option maxRecDepth 100000 in
set_option maxHeartbeats 1000000 in
theorem two_is (w : World) : Calls Try.prog 9 #[] w fun x w' => x = .returned (.bool true) ∧ Below w.heap.size w w' := by
  go_enter Try.func9, Try.ntmps9
  go_wp2_with (fail)
  refine (Root27 _).mono ?_
  rintro e w1 ⟨rfl, hB1⟩
  have HB1 := Lib.hid hB1
  have hl := Lib.hid (lit3 w1 5 0 1 3)
  clear hB1
  go_wp2_with (fail)
  refine (Value_ok 7 3 [5, 0, 1] _ _ p7 (by omega) (by omega) hl (by show Q.Pol 7 [5, 0, 1]; exact Q.pol_of (by intro x hx; simp at hx; omega) (.inr (by simp))) (by simp)).mono ?_
  rintro e w2 ⟨rfl, hB2⟩
  have hv : Q.valP 7 [5, 0, 1] 3 = 0 := by decide
  rw [hv]
  have HB2 := Lib.hid hB2
  clear hB2 hv
  go_wp2_with (fail)
  go_ret
  have h1 := HB1.out.alloc HB1.out.size (.cells #[.int .i64 5, .int .i64 0, .int .i64 1] 3)
  exact ⟨rfl, h1.trans (HB2.out.mono h1.size)⟩

/-- A row of coefficients that a call made. -/
theorem row_of {w wr : World} {u : Value} {M : List Nat} (h : RowS w wr u M) (h0 : M.length ≠ 0) : ∃ b c, u = .slice (some ⟨b, 0, none⟩) M.length c ∧ ∀ j (hj : j < M.length), wr.cell? ⟨b, j, none⟩ = some (.int .i64 (M[j] : Int)) := by
  rcases h with h | h
  · exact h.1.elim
  · obtain ⟨_, a, c, hv, _, hcl⟩ := Rd.of_own h
    rcases hcl with h1 | ⟨b, rfl, _, hc⟩
    · exact absurd h1 h0
    · exact ⟨b, c, hv, fun j hj => hc j _ (by simp [nats, hj])⟩

theorem Factor_sq (p A : Nat) (v : Value) (w : World) (hP : Hid (M.Pr p)) (hp2 : p ≤ 1021) (h1 : Hid (Rd w v 1 3 (nats (Q.sqF p A)))) :
    Calls Try.prog 8 #[.int .i64 p, v] w fun x w' => ∃ (v' : Value) (L : List FacE) (l : List (List Nat)), x = .returned (.tuple #[.int .i64 1, v', .int .i64 0]) ∧ FcS w w' v' L ∧ Q.FacL p (Q.sqF p A) (strip L) l := by
  refine (Factor_ok p (Q.sqF p A) v w hP hp2 h1 (Q.sqF_pol hP.out.1 A) (by simp [Q.sqF]) (by simp [Q.sqF])).mono ?_
  rintro x w' ⟨v', L, fin, hx, hf, hfin, hperm, hs⟩
  obtain ⟨l, hl⟩ := Q.facL_of hP.out (Q.sqF_pol hP.out.1 A) (by simp [Q.sqF]) (by simp [Q.sqF]) hfin hperm hs
  exact ⟨v', L, l, hx, hf, hl⟩

end Go.Proofs.Ytgcjdojhfimceaa
