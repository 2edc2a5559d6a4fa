/- Texts of the proof, laid together. -/
import Derived.Test.YtgcjdojhfimceaaGreatG08
import Derived.Test.YtgcjdojhfimceaaGreatG04
import Derived.Test.YtgcjdojhfimceaaGreatG16
import Derived.Test.YtgcjdojhfimceaaGreatG15
namespace Go.Proofs.YtgcjdojhfimceaaGreat
open Go.RowKit

theorem no_square {p A : Nat} (hP : M.Pr p) (h3 : 3 ≤ p) (hA1 : 1 ≤ A) (hn : (M.pw (A : Int) (((p : Int) - 1) / 2) (p : Int) == 1) = false) : ∀ r, r < p → r * r % p ≠ A := by
  intro r hr h
  have hodd := M.odd_prime hP h3
  rw [beq_eq_false_iff_ne] at hn
  apply hn
  rw [show ((p : Int) - 1) / 2 = (((p - 1) / 2 : Nat) : Int) by omega, pw_nat]
  have hr0 : ¬ p ∣ r := fun hd => by
    obtain ⟨k, rfl⟩ := hd
    rw [Nat.mul_assoc, Nat.mul_mod_right] at h; omega
  have hf := M.fermat hP hr0
  have : A ^ ((p - 1) / 2) % p = 1 := by
    rw [← h, ← Nat.pow_mod, ← Nat.pow_two, ← Nat.pow_mul, show 2 * ((p - 1) / 2) = p - 1 by omega]; exact hf
  rw [this]; rfl

theorem p7 : M.Pr 7 := pr7

set_option maxRecDepth 100000 in
set_option maxHeartbeats 1000000 in
theorem two_is (w : World) : Calls Tryz.prog 10 #[] w fun x w' => x = .returned (.bool true) ∧ Below w.heap.size w w' := by
  go_enter Tryz.func10, Tryz.ntmps10
  go_wp2_with (fail)
  refine (Root27 _).mono ?_
  rintro e w1 ⟨rfl, hB1⟩
  have HB1 := Lib.hid hB1
  have hl := Lib.hid (lit3 w1 5 0 1 3)
  clear hB1
  go_wp2_with (fail)
  refine (Value_ok 7 3 [5, 0, 1] _ _ p7 (by omega) (by omega) hl (by show Q.Pol 7 [5, 0, 1]; exact Q.pol_of (by intro x hx; simp at hx; omega) (.inr (by simp))) (by simp)).mono ?_
  rintro e w2 ⟨rfl, hB2⟩
  have hv : Q.valP 7 [5, 0, 1] 3 = 0 := by decide
  rw [hv]
  have HB2 := Lib.hid hB2
  clear hB2 hv
  go_wp2_with (fail)
  go_ret
  have h1 := HB1.out.alloc HB1.out.size (.cells #[.int .i64 5, .int .i64 0, .int .i64 1] 3)
  exact ⟨rfl, h1.trans (HB2.out.mono h1.size)⟩

/-- A row of coefficients that a call made. -/
theorem row_of {w wr : World} {u : Value} {M : List Nat} (h : RowS w wr u M) (h0 : M.length ≠ 0) : ∃ b c, u = .slice (some ⟨b, 0, none⟩) M.length c ∧ ∀ j (hj : j < M.length), wr.cell? ⟨b, j, none⟩ = some (.int .i64 (M[j] : Int)) := by
  rcases h with h | h
  · exact h.1.elim
  · obtain ⟨_, a, c, hv, _, hcl⟩ := Rd.of_own h
    rcases hcl with h1 | ⟨b, rfl, _, hc⟩
    · exact absurd h1 h0
    · exact ⟨b, c, hv, fun j hj => hc j _ (by simp [nats, hj])⟩

theorem Factor_sq (p A : Nat) (v : Value) (w : World) (hP : Hid (M.Pr p)) (hp2 : p ≤ 1021) (h1 : Hid (Rd w v 1 3 (nats (Q.sqF p A)))) :
    Calls Tryz.prog 6 #[.int .i64 p, v] w fun x w' => ∃ (v' : Value) (L : List FacE) (l : List (List Nat)), x = .returned (.tuple #[.int .i64 1, v', .int .i64 0]) ∧ FcS w w' v' L ∧ Q.FacL p (Q.sqF p A) (strip L) l := by
  refine (Factor_ok p (Q.sqF p A) v w hP hp2 h1 (Q.sqF_pol hP.out.1 A) (by simp [Q.sqF]) (by simp [Q.sqF])).mono ?_
  rintro x w' ⟨v', L, fin, hx, hf, hfin, hperm, hs⟩
  obtain ⟨l, hl⟩ := Q.facL_of hP.out (Q.sqF_pol hP.out.1 A) (by simp [Q.sqF]) (by simp [Q.sqF]) hfin hperm hs
  exact ⟨v', L, l, hx, hf, hl⟩

end Go.Proofs.YtgcjdojhfimceaaGreat

namespace Go.Proofs.YtgcjdojhfimceaaGreat
open Go.RowKit

set_option maxRecDepth 100000 in
set_option maxHeartbeats 1000000 in
theorem gcdT_is (a b : Nat) (w : World) (ha : a ≤ 4000) (hb : b ≤ 4000) : Calls Tryz.prog 9 #[.int .i64 a, .int .i64 b] w fun x w' => x = .returned (.int .i64 (Nat.gcd a b : Nat)) ∧ w = w' := by
  go_enter Tryz.func9, Tryz.ntmps9
  go_wp2_with (fail)
  go_loop [0, 1] (fun u v => ∃ x y : Nat, u = .int .i64 x ∧ v = .int .i64 y ∧ x ≤ 4000 ∧ y ≤ 4000 ∧ Hid (Nat.gcd x y = Nat.gcd a b)) (fun _ v => (intOf v).toNat)
  case atStart => exact ⟨a, b, rfl, rfl, ha, hb, rfl⟩
  case round =>
    obtain ⟨x, y, rfl, rfl, hx, hy, HG⟩ := hrel
    by_cases h0 : y = 0
    · have hd : decide ((0 : Int) < (y : Int)) = false := by simp [h0]
      have hd2 : decide (0 < y) = false := by simp [h0]
      have HE : Hid (x = Nat.gcd a b) := by show _ = _; rw [← HG.out, h0, Nat.gcd_zero_right]
      clear h0
      go_wp2_with (fail)
      go_ret
      rw [← HE.out]
      exact ⟨rfl, rfl⟩
    · have hd : decide ((0 : Int) < (y : Int)) = true := by simp; omega
      have hd2 : decide (0 < y) = true := by simp; omega
      have hr : x % y < y := Nat.mod_lt _ (by omega)
      obtain ⟨r, hrr⟩ : ∃ r, r = x % y := ⟨_, rfl⟩
      have hm : (x : Int).tmod (y : Int) = (r : Int) := by rw [Int.tmod_eq_emod_of_nonneg (by omega), hrr]; rfl
      have hm2 : (x : Int) % (y : Int) = (r : Int) := by rw [hrr]; rfl
      rw [← hrr] at hr
      have HR := Lib.hid hrr
      clear hrr
      go_wp2_with (fail)
      go_round
      case rel => exact ⟨y, r, rfl, rfl, hy, by omega, by show _ = _; rw [← HG.out, HR.out, Nat.gcd_comm x y, Nat.gcd_rec y x, Nat.gcd_comm]⟩
      case measure => simp [intOf]; omega

theorem Factor_un (p K : Nat) (v : Value) (w : World) (hP : Hid (M.Pr p)) (hp2 : p ≤ 1021) (hK1 : 1 ≤ K) (hK2 : K ≤ 20) (h1 : Hid (Rd w v 1 (K + 1) (nats (Q.uniF p K)))) :
    Calls Tryz.prog 6 #[.int .i64 p, v] w fun x w' => ∃ (v' : Value) (L : List FacE) (l : List (List Nat)), x = .returned (.tuple #[.int .i64 1, v', .int .i64 0]) ∧ FcS w w' v' L ∧ Q.FacL p (Q.uniF p K) (strip L) l := by
  have hlen := Q.uniF_len (p := p) hK1
  have h1' : Hid (Rd w v 1 (Q.uniF p K).length (nats (Q.uniF p K))) := by show Rd _ _ _ _ _; rw [hlen]; exact h1.out
  refine (Factor_ok p (Q.uniF p K) v w hP hp2 h1' (Q.uniF_pol hP.out.1 hK1) (by omega) (by omega)).mono ?_
  rintro x w' ⟨v', L, fin, hx, hf, hfin, hperm, hs⟩
  obtain ⟨l, hl⟩ := Q.facL_of hP.out (Q.uniF_pol hP.out.1 hK1) (by omega) (by omega) hfin hperm hs
  rw [Q.uniF_last hK1] at hx
  exact ⟨v', L, l, hx, hf, hl⟩

/-- The order of a root of unity. -/
theorem Order_un {p K x : Nat} (hP : M.Pr p) (hp2 : p ≤ 1021) (hK1 : 1 ≤ K) (hx : x < p) (h : x ^ K % p = 1) (w : World) : Calls Tryz.prog 7 #[.int .i64 x, .int .i64 p] w fun e w' => (∃ o : Nat, e = .returned (.tuple #[.int .i64 o, .int .i64 0]) ∧ 1 ≤ o ∧ o ≤ K ∧ K % o = 0) ∧ Below w.heap.size w w' := by
  have hp := hP.1
  have h1p : 1 % p = 1 := Nat.mod_eq_of_lt (by omega)
  obtain ⟨o, ho⟩ := M.exists_ord hK1 (by rw [h1p]; exact h)
  have hd := ho.dvd (by rw [h1p]; exact h)
  obtain ⟨L2, hL2⟩ := M.exists_fac (p - 1) (by omega)
  refine (Ord_ok x p o [(p, 1)] L2 w (by omega) (by omega) (by omega) (by rw [Int.toNat_natCast]; exact fac_prime hP) (by rw [phi_prime]; exact hL2) (by rw [Int.toNat_natCast, Int.toNat_natCast]; exact ho)).mono ?_
  rintro e w' ⟨h1, h2⟩
  exact ⟨⟨o, h1, ho.pos, Nat.le_of_dvd hK1 hd, Nat.mod_eq_zero_of_dvd hd⟩, h2⟩

end Go.Proofs.YtgcjdojhfimceaaGreat
