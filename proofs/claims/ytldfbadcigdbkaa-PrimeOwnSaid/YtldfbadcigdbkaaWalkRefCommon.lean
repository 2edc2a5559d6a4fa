/- The walks over the reference's Least and Common. -/
import Derived.Test.YtldfbadcigdbkaaWalkAwake
namespace Go.Proofs.Ytldfbadcigdbkaa
open Go.RowKit

theorem ret_2bb {a : Int} {c d : Bool} (h : c = d) : Ending.returned (.tuple #[.int .i64 a, .bool c]) = .returned (.tuple #[.int .i64 a, .bool d]) := by rw [h]

theorem gcd_mod (all m : Nat) : gcdI (m : Int) ((all : Int) % (m : Int)) = (Nat.gcd all m : Nat) := by
  unfold gcdI
  have : ((all : Int) % (m : Int)).toNat = all % m := by exact_mod_cast Int.toNat_natCast (all % m)
  rw [this, Int.toNat_natCast, Nat.gcd_comm m, ← Nat.gcd_rec, Nat.gcd_comm]

def RefPost (o : Option (Nat × Nat)) (w : World) (e : Ending) (w' : World) : Prop :=
  (match o with
    | some (x, all) => e = .returned (.tuple #[.int .i64 x, .int .i64 all, .int .i64 0])
    | none => e = .returned (.tuple #[.int .i64 0, .int .i64 0, .int .i64 6])) ∧ ∃ n, w' = w.drewN n

/-- The reference's gap. -/
theorem far_facts {x all r m : Nat} (hm : 1 ≤ m) (hr : r < m) (ha : 1 ≤ all) :
    ∃ F : Nat, ((r : Int) - (x : Int) % (m : Int)).tmod m = (r : Int) - (x : Int) % (m : Int) ∧ ((r : Int) - (x : Int) % (m : Int) + (m : Int)) % (m : Int) = (F : Int) ∧ F < m ∧
      (((Nat.gcd all m : Nat) : Int) ∣ (r : Int) - x ↔ Nat.gcd all m ∣ F) ∧
      (((Nat.gcd all m : Nat) : Int) ∣ (r : Int) - x → ((m / Nat.gcd all m : Nat) : Int) ∣ ((F / Nat.gcd all m : Nat) : Int) - ((r : Int) - x) / ((Nat.gcd all m : Nat) : Int)) := by
  have h0 := Int.emod_nonneg (x : Int) (show (m : Int) ≠ 0 by omega)
  have h1 := Int.emod_lt_of_pos (x : Int) (show (0 : Int) < m by omega)
  have h2 := Int.emod_nonneg ((r : Int) - (x : Int) % (m : Int) + (m : Int)) (show (m : Int) ≠ 0 by omega)
  have h3 := Int.emod_lt_of_pos ((r : Int) - (x : Int) % (m : Int) + (m : Int)) (show (0 : Int) < m by omega)
  obtain ⟨F, hF⟩ := Int.eq_ofNat_of_zero_le h2
  have hdiff : (m : Int) ∣ (F : Int) - ((r : Int) - x) := by
    have e1 := Int.mul_ediv_add_emod ((r : Int) - (x : Int) % (m : Int) + (m : Int)) m
    have e2 := Int.mul_ediv_add_emod (x : Int) m
    rw [hF] at e1
    generalize ((r : Int) - (x : Int) % (m : Int) + (m : Int)) / (m : Int) = c at e1
    generalize (x : Int) / (m : Int) = d at e2
    refine ⟨1 - c + d, ?_⟩
    grind
  obtain ⟨g1, _, e2, _, hN1, _, _⟩ := M.gcd_parts (all := all) (m := m) ha hm
  have hgm : ((Nat.gcd all m : Nat) : Int) ∣ (m : Int) := Int.natCast_dvd_natCast.2 (Nat.gcd_dvd_right all m)
  refine ⟨F, ?_, hF, by omega, ?_, ?_⟩
  · by_cases hn : 0 ≤ (r : Int) - (x : Int) % (m : Int)
    · exact Int.tmod_eq_of_lt hn (by omega)
    · obtain ⟨z, hz⟩ : ∃ z, (r : Int) - (x : Int) % (m : Int) = -z := ⟨-((r : Int) - (x : Int) % (m : Int)), by omega⟩
      rw [hz, Int.neg_tmod, Int.tmod_eq_of_lt (by omega) (by omega)]
  · rw [← Int.natCast_dvd_natCast]
    have hgd := Int.dvd_trans hgm hdiff
    constructor
    · intro h
      have := Int.dvd_add hgd h
      rwa [Int.sub_add_cancel] at this
    · intro h
      have := Int.dvd_sub h hgd
      rwa [show (F : Int) - ((F : Int) - ((r : Int) - x)) = (r : Int) - x by omega] at this
  · intro h
    have hgd := Int.dvd_trans hgm hdiff
    have hgF : ((Nat.gcd all m : Nat) : Int) ∣ (F : Int) := by
      have := Int.dvd_add hgd h
      rwa [Int.sub_add_cancel] at this
    generalize hgg : Nat.gcd all m = g at *
    obtain ⟨c, hc⟩ := hdiff
    have hN : (m : Int) = (g : Int) * ((m / g : Nat) : Int) := by rw [← Int.natCast_mul, ← e2]
    have e3 : ((F / g : Nat) : Int) = (F : Int) / (g : Int) := rfl
    rw [e3]
    refine ⟨c, ?_⟩
    have h4 := Int.mul_ediv_cancel' hgF
    have h5 := Int.mul_ediv_cancel' h
    generalize (F : Int) / (g : Int) = y at *
    generalize ((r : Int) - x) / (g : Int) = z at *
    generalize ((m / g : Nat) : Int) = N at *
    have h6 : (g : Int) * (y - z) = (g : Int) * (N * c) := by
      rw [Int.mul_sub, h4, h5, hc, hN]; grind
    exact Int.eq_of_mul_eq_mul_left (by omega) h6

def ArgPost (w : World) (e : Ending) (w' : World) : Prop := e = .returned (.tuple #[.int .i64 0, .int .i64 0, .int .i64 2]) ∧ ∃ n, w' = w.drewN n

set_option maxRecDepth 100000 in
set_option maxHeartbeats 1000000 in
theorem Common_arg (R Q : List Int) (vr vq : Value) (w : World) (hr : Hid (Rd w vr 1 R.length (intsZ R))) (hq : Hid (Rd w vq 1 Q.length (intsZ Q))) (hQl : Q.length ≤ 1000000) (h : Hid (¬ AreRests R Q)) :
    Calls Try.prog 16 #[vr, vq] w (ArgPost w) := by
  go_enter Try.func16, Try.ntmps16
  go_wp2_with (fail)
  refine (areRests_is R Q vr vq false _ hr hq hQl ⟨fun hc => absurd hc h.out, fun hc => by cases hc⟩).mono ?_
  rintro e w' ⟨rfl, rfl⟩
  go_wp2_with (fail)
  go_ret3
  exact ⟨rfl, 0, rfl⟩

theorem valid_rests {L : List (Nat × Nat)} (hL : Valid L) : AreRests ((firsts L).map Int.ofNat) ((seconds L).map Int.ofNat) := by
  refine ⟨by simp [firsts, seconds], by simpa [seconds] using hL.1, fun j hj hj' => ?_⟩
  have hjl : j < L.length := by simpa [seconds] using hj
  have := hL.2 L[j] (List.getElem_mem hjl)
  simp only [firsts, seconds, List.getElem_map, IsRest]
  exact ⟨Int.natCast_nonneg _, by show ((L[j].1 : Nat) : Int) < ((L[j].2 : Nat) : Int); omega, by show ((L[j].2 : Nat) : Int) ≤ _; omega⟩

theorem intsZ_ofNat (Q : List Nat) : intsZ (Q.map Int.ofNat) = ints Q := by simp [intsZ, ints]

set_option maxRecDepth 100000 in
set_option maxHeartbeats 1000000 in
theorem Common_big (L : List (Nat × Nat)) (vr vq : Value) (w : World) (hr : Hid (Rd w vr 1 L.length (ints (firsts L)))) (hq : Hid (Rd w vq 1 L.length (ints (seconds L)))) (hL : Hid (Valid L)) (hs : Hid (M.small 1 (seconds L) = false)) :
    Calls Try.prog 16 #[vr, vq] w (ArgPost w) := by
  have hlen := hL.out.1
  have hr' : Hid (Rd w vr 1 ((firsts L).map Int.ofNat).length (intsZ ((firsts L).map Int.ofNat))) := by show Rd _ _ _ _ _; rw [intsZ_ofNat]; simpa [firsts] using hr.out
  have hq' : Hid (Rd w vq 1 ((seconds L).map Int.ofNat).length (intsZ ((seconds L).map Int.ofNat))) := by show Rd _ _ _ _ _; rw [intsZ_ofNat]; simpa [seconds] using hq.out
  have hq'' : Hid (Rd w vq 1 (seconds L).length (ints (seconds L))) := by show Rd _ _ _ _ _; simpa [seconds] using hq.out
  have hQ : Hid (∀ q ∈ seconds L, 1 ≤ q ∧ q ≤ 2147483647) := by
    intro q hq
    obtain ⟨x, hx, rfl⟩ := List.mem_map.1 hq
    have := hL.out.2 x hx
    omega
  go_enter Try.func16, Try.ntmps16
  go_wp2_with (fail)
  refine (areRests_is _ _ vr vq true _ hr' hq' (by simp [seconds]; omega) ⟨fun _ => rfl, fun _ => valid_rests hL.out⟩).mono ?_
  rintro e w' ⟨rfl, rfl⟩
  go_wp2_with (fail)
  refine (isMultipleSmall_is (seconds L) vq false _ hq'' (by simpa [seconds] using hlen) hQ hs).mono ?_
  rintro e w' ⟨rfl, n0, rfl⟩
  go_wp2_with (fail)
  go_ret3
  exact ⟨rfl, _, rfl⟩

end Go.Proofs.Ytldfbadcigdbkaa