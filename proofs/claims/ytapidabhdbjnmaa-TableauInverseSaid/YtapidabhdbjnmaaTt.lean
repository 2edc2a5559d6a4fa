/- The walks over mod, tame and permutation. -/
import Derived.Test.YtapidabhdbjnmaaTa
import Derived.Test.YtapidabhdbjnmaaTr
namespace Go.Proofs.Ytapidabhdbjnmaa
open Go.RowKit

def two64 : Int := 18446744073709551616
def modv (x n : Int) : Int := x % two64 % n
theorem modv_bd (x n : Int) (hn : 1 ≤ n) : 0 ≤ modv x n ∧ modv x n < n :=
  ⟨Int.emod_nonneg _ (by omega), Int.emod_lt_of_pos _ (by omega)⟩
theorem wrap_u64 (x : Int) : IntKind.u64.wrap x = x % two64 := rfl

theorem mod_is (x n : Int) (w : World) (hn : 1 ≤ n) (hn2 : n ≤ 4611686018427387904) :
    Calls Try.prog 38 #[.int .i64 x, .int .i64 n] w fun e w' => e = .returned (.int .i64 (modv x n)) ∧ w = w' := by
  go_enter Try.func38, Try.ntmps38
  go_wp2
  go_ret
  refine ⟨ret_i ?_, rfl⟩
  have h0 : 0 ≤ x % two64 := Int.emod_nonneg _ (by unfold two64; omega)
  have hb := modv_bd x n hn
  rw [wrap_u64, Int.tmod_eq_emod_of_nonneg h0]
  exact IntWalk.wrap64_in _ ⟨by unfold modv at hb; omega, by unfold modv at hb; omega⟩

/-- The numbers that tame makes of a list. -/
def T.tameL (most : Nat) (Z : List Int) : List Nat := (Z.take most).map fun z => (modv z 1001).toNat
theorem T.tameL_le (most : Nat) (Z : List Int) : (T.tameL most Z).length ≤ most ∧ ∀ x ∈ T.tameL most Z, x ≤ 1000 := by
  refine ⟨by rw [tameL, List.length_map, List.length_take]; omega, fun x hx => ?_⟩
  obtain ⟨z, _, rfl⟩ := List.mem_map.1 hx
  have := modv_bd z 1001 (by omega)
  omega

/-- A slice that came in, at a plain address. -/
theorem ArgI.plain {w : World} {v : Value} {Z : List Int} (h : ArgI w v Z) : (Z = [] ∧ ∃ a cap, v = .slice a 0 cap) ∨ ∃ b off cap, v = .slice (some ⟨b, off, none⟩) Z.length cap ∧ Z.length ≤ cap ∧ b < w.heap.size ∧ ∀ i (hi : i < Z.length), w.cell? ⟨b, off + i, none⟩ = some (.int .i64 Z[i]) := by
  rcases h.2 with ⟨h1, h2⟩ | ⟨a, cap, h1, h2, h3, h4⟩
  · exact .inl ⟨h2, none, 0, h1⟩
  · by_cases h0 : Z.length = 0
    · exact .inl ⟨List.eq_nil_of_length_eq_zero h0, some a, cap, by rw [h1, h0]⟩
    · right
      obtain ⟨b, off, spot⟩ := a
      have hc0 := h4 0 (by omega)
      have hspot : spot = none := by simpa [Addr.add] using World.cell?_spot hc0
      subst hspot
      refine ⟨b, off, cap, h1, h2, ?_, fun i hi => ?_⟩
      · exact World.block_lt_of_cell? w _ hc0
      · rw [← Go.WideShapes.add_plain]; exact h4 i hi

set_option maxRecDepth 100000 in
set_option maxHeartbeats 2000000 in
theorem tame_is (most : Nat) (Z : List Int) (v : Value) (w : World) (hmost : most ≤ 1000) (hv : Hid (ArgI w v Z)) :
    Calls Try.prog 19 #[v, .int .i64 (most : Int)] w (RetL w (T.tameL most Z)) := by
  obtain ⟨a1, len, cap1, hv1, hlen, hcapl, HC1⟩ : ∃ (a1 : Option Addr) (len cap1 : Nat), v = .slice a1 len cap1 ∧ len = Z.length ∧ len ≤ cap1 ∧ Hid (∀ i (hi : i < Z.length), ∃ b off, a1 = some ⟨b, off, none⟩ ∧ b < w.heap.size ∧ w.cell? ⟨b, off + i, none⟩ = some (.int .i64 Z[i])) := by
    rcases hv.out.plain with ⟨rfl, a, cap, h⟩ | ⟨b, off, cap, h1, h2, h3, h4⟩
    · exact ⟨a, 0, cap, h, rfl, Nat.zero_le _, fun i hi => by simp at hi⟩
    · exact ⟨_, _, _, h1, rfl, h2, fun i hi => ⟨b, off, rfl, h3, h4 i hi⟩⟩
  subst hv1
  have hmaxl : len ≤ 9223372036854775807 := by rw [hlen]; exact hv.out.1
  clear hv
  obtain ⟨C, hC⟩ : ∃ C, C = T.tameL most Z := ⟨_, rfl⟩
  obtain ⟨n, hn⟩ : ∃ n, n = min len most := ⟨_, rfl⟩
  have hCl : C.length = n := by rw [hC, T.tameL, List.length_map, List.length_take, hn, hlen]; omega
  have hCg : Hid (∀ i (hi : i < Z.length), i < n → (C.getD i 0 : Int) = modv Z[i] 1001) := fun i hi hin => by
    have h1 : i < C.length := by rw [hCl]; exact hin
    rw [Q.getD_get h1]
    subst hC
    simp only [T.tameL, List.getElem_map, List.getElem_take]
    have := modv_bd Z[i] 1001 (by omega)
    omega
  have hnl : n ≤ len := by omega
  have hnm : n ≤ most := by omega
  have hnor : n = len ∨ n = most := by omega
  have HLEN := Lib.hid hlen
  have HCQ := Lib.hid hC
  have HCL := Lib.hid hCl
  have HNOR := Lib.hid hnor
  clear hC hCl hlen hn hnor
  obtain ⟨i0, hi, hz0, hz1, hz2⟩ := info_parts Try.infoZ
  go_enter Try.func19, Try.ntmps19
  go_wp2_with (fail)
  go_loopw [5, 6] (fun lv iv wx => ∃ (k : Nat), iv = .int .i64 k ∧ k ≤ n ∧ Hid (LSt w wx lv (C.take k))) (fun _ iv _ => n - (intOf iv).toNat)
  case atStart => exact ⟨0, rfl, by omega, by show LSt _ _ _ _; rw [List.take_zero]; exact LSt.start w⟩
  case round =>
    obtain ⟨k, rfl, hk, HS⟩ := hrel
    have hkl : (C.take k).length = k := by rw [List.length_take, HCL.out]; omega
    obtain ⟨a3, cap3, hv3, hc3, hc4⟩ := HS.out.shape
    subst hv3
    rw [hkl] at HS hc3 ⊢
    by_cases hlt : k < n
    · have hkZ : k < Z.length := by have := HLEN.out; omega
      obtain ⟨b1, off, rfl, hb1, c1'⟩ := HC1.out k hkZ
      have hg := hCg.out k hkZ hlt
      obtain ⟨z, hz⟩ : ∃ z, z = Z[k] := ⟨_, rfl⟩
      rw [← hz] at c1' hg
      have c1 : wr.cell? ⟨b1, off + k, none⟩ = some (.int .i64 z) := by rw [HS.out.2.cell (p := ⟨b1, off + k, none⟩) hb1, c1']
      obtain ⟨y, hy⟩ : ∃ y, y = C.getD k 0 := ⟨_, rfl⟩
      rw [← hy] at hg
      have HG := Lib.hid hg
      have HT : Hid (C.take (k + 1) = C.take k ++ [y]) := by
        show _ = _
        rw [List.take_succ_eq_append_getElem (by rw [HCL.out]; exact hlt), ← Q.getD_get (by rw [HCL.out]; exact hlt), hy]
      have HOWN : Hid (wr.ownsRow w.heap.size 3 1 (.slice a3 k cap3) k (nats (C.take k))) := by
        have := HS.out.1; unfold NewL at this; rw [hkl] at this; exact this
      have HKL := Lib.hid hkl
      have hklt : (k : Int) < (len : Int) := by omega
      have hklt2 : (k : Int) < (most : Int) := by omega
      clear hy hz hg hkl c1'
      go_wp2_with (fail)
      refine (mod_is z 1001 _ (by omega) (by omega)).mono ?_
      rintro e w' ⟨rfl, rfl⟩
      rw [← HG.out]
      go_wp2_with (at_builtin; refine wpList_append_own _ rfl _ _ 22 rfl w.heap.size 3 i0 (.int .i64 0) 1 8 Try.underlying22 hi hz0 hz1 hz2 rfl (by decide) _ _ _ rfl (HOWN.out.alloc _) ⟨wr.heap.size, 0, none⟩ 1 1 [.int .i64 y] rfl rfl ?c1 ?c2 ?c3 ?c4 ?c5 ?_)
      case c1 => exact cell_one_new _ _ _
      case c2 => intro u hu; simp at hu; rw [hu]; rfl
      case c3 => unfold maxLen; omega
      case c4 => omega
      case c5 => have := HS.out.2.size; simp; omega
      intro v' w3 hown3 hgrow3 _
      have HS4 : Hid (LSt w w3 v' (C.take (k + 1))) := by
        show LSt _ _ _ _
        rw [HT.out]
        exact HS.out.push (by rw [HKL.out]) hown3 hgrow3
      obtain ⟨a4, cap4, hv4, _⟩ := HS4.out.shape
      rw [List.length_take, HCL.out, show min (k + 1) n = k + 1 by omega] at hv4
      subst hv4
      clear hown3 hgrow3
      go_wp2_with (fail)
      go_roundw
      case rel => exact ⟨k + 1, by go_num, by omega, HS4⟩
      case measure => simp [intOf]; omega
    · obtain rfl : k = n := by omega
      have HOUT : Hid (NewL w wr (.slice a3 k cap3) (T.tameL most Z) ∧ Below w.heap.size w wr) := by
        have h1 := HS.out
        rw [List.take_of_length_le (by rw [HCL.out]; exact Nat.le_refl _), HCQ.out] at h1
        exact h1
      clear hkl HS hlt
      by_cases hkl : k < len
      · have hd1 : decide (k < len) = true := by simpa using hkl
        have hd2 : decide ((k : Int) < (most : Int)) = false := by rw [decide_eq_false_iff_not]; have := HNOR.out; omega
        have hd3 : decide (k < most) = false := by rw [decide_eq_false_iff_not]; have := HNOR.out; omega
        have hd4 : ¬ k < most := by have := HNOR.out; omega
        go_wp2_with (fail)
        go_ret
        exact ⟨⟨_, rfl, HOUT.out.1⟩, HOUT.out.2⟩
      · have hd1 : decide (k < len) = false := by simpa using hkl
        go_wp2_with (fail)
        go_ret
        exact ⟨⟨_, rfl, HOUT.out.1⟩, HOUT.out.2⟩

set_option maxRecDepth 100000 in
set_option maxHeartbeats 4000000 in
theorem permutation_is (most : Nat) (Z : List Int) (v : Value) (w : World) (hmost : most ≤ 1000) (hv : Hid (ArgI w v Z)) :
    Calls Try.prog 8 #[v, .int .i64 (most : Int)] w (RetL w (T.perm (T.tameL most Z))) := by
  obtain ⟨F, hF⟩ : ∃ F, F = T.tameL most Z := ⟨_, rfl⟩
  have hFl : F.length ≤ 1000 := by rw [hF]; have := (T.tameL_le most Z).1; omega
  have htm := Lib.hid (tame_is most Z v w hmost hv)
  rw [← hF] at htm ⊢
  obtain ⟨a1, n1, c1, hv1⟩ := hv.out.form
  subst hv1
  obtain ⟨n, hn⟩ : ∃ n, n = F.length := ⟨_, rfl⟩
  have hnl : n ≤ 1000 := by omega
  have HN := Lib.hid hn
  obtain ⟨P, hP⟩ : ∃ P, P = T.perm F := ⟨_, rfl⟩
  have HPL : Hid (P.length = n) := by show _ = _; rw [hP, T.perm_length, hn]
  have HPG : Hid (∀ i, i < n → P.getD i 0 = 1 + T.cnt (T.bef F i) n) := fun i hi => by rw [hP, T.perm_get F (by omega), hn]; rfl
  rw [← hP]
  clear hv hF hP hn hFl
  obtain ⟨i0, hi, hz0, hz1, hz2⟩ := info_parts Try.infoZ
  go_enter Try.func8, Try.ntmps8
  go_wp2_with (fail)
  refine htm.out.mono ?_
  rintro e w1 ⟨⟨vF, rfl, hNF⟩, hB1⟩
  obtain ⟨aF, cF, hvF, hcF, _⟩ := own_form hNF
  subst hvF
  have HB1 := Lib.hid hB1
  have HRF : Hid (Rd w1 (.slice aF F.length cF) 1 F.length (nats F)) := hNF.rd
  rw [← HN.out] at hcF ⊢
  have HC : Hid (∀ i, i < n → ∃ b, aF = some ⟨b, 0, none⟩ ∧ b < w1.heap.size ∧ w1.cell? ⟨b, i, none⟩ = some (.int .i64 (F.getD i 0 : Nat))) := fun i hi => HRF.out.at i (by rw [← HN.out]; exact hi)
  clear hNF hB1 htm
  go_wp2_with (fail)
  go_loopw [6, 7] (fun lv iv wx => ∃ (i : Nat), iv = .int .i64 i ∧ i ≤ n ∧ Hid (LSt w1 wx lv (P.take i))) (fun _ iv _ => n - (intOf iv).toNat)
  case atStart => exact ⟨0, rfl, by omega, by show LSt _ _ _ _; rw [List.take_zero]; exact LSt.start w1⟩
  case round =>
    obtain ⟨i, rfl, hik, HS⟩ := hrel
    have hkl : (P.take i).length = i := by rw [List.length_take, HPL.out]; omega
    obtain ⟨a3, cap3, hv3, hc3, hc4⟩ := HS.out.shape
    subst hv3
    rw [hkl] at HS hc3 ⊢
    by_cases hin : i < n
    · have hin1 : (i : Int) < (n : Int) := by omega
      obtain ⟨b, rfl, hb, ci'⟩ := HC.out i hin
      have HCW : Hid (∀ j, j < n → wr.cell? ⟨b, j, none⟩ = some (.int .i64 (F.getD j 0 : Nat))) := fun j hj => by
        obtain ⟨b2, e2, hb2, cj⟩ := HC.out j hj
        injection e2 with e2
        injection e2 with e2
        subst e2
        rw [HS.out.2.cell (p := ⟨b, j, none⟩) hb]; exact cj
      obtain ⟨x, hx⟩ : ∃ x, x = F.getD i 0 := ⟨_, rfl⟩
      have HX := Lib.hid hx
      have ci : wr.cell? ⟨b, i, none⟩ = some (.int .i64 (x : Nat)) := by rw [hx]; exact HCW.out i hin
      obtain ⟨y, hy⟩ : ∃ y, y = P.getD i 0 := ⟨_, rfl⟩
      have HY : Hid (y = 1 + T.cnt (T.bef F i) n) := by rw [hy]; exact HPG.out i hin
      have HT : Hid (P.take (i + 1) = P.take i ++ [y]) := by
        show _ = _
        rw [List.take_succ_eq_append_getElem (by rw [HPL.out]; exact hin), ← Q.getD_get (by rw [HPL.out]; exact hin), hy]
      have HKL := Lib.hid hkl
      clear hx hy ci' hkl
      go_wp2_with (fail)
      go_loopw [8, 9] (fun rv kv wx => ∃ (r k q : Nat), rv = .int .i64 r ∧ kv = .int .i64 k ∧ k ≤ n ∧ r ≤ k + 1 ∧ Hid (r = 1 + T.cnt (T.bef F i) k) ∧ wx = wr.drewN q) (fun _ kv _ => n - (intOf kv).toNat)
      case atStart => exact ⟨1, 0, 0, rfl, rfl, by omega, by omega, rfl, by first | rfl | trivial | simp⟩
      case round =>
        obtain ⟨r, k, q, rfl, rfl, hk, hrk, HR, rfl⟩ := hrel
        by_cases hkn : k < n
        · have hkn1 : (k : Int) < (n : Int) := by omega
          have ck : wr.cell? ⟨b, k, none⟩ = some (.int .i64 (F.getD k 0 : Nat)) := HCW.out k hkn
          obtain ⟨z, hz⟩ : ∃ z, z = F.getD k 0 := ⟨_, rfl⟩
          rw [← hz] at ck
          have hbf : T.bef F i k = true ↔ z < x ∨ (z = x ∧ k < i) := by rw [T.bef_iff, ← hz, ← HX.out]
          have hRn : T.cnt (T.bef F i) (k + 1) = T.cnt (T.bef F i) k + (if T.bef F i k = true then 1 else 0) := rfl
          have HZ := Lib.hid hz
          by_cases h1 : z < x
          · have HRN : Hid (r + 1 = 1 + T.cnt (T.bef F i) (k + 1)) := by show _ = _; rw [hRn, if_pos (hbf.2 (.inl h1))]; have := HR.out; omega
            have hd1 : decide (z < x) = true := by rw [decide_eq_true_iff]; omega
            clear hz hbf hRn h1
            go_wp2_with (fail)
            go_quiet (fail)
            go_wp2_with (fail)
            go_roundw
            case rel => exact ⟨r + 1, k + 1, _, by go_num, by go_num, by omega, by omega, HRN, by first | rfl | exact World.drewN_drewN _ _ _⟩
            case measure => simp [intOf]; omega
          · have hd1 : decide (z < x) = false := by rw [decide_eq_false_iff_not]; omega
            by_cases h2 : z = x
            · have hd2 : ((z : Int) == (x : Int)) = true := by rw [beq_iff_eq]; omega
              by_cases h3 : k < i
              · have HRN : Hid (r + 1 = 1 + T.cnt (T.bef F i) (k + 1)) := by show _ = _; rw [hRn, if_pos (hbf.2 (.inr ⟨h2, h3⟩))]; have := HR.out; omega
                have hd3 : decide (k < i) = true := by rw [decide_eq_true_iff]; omega
                clear hz hbf hRn h1 h2 h3
                go_wp2_with (fail)
                go_quiet (fail)
                go_wp2_with (fail)
                go_roundw
                case rel => exact ⟨r + 1, k + 1, _, by go_num, by go_num, by omega, by omega, HRN, by first | rfl | exact World.drewN_drewN _ _ _⟩
                case measure => simp [intOf]; omega
              · have HRN : Hid (r = 1 + T.cnt (T.bef F i) (k + 1)) := by show _ = _; rw [hRn, if_neg (fun h => by have := hbf.1 h; omega)]; have := HR.out; omega
                have hd3 : decide (k < i) = false := by rw [decide_eq_false_iff_not]; omega
                clear hz hbf hRn h1 h2 h3
                go_wp2_with (fail)
                go_quiet (fail)
                go_wp2_with (fail)
                go_roundw
                case rel => exact ⟨r, k + 1, _, by first | rfl | go_num, by go_num, by omega, by omega, HRN, by first | rfl | exact World.drewN_drewN _ _ _⟩
                case measure => simp [intOf]; omega
            · have hd2 : ((z : Int) == (x : Int)) = false := by rw [beq_eq_false_iff_ne]; omega
              have HRN : Hid (r = 1 + T.cnt (T.bef F i) (k + 1)) := by show _ = _; rw [hRn, if_neg (fun h => by have := hbf.1 h; omega)]; have := HR.out; omega
              clear hz hbf hRn h1 h2
              go_wp2_with (fail)
              go_quiet (fail)
              go_wp2_with (fail)
              go_roundw
              case rel => exact ⟨r, k + 1, _, by first | rfl | go_num, by go_num, by omega, by omega, HRN, by first | rfl | exact World.drewN_drewN _ _ _⟩
              case measure => simp [intOf]; omega
        · obtain rfl : k = n := by omega
          have HRY : Hid (r = y) := by show _ = _; rw [HY.out]; exact HR.out
          have HS2 : Hid (LSt w1 (wr.drewN q) (.slice a3 i cap3) (P.take i)) := by
            have hb9 : Below wr.heap.size wr (wr.drewN q) := below_drewN (Below.refl _ _) q
            exact ⟨HS.out.1.keep hb9, below_step HS.out.2 hb9⟩
          obtain ⟨W, hW⟩ : ∃ W, W = wr.drewN q := ⟨_, rfl⟩
          rw [← hW] at HS2 ⊢
          have HOWN : Hid (W.ownsRow w1.heap.size 3 1 (.slice a3 i cap3) i (nats (P.take i))) := by
            have := HS2.out.1; unfold NewL at this; rw [HKL.out] at this; exact this
          clear hW hkn ci
          go_wp2_with (at_builtin; refine wpList_append_own _ rfl _ _ 22 rfl w1.heap.size 3 i0 (.int .i64 0) 1 8 Try.underlying22 hi hz0 hz1 hz2 rfl (by decide) _ _ _ rfl (HOWN.out.alloc _) ⟨W.heap.size, 0, none⟩ 1 1 [.int .i64 r] rfl rfl ?c1 ?c2 ?c3 ?c4 ?c5 ?_)
          case c1 => exact cell_one_new _ _ _
          case c2 => intro u hu; simp at hu; rw [hu]; rfl
          case c3 => unfold maxLen; omega
          case c4 => omega
          case c5 => have := HS2.out.2.size; simp; omega
          intro v' w3 hown3 hgrow3 _
          have HS4 : Hid (LSt w1 w3 v' (P.take (i + 1))) := by
            show LSt _ _ _ _
            rw [HT.out, ← HRY.out]
            exact HS2.out.push (by rw [HKL.out]) hown3 hgrow3
          obtain ⟨a4, cap4, hv4, _⟩ := HS4.out.shape
          rw [List.length_take, HPL.out, show min (i + 1) k = i + 1 by omega] at hv4
          subst hv4
          clear hown3 hgrow3
          go_wp2_with (fail)
          go_roundw
          case rel => exact ⟨i + 1, by go_num, by omega, HS4⟩
          case measure => simp [intOf]; omega
    · obtain rfl : i = n := by omega
      have HOUT : Hid (NewL w wr (.slice a3 i cap3) P ∧ Below w.heap.size w wr) := by
        have h1 := HS.out
        rw [List.take_of_length_le (by rw [HPL.out]; exact Nat.le_refl _)] at h1
        exact ⟨h1.1.from HB1.out.size, below_step HB1.out h1.2⟩
      clear hkl HS hin
      go_wp2_with (fail)
      go_ret
      exact ⟨⟨_, rfl, HOUT.out.1⟩, HOUT.out.2⟩

end Go.Proofs.Ytapidabhdbjnmaa
