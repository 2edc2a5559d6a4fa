/- Chains of a word; the walk over the reference's chain. -/
import Derived.Test.YtapidabhdbjnmaaKa
namespace Go.Proofs.Ytapidabhdbjnmaa
open Go.RowKit

theorem zatb {w : World} {a : Option Addr} {n cap : Nat} {Z : List Int} (h : Rd w (.slice a n cap) 1 Z.length (zs Z)) (i : Nat) (hi : i < Z.length) : ∃ b, a = some ⟨b, 0, none⟩ ∧ b < w.heap.size ∧ w.cell? ⟨b, i, none⟩ = some (.int .i64 (Z.getD i 0)) := by
  obtain ⟨_, a', cap', e, _, h4⟩ := h
  injection e with e _ _
  subst e
  rcases h4 with h4 | ⟨b, rfl, hb, hc⟩
  · omega
  · refine ⟨b, rfl, hb, ?_⟩
    rw [hc i _ (by rw [zs_get Z i hi])]
    simp [List.getD, hi]
theorem still_draw {P : Program} {f : FuncId} {args : Array Value} {v : Value} {w0 : World} (a n : Nat) (c : Calls P f args (w0.drewN (a + n)) fun e w' => e = .returned v ∧ ∃ m, w' = (w0.drewN (a + n)).drewN m) :
    Calls P f args (w0.drewN (a + n)) fun e w' => e = .returned v ∧ ∃ m, w' = w0.drewN (a + m) :=
  c.mono fun _ _ ⟨he, m, hm⟩ => ⟨he, n + m, by rw [hm, World.drewN_drewN, Nat.add_assoc]⟩

namespace C
/-- Does y follow x? -/
def rel (up : Bool) (x y : Int) : Prop := if up = true then x ≤ y else y < x
def wat (W : List Int) (i : Int) : Int := W.getD i.toNat 0
def good (W : List Int) (up : Bool) (Z : List Int) (k : Nat) : Prop :=
  0 ≤ Z.getD k 0 ∧ Z.getD k 0 < W.length ∧ (0 < k → Z.getD (k - 1) 0 < Z.getD k 0 ∧ rel up (wat W (Z.getD (k - 1) 0)) (wat W (Z.getD k 0)))
def chain (W : List Int) (up : Bool) (Z : List Int) : Prop := Z.length ≠ 0 ∧ ∀ k, k < Z.length → good W up Z k
/-- Positions are marked; none twice. -/
def mk (u : List Bool) : List Int → Option (List Bool)
  | [] => some u
  | i :: Z => if u.getD i.toNat false = true then none else mk (u.set i.toNat true) Z
theorem mk_snoc : ∀ (A : List Int) (u : List Bool) (x : Int), mk u (A ++ [x]) = match mk u A with | none => none | some u' => if u'.getD x.toNat false = true then none else some (u'.set x.toNat true)
  | [], u, x => by simp [mk]
  | i :: A, u, x => by
    show mk u (i :: (A ++ [x])) = _
    rw [mk, mk]
    split
    · rfl
    · exact mk_snoc A _ x
theorem mk_length : ∀ (A : List Int) (u u' : List Bool), mk u A = some u' → u'.length = u.length
  | [], u, u', h => by simp [mk] at h; rw [h]
  | i :: A, u, u', h => by
    rw [mk] at h
    split at h
    · cases h
    · have := mk_length A _ _ h; rw [List.length_set] at this; exact this
theorem mk_take {u u' : List Bool} {Z : List Int} (h : mk u Z = some u') : ∀ j, j ≤ Z.length → ∃ u1, mk u (Z.take j) = some u1
  | 0, _ => ⟨u, by simp [mk]⟩
  | j + 1, hj => by
    obtain ⟨B, hB⟩ : ∃ B, Z = Z.take (j + 1) ++ B := ⟨Z.drop (j + 1), (List.take_append_drop _ _).symm⟩
    have : ∀ (A B : List Int) (u u' : List Bool), mk u (A ++ B) = some u' → ∃ u1, mk u A = some u1 := by
      intro A
      induction A with
      | nil => intro B u u' _; exact ⟨u, rfl⟩
      | cons i A ih =>
        intro B u u' h
        have h' : mk u (i :: (A ++ B)) = some u' := h
        rw [mk] at h' ⊢
        split at h'
        · cases h'
        · next e => rw [if_neg e]; exact ih B _ _ h'
    rw [hB] at h
    exact this _ _ _ _ h
/-- Disjoint chains. -/
def cov (W : List Int) (up : Bool) : List Bool → List (List Int) → List Bool → Prop
  | u, [], u' => u' = u
  | u, Z :: L, u' => chain W up Z ∧ ∃ u1, mk u Z = some u1 ∧ cov W up u1 L u'
theorem cov_snoc {W : List Int} {up : Bool} : ∀ (A : List (List Int)) (u u1 u' : List Bool) (Z : List Int), cov W up u A u1 → chain W up Z → mk u1 Z = some u' → cov W up u (A ++ [Z]) u'
  | [], u, u1, u', Z, h, h1, h2 => by
    have h : u1 = u := h
    subst h
    exact ⟨h1, u', h2, rfl⟩
  | Y :: A, u, u1, u', Z, h, h1, h2 => by
    obtain ⟨h3, u2, h4, h5⟩ := h
    exact ⟨h3, u2, h4, cov_snoc A u2 u1 u' Z h5 h1 h2⟩
theorem cov_only {W : List Int} {up : Bool} : ∀ (A : List (List Int)) (u u1 u2 : List Bool), cov W up u A u1 → cov W up u A u2 → u1 = u2
  | [], u, u1, u2, h1, h2 => by have h1 : u1 = u := h1; have h2 : u2 = u := h2; rw [h1, h2]
  | Y :: A, u, u1, u2, h1, h2 => by
    obtain ⟨_, v1, g1, g2⟩ := h1
    obtain ⟨_, v2, k1, k2⟩ := h2
    rw [g1] at k1
    injection k1 with k1
    subst k1
    exact cov_only A _ _ _ g2 k2
theorem cov_at {W : List Int} {up : Bool} : ∀ (A : List (List Int)) (u u' : List Bool), cov W up u A u' → ∀ i, i < A.length → ∃ u1 u2, cov W up u (A.take i) u1 ∧ chain W up (A.getD i []) ∧ mk u1 (A.getD i []) = some u2
  | [], u, u', _, i, hi => by simp at hi
  | Y :: A, u, u', h, i, hi => by
    obtain ⟨h1, v, h2, h3⟩ := h
    cases i with
    | zero => exact ⟨u, v, rfl, h1, h2⟩
    | succ i =>
      obtain ⟨u1, u2, g1, g2, g3⟩ := cov_at A v u' h3 i (by simpa using hi)
      exact ⟨u1, u2, ⟨h1, v, h2, g1⟩, g2, g3⟩
/-- How many positions. -/
def sumL : List (List Int) → Nat
  | [] => 0
  | Z :: L => Z.length + sumL L
theorem sumL_snoc : ∀ (A : List (List Int)) (Z : List Int), sumL (A ++ [Z]) = sumL A + Z.length
  | [], Z => by simp [sumL]
  | Y :: A, Z => by show Y.length + sumL (A ++ [Z]) = Y.length + sumL A + Z.length; rw [sumL_snoc A Z]; omega
end C

set_option maxRecDepth 100000 in
set_option maxHeartbeats 4000000 in
theorem rchain_is (W Z : List Int) (up : Bool) (vw vz : Value) (t : Bool) (w : World) (hw : Hid (Rd w vw 1 W.length (zs W))) (hz : Hid (Rd w vz 1 Z.length (zs Z))) (hl : W.length ≤ 1000000) (hl2 : Z.length ≤ 1000000) (ht : Hid (C.chain W up Z ↔ t = true)) :
    Calls Try.prog 63 #[vw, vz, .bool up] w fun e w' => e = .returned (.bool t) ∧ ∃ q, w' = w.drewN q := by
  obtain ⟨aw, cw, hvw⟩ := hw.out.shape
  obtain ⟨az, cz, hvz⟩ := hz.out.shape
  subst hvw hvz
  obtain ⟨m, hm⟩ : ∃ m, m = W.length := ⟨_, rfl⟩
  obtain ⟨n, hn⟩ : ∃ n, n = Z.length := ⟨_, rfl⟩
  have HM := Lib.hid (And.intro hm hn)
  have HW : Hid (Rd w (.slice aw m cw) 1 W.length (zs W)) := by show Rd _ _ _ _ _; rw [hm]; exact hw.out
  have HZ : Hid (Rd w (.slice az n cz) 1 Z.length (zs Z)) := by show Rd _ _ _ _ _; rw [hn]; exact hz.out
  rw [← hm] at hl ⊢
  rw [← hn] at hl2 ⊢
  clear hw hz hm hn
  go_enter Try.func63, Try.ntmps63
  go_wp2_with (fail)
  go_loopw [7] (fun iv wx => ∃ (i q : Nat), iv = .int .i64 i ∧ i ≤ n ∧ wx = w.drewN q ∧ Hid (∀ k, k < i → C.good W up Z k)) (fun iv _ => n - (intOf iv).toNat)
  case atStart => exact ⟨0, 0, rfl, by omega, by first | rfl | trivial | simp, fun k hk => by omega⟩
  case round =>
    obtain ⟨i, q, rfl, him, rfl, HG⟩ := hrel
    by_cases hin : i < n
    · have hin1 : (i : Int) < (n : Int) := by omega
      obtain ⟨bz, ez, _, cz1⟩ := zatb HZ.out i (by rw [← HM.out.2]; exact hin)
      subst ez
      obtain ⟨x, hx⟩ : ∃ x, x = Z.getD i 0 := ⟨_, rfl⟩
      rw [← hx] at cz1
      have hno : ¬ C.good W up Z i → t = false := fun h => by
        cases t with
        | false => rfl
        | true => exact absurd ((ht.out.2 rfl).2 i (by rw [← HM.out.2]; exact hin)) h
      have hgo : C.good W up Z i → ∀ k, k < i + 1 → C.good W up Z k := fun h k hk => by
        by_cases hki : k < i
        · exact HG.out k hki
        · obtain rfl : k = i := by omega
          exact h
      by_cases hx0 : x < 0
      · have HT := Lib.hid (hno fun h => by have := h.1; omega)
        have hd : decide (x < 0) = true := by simpa using hx0
        clear hx hno hgo hx0
        go_wp2_with (fail)
        go_quiet (fail)
        go_wp2_with (fail)
        go_ret
        exact ⟨by rw [HT.out]; rfl, _, by first | rfl | exact World.drewN_drewN _ _ _⟩
      · have hd : decide (x < 0) = false := by simpa using hx0
        by_cases hxm : (m : Int) ≤ x
        · have HT := Lib.hid (hno fun h => by have := h.2.1; have := HM.out.1; omega)
          have hdm : decide ((m : Int) ≤ x) = true := by simpa using hxm
          clear hx hno hgo hx0 hxm
          go_wp2_with (fail)
          go_quiet (fail)
          go_wp2_with (fail)
          go_ret
          exact ⟨by rw [HT.out]; rfl, _, by first | rfl | exact World.drewN_drewN _ _ _⟩
        · have hdm : decide ((m : Int) ≤ x) = false := by simpa using hxm
          obtain ⟨xn, hxn⟩ := Int.eq_ofNat_of_zero_le (show 0 ≤ x by omega)
          by_cases hi0 : i = 0
          · have HGN : Hid (∀ k, k < i + 1 → C.good W up Z k) := hgo ⟨by omega, by have := HM.out.1; omega, fun h => by omega⟩
            have hdi : decide (0 < i) = false := by rw [decide_eq_false_iff_not]; omega
            have HI := Lib.hid hi0
            clear hx hno hgo hx0 hxm hi0 hxn
            go_wp2_with (fail)
            go_quiet (fail)
            go_wp2_with (fail)
            go_quiet (fail)
            go_wp2_with (fail)
            go_roundw
            case rel => exact ⟨i + 1, _, by first | rfl | go_num, by omega, by first | rfl | exact World.drewN_drewN _ _ _ | (simp only [World.drewN_drewN]; rfl), HGN⟩
            case measure => simp [intOf]; omega
          · obtain ⟨k, hk⟩ : ∃ k, i = k + 1 := ⟨i - 1, by omega⟩
            have hk1 : (i : Int) - 1 = (k : Int) := by omega
            obtain ⟨b1, e1, _, hc1⟩ := zatb HZ.out k (by have := HM.out.2; omega)
            injection e1 with e1
            injection e1 with e1
            subst e1
            obtain ⟨y, hy⟩ : ∃ y, y = Z.getD k 0 := ⟨_, rfl⟩
            rw [← hy] at hc1
            have hyg : Z.getD (i - 1) 0 = y := by rw [hy, show i - 1 = k by omega]
            have hgk := HG.out k (by omega)
            unfold C.good at hgk
            rw [← hy] at hgk
            have hdi : decide (0 < i) = true := by rw [decide_eq_true_iff]; omega
            have hkm : (k : Int) < (n : Int) := by omega
            have hgi : C.good W up Z i ↔ y < x ∧ C.rel up (C.wat W y) (C.wat W x) := by
              unfold C.good
              rw [hyg, ← hx]
              have := HM.out.1
              exact ⟨fun h => h.2.2 (by omega), fun h => ⟨by omega, by omega, fun _ => h⟩⟩
            have HK := Lib.hid hk
            by_cases hxy : x ≤ y
            · have HT := Lib.hid (hno fun h => by have := (hgi.1 h).1; omega)
              have hdy : decide (x ≤ y) = true := by simpa using hxy
              clear hx hy hyg hno hgo hx0 hxm hi0 hk hgi hgk hxy hxn
              go_wp2_with (fail)
              go_quiet (fail)
              go_wp2_with (fail)
              go_ret
              exact ⟨by rw [HT.out]; rfl, _, by first | rfl | exact World.drewN_drewN _ _ _⟩
            · have hdy : decide (x ≤ y) = false := by simpa using hxy
              obtain ⟨yn, hyn⟩ := Int.eq_ofNat_of_zero_le (show 0 ≤ y by omega)
              subst hxn hyn
              have hdm2 : decide (m ≤ xn) = false := by rw [decide_eq_false_iff_not]; omega
              have hdy2 : decide (xn ≤ yn) = false := by rw [decide_eq_false_iff_not]; omega
              have hxW : xn < W.length := by have := HM.out.1; omega
              have hyW : yn < W.length := by have := HM.out.1; omega
              obtain ⟨bw, ew, _, cwx⟩ := zatb HW.out xn hxW
              subst ew
              obtain ⟨bw2, ew, _, cwy⟩ := zatb HW.out yn hyW
              injection ew with ew
              injection ew with ew
              subst ew
              obtain ⟨p, hp⟩ : ∃ p, p = W.getD xn 0 := ⟨_, rfl⟩
              obtain ⟨r, hr⟩ : ∃ r, r = W.getD yn 0 := ⟨_, rfl⟩
              rw [← hp] at cwx
              rw [← hr] at cwy
              have hrel : C.good W up Z i ↔ C.rel up r p := by
                rw [hgi, hp, hr]
                exact ⟨fun h => h.2, fun h => ⟨by omega, h⟩⟩
              have hxm1 : (xn : Int) < (m : Int) := by have := HM.out.1; omega
              have hym1 : (yn : Int) < (m : Int) := by have := HM.out.1; omega
              unfold C.rel at hrel
              cases up with
              | true =>
                rw [if_pos rfl] at hrel
                by_cases hpr : p < r
                · have HT := Lib.hid (hno fun h => by have := hrel.1 h; omega)
                  have hdp : decide (p < r) = true := by simpa using hpr
                  clear hx hy hyg hno hgo hx0 hxm hi0 hk hgi hgk hxy hrel hp hr hxW hyW hpr
                  go_wp2_with (fail)
                  go_quiet (fail)
                  go_wp2_with (fail)
                  go_quiet (fail)
                  go_wp2_with (fail)
                  go_ret
                  exact ⟨by rw [HT.out]; rfl, _, by first | rfl | exact World.drewN_drewN _ _ _ | (simp only [World.drewN_drewN]; rfl)⟩
                · have hdp : decide (p < r) = false := by simpa using hpr
                  have HGN : Hid (∀ k, k < i + 1 → C.good W true Z k) := hgo (hrel.2 (by omega))
                  clear hx hy hyg hno hgo hx0 hxm hi0 hk hgi hgk hxy hrel hp hr hxW hyW hpr
                  go_wp2_with (fail)
                  go_quiet (fail)
                  go_wp2_with (fail)
                  go_quiet (fail)
                  go_wp2_with (fail)
                  go_roundw
                  case rel => exact ⟨i + 1, _, by first | rfl | go_num, by omega, by first | rfl | exact World.drewN_drewN _ _ _ | (simp only [World.drewN_drewN]; rfl), HGN⟩
                  case measure => simp [intOf]; omega
              | false =>
                rw [if_neg (by simp)] at hrel
                by_cases hpr : r ≤ p
                · have HT := Lib.hid (hno fun h => by have := hrel.1 h; omega)
                  have hdp : decide (r ≤ p) = true := by simpa using hpr
                  clear hx hy hyg hno hgo hx0 hxm hi0 hk hgi hgk hxy hrel hp hr hxW hyW hpr
                  go_wp2_with (fail)
                  go_quiet (fail)
                  go_wp2_with (fail)
                  go_quiet (fail)
                  go_wp2_with (fail)
                  go_ret
                  exact ⟨by rw [HT.out]; rfl, _, by first | rfl | exact World.drewN_drewN _ _ _ | (simp only [World.drewN_drewN]; rfl)⟩
                · have hdp : decide (r ≤ p) = false := by simpa using hpr
                  have HGN : Hid (∀ k, k < i + 1 → C.good W false Z k) := hgo (hrel.2 (by omega))
                  clear hx hy hyg hno hgo hx0 hxm hi0 hk hgi hgk hxy hrel hp hr hxW hyW hpr
                  go_wp2_with (fail)
                  go_quiet (fail)
                  go_wp2_with (fail)
                  go_quiet (fail)
                  go_wp2_with (fail)
                  go_roundw
                  case rel => exact ⟨i + 1, _, by first | rfl | go_num, by omega, by first | rfl | exact World.drewN_drewN _ _ _ | (simp only [World.drewN_drewN]; rfl), HGN⟩
                  case measure => simp [intOf]; omega
    · obtain rfl : n = i := by omega
      by_cases h0 : n = 0
      · have HT : Hid (t = false) := by
          show _ = _
          cases t with
          | false => rfl
          | true => exact absurd (by rw [← HM.out.2]; exact h0) (ht.out.2 rfl).1
        have hd : decide (0 < n) = false := by rw [decide_eq_false_iff_not]; omega
        have HN0 := Lib.hid h0
        clear hin h0
        go_wp2_with (fail)
        go_ret
        exact ⟨by rw [HT.out]; simp [hd], _, rfl⟩
      · have HT : Hid (t = true) := ht.out.1 ⟨by rw [← HM.out.2]; exact h0, fun k hk => HG.out k (by rw [HM.out.2]; exact hk)⟩
        have hd : decide (0 < n) = true := by rw [decide_eq_true_iff]; omega
        clear hin h0
        go_wp2_with (fail)
        go_ret
        exact ⟨by rw [HT.out]; simp [hd], _, rfl⟩

end Go.Proofs.Ytapidabhdbjnmaa
