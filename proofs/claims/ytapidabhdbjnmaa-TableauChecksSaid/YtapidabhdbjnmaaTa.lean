/- Lists that came in, and how lists of the laws are held against each other. -/
import Derived.Test.YtapidabhdbjnmaaTb
import Derived.Deep.DeepCutAuto
import Derived.ProofKit
import Derived.OpenShut
import Derived.Lib.SmallJoins
namespace Go.Proofs.Ytapidabhdbjnmaa
open Go.RowKit

/-- v reads as the ints Z. -/
def ArgI (w : World) (v : Value) (Z : List Int) : Prop :=
  Z.length ≤ 9223372036854775807 ∧ ((v = .slice none 0 0 ∧ Z = []) ∨
    ∃ (a : Addr) (cap : Nat), v = .slice (some a) Z.length cap ∧ Z.length ≤ cap ∧ cap ≤ 9223372036854775807 ∧ ∀ i (h : i < Z.length), w.cell? (a.add i) = some (.int .i64 Z[i]))

theorem ArgI.form {w : World} {v : Value} {Z : List Int} (h : ArgI w v Z) : ∃ a n cap, v = .slice a n cap := by
  rcases h.2 with ⟨h, _⟩ | ⟨a, cap, h, _⟩
  · exact ⟨_, _, _, h⟩
  · exact ⟨_, _, _, h⟩

theorem ArgI.below {w w' : World} {v : Value} {Z : List Int} (h : ArgI w v Z) (hB : Below w.heap.size w w') : ArgI w' v Z := by
  refine ⟨h.1, ?_⟩
  rcases h.2 with h1 | ⟨a, cap, h1, h2, h3, h4⟩
  · exact .inl h1
  · refine .inr ⟨a, cap, h1, h2, h3, fun i hi => ?_⟩
    have hc := h4 i hi
    have hlt := World.block_lt_of_cell? w _ hc
    rw [hB.cell hlt]
    exact hc


section
open Go.ChangeShapes Go.WideShapes
set_option maxRecDepth 100000 in
theorem argI_of {H : Type} {enc : TypeId × Value → H} {W : World} {base : Nat} {v : Value} {d : DataW H} {p : List MemPlace} (hv : Value.okWide Try.prog W .any base 22 v)
    (h : DataW.Trod enc Try.prog W 0 (fun _ => true) true 22 v d p) : ∃ Z, ArgI W v Z := by
  obtain ⟨a0, len, cap, rfl⟩ := okWide_slice Try.underlying22 hv
  obtain ⟨fuel, hf⟩ := h
  rcases open_ints Try.underlying22 Try.underlying3 (by kernel_rfl) hf with ⟨hcs, hx⟩ | ⟨a, len', cap', zs, hcs, _, hl, hm, hz, hx, hcell, hwz⟩
  · simp only [Value.cells, List.cons.injEq, and_true] at hcs
    rw [hcs]
    exact ⟨[], by simp, .inl ⟨rfl, rfl⟩⟩
  · simp only [Value.cells, List.cons.injEq, and_true] at hcs
    rw [hcs]
    simp only [if_true] at hz
    unfold maxLen at hm
    have hlen : (zs.take len').length = len' := by rw [List.length_take]; omega
    refine ⟨zs.take len', by omega, .inr ⟨a, cap', by rw [hlen], by omega, by omega, fun i hi => ?_⟩⟩
    have := hcell i (by omega)
    rw [this, List.getElem_take]
    simp [List.getD, show i < zs.length by omega]
end


section
open Go.ChangeShapes Go.WideShapes Go.Joins
set_option maxRecDepth 100000 in
theorem argI_of_cell {H : Type} {enc : TypeId × Value → H} {W : World} {v : Value} {n : Nat} {y : DataW H × List MemPlace}
    (h : DataW.trod enc Try.prog W 0 (fun _ => true) true n 22 [v] = some y) : ∃ Z, ArgI W v Z := by
  rcases open_ints Try.underlying22 Try.underlying3 (by kernel_rfl) h with ⟨hcs, hx⟩ | ⟨a, len', cap', zs, hcs, _, hl, hm, hz, hx, hcell, hwz⟩
  · simp only [List.cons.injEq, and_true] at hcs
    rw [hcs]
    exact ⟨[], by simp, .inl ⟨rfl, rfl⟩⟩
  · simp only [List.cons.injEq, and_true] at hcs
    rw [hcs]
    simp only [if_true] at hz
    unfold maxLen at hm
    have hlen : (zs.take len').length = len' := by rw [List.length_take]; omega
    refine ⟨zs.take len', by omega, .inr ⟨a, cap', by rw [hlen], by omega, by omega, fun i hi => ?_⟩⟩
    have := hcell i (by omega)
    rw [this, List.getElem_take]
    simp [List.getD, show i < zs.length by omega]
end

theorem zs_one (Z : List Int) : ∀ u ∈ zs Z, u.oneCell' = true := fun u hu => by unfold zs at hu; obtain ⟨z, _, rfl⟩ := List.mem_map.1 hu; rfl

/-- A new list of ints. -/
def NewZ (w w' : World) (v : Value) (Z : List Int) : Prop := w'.ownsRow w.heap.size 3 1 v Z.length (zs Z)
theorem NewZ.rd {w w' : World} {v : Value} {Z : List Int} (h : NewZ w w' v Z) : Rd w' v 1 Z.length (zs Z) := Rd.of_own h


set_option maxRecDepth 100000 in
set_option maxHeartbeats 1000000 in
theorem own_is (Z : List Int) (v : Value) (w : World) (hv : Hid (ArgI w v Z)) :
    Calls Try.prog 21 #[v] w fun x w' => (∃ v', x = .returned v' ∧ NewZ w w' v' (Z.take 61)) ∧ Below w.heap.size w w' := by
  obtain ⟨i0, hi, hz0, hz1, hz2⟩ := info_parts Try.infoZ
  obtain ⟨hmax, hc⟩ := hv.out
  rcases hc with ⟨rfl, rfl⟩ | ⟨ad, cap, rfl, hcap, hcap2, hcell⟩
  · clear hv
    go_enter Try.func21, Try.ntmps21
    go_wp2_with (fail)
    go_ret
    exact ⟨⟨_, rfl, World.ownsRow_nil _ _ _ _⟩, Below.refl _ _⟩
  · obtain ⟨n, hn⟩ : ∃ n, n = Z.length := ⟨_, rfl⟩
    obtain ⟨m, hm⟩ : ∃ m, m = min n 61 := ⟨_, rfl⟩
    have hml : (Z.take 61).length = m := by rw [List.length_take, hm, hn]; omega
    have hm1 : min (n : Int) 61 = (m : Int) := by omega
    have hm3 : min n 61 = m := by omega
    have hm2 : (if (61 : Int) < (n : Int) then (61 : Int) else (n : Int)) = (m : Int) := by split <;> omega
    have HC : Hid (∀ j u, (zs (Z.take 61))[j]? = some u → w.cell? (ad.add j) = some u) := fun j u hu => by
      have hj : j < (Z.take 61).length := by
        rcases Nat.lt_or_ge j (Z.take 61).length with h1 | h1
        · exact h1
        · rw [List.getElem?_eq_none (by rw [zs_length]; exact h1)] at hu; cases hu
      have hjZ : j < Z.length := by rw [List.length_take] at hj; omega
      rw [hcell j hjZ, ← hu, zs_get _ _ hj, List.getElem_take]
    have H1 := Lib.hid (zs_one (Z.take 61))
    have HL : Hid ((zs (Z.take 61)).length = m * 1) := by show _ = _; rw [zs_length, hml]; omega
    have HML := Lib.hid hml
    have hmn : m ≤ 61 := by omega
    have hmc : m ≤ cap := by omega
    have hmn2 : m ≤ n := by omega
    rw [← hn] at hcap ⊢
    rw [← hn] at hmax
    by_cases h61 : n ≤ 61
    · have hd : ((61 : Int) < (n : Int)) = False := by simp; omega
      have hmm : m = n := by omega
      clear hcell hv hn hm hml hm1 hm2 hm3
      subst hmm
      have hq1 : min (m : Int) 61 = (m : Int) := by omega
      go_enter Try.func21, Try.ntmps21
      go_wp2_with (at_builtin; refine wpList_append_own _ rfl _ _ 22 rfl w.heap.size 3 i0 (.int .i64 0) 1 8 Try.underlying22 hi hz0 hz1 hz2 rfl (by decide) _ 0 [] rfl (World.ownsRow_nil _ _ _ _) ad m cap (zs (Z.take 61)) rfl HL.out HC.out H1.out (by unfold maxLen; omega) (by omega) (by simp) ?_)
      intro v' w1 hown hgrow _
      have hB1 : Below w.heap.size w w1 := (Below.refl _ _).grown hgrow (Nat.le_refl _) (by intro g hg; simp [Value.ownBlock] at hg)
      have HR : Hid (NewZ w w1 v' (Z.take 61) ∧ Below w.heap.size w w1) := ⟨by unfold NewZ; rw [HML.out]; simpa using hown, hB1⟩
      clear hown hgrow hB1
      go_wp2_with (fail)
      go_ret
      exact ⟨⟨_, rfl, HR.out.1⟩, HR.out.2⟩
    · have hd : ((61 : Int) < (n : Int)) = True := by simp; omega
      have hmm : m = 61 := by omega
      have hn61 : (61 : Int) ≤ (n : Int) := by omega
      have hc61 : 61 ≤ cap := by omega
      clear hcell hv hn hm hml hm1 hm2 hm3
      subst hmm
      have hq1 : min (n : Int) 61 = 61 := by omega
      go_enter Try.func21, Try.ntmps21
      go_wp2_with (at_builtin; refine wpList_append_own _ rfl _ _ 22 rfl w.heap.size 3 i0 (.int .i64 0) 1 8 Try.underlying22 hi hz0 hz1 hz2 rfl (by decide) _ 0 [] rfl (World.ownsRow_nil _ _ _ _) ad 61 cap (zs (Z.take 61)) rfl HL.out HC.out H1.out (by unfold maxLen; omega) (by omega) (by simp) ?_)
      intro v' w1 hown hgrow _
      have hB1 : Below w.heap.size w w1 := (Below.refl _ _).grown hgrow (Nat.le_refl _) (by intro g hg; simp [Value.ownBlock] at hg)
      have HR : Hid (NewZ w w1 v' (Z.take 61) ∧ Below w.heap.size w w1) := ⟨by unfold NewZ; rw [HML.out]; simpa using hown, hB1⟩
      clear hown hgrow hB1
      go_wp2_with (fail)
      go_ret
      exact ⟨⟨_, rfl, HR.out.1⟩, HR.out.2⟩

set_option maxRecDepth 100000 in
set_option maxHeartbeats 1000000 in
theorem ints_is (F G : List Nat) (v u : Value) (t : Bool) (w : World) (hv : Hid (Rd w v 1 F.length (nats F))) (hu : Hid (Rd w u 1 G.length (nats G))) (hl : F.length ≤ 1000000) (hl2 : G.length ≤ 1000000) (ht : Hid (F = G ↔ t = true)) :
    Calls Try.prog 16 #[v, u] w fun x w' => x = .returned (.bool t) ∧ ∃ n, w' = w.drewN n := by
  obtain ⟨_, a1, cap1, rfl, hcap1, _⟩ := hv.out
  obtain ⟨_, a2, cap2, rfl, hcap2, _⟩ := hu.out
  have H1 : Hid (∀ i, i < F.length → ∃ b, a1 = some ⟨b, 0, none⟩ ∧ b < w.heap.size ∧ w.cell? ⟨b, i, none⟩ = some (.int .i64 (F.getD i 0 : Nat))) := fun i hi => hv.out.at i hi
  have H2 : Hid (∀ i, i < G.length → ∃ b, a2 = some ⟨b, 0, none⟩ ∧ b < w.heap.size ∧ w.cell? ⟨b, i, none⟩ = some (.int .i64 (G.getD i 0 : Nat))) := fun i hi => hu.out.at i hi
  clear hv hu
  obtain ⟨m1, hm1⟩ : ∃ m1, m1 = F.length := ⟨_, rfl⟩
  obtain ⟨m2, hm2⟩ : ∃ m2, m2 = G.length := ⟨_, rfl⟩
  rw [← hm1] at hl hcap1 H1 ⊢
  rw [← hm2] at hl2 hcap2 H2 ⊢
  have HM := Lib.hid (And.intro hm1 hm2)
  clear hm1 hm2
  by_cases he : m1 = m2
  · subst he
    have hd : ((m1 : Int) != (m1 : Int)) = false := by simp
    go_enter Try.func16, Try.ntmps16
    go_wp2_with (fail)
    go_loopw [5] (fun iv wx => ∃ (k m : Nat), iv = .int .i64 k ∧ k ≤ m1 ∧ Hid (∀ i, i < k → F.getD i 0 = G.getD i 0) ∧ wx = w.drewN m) (fun iv _ => m1 - (intOf iv).toNat)
    case atStart => exact ⟨0, 0, rfl, by omega, fun i hi => absurd hi (by omega), by first | rfl | trivial | simp⟩
    case round =>
      obtain ⟨k, m, rfl, hk, HK, rfl⟩ := hrel
      by_cases hlt : k < m1
      · obtain ⟨b1, rfl, hb1, c1⟩ := H1.out k hlt
        obtain ⟨b2, rfl, hb2, c2⟩ := H2.out k hlt
        obtain ⟨x, hx⟩ : ∃ x, x = F.getD k 0 := ⟨_, rfl⟩
        obtain ⟨y, hy⟩ : ∃ y, y = G.getD k 0 := ⟨_, rfl⟩
        rw [← hx] at c1
        rw [← hy] at c2
        have HXY := Lib.hid (And.intro hx hy)
        clear hx hy
        have hkl : (k : Int) < (m1 : Int) := by omega
        by_cases hxy : x = y
        · have hd2 : ((x : Int) != (y : Int)) = false := by rw [hxy]; simp
          have HK2 : Hid (∀ i, i < k + 1 → F.getD i 0 = G.getD i 0) := fun i hi => by
            rcases Nat.lt_or_ge i k with h | h
            · exact HK.out i h
            · obtain rfl : i = k := by omega
              rw [← HXY.out.1, ← HXY.out.2, hxy]
          have HE := Lib.hid hxy
          clear hxy
          go_wp2_with (fail)
          go_quiet (fail)
          go_wp2_with (fail)
          go_roundw
          case rel => exact ⟨k + 1, _, by go_num, by omega, HK2, rfl⟩
          case measure => simp [intOf]; omega
        · have hd2 : ((x : Int) != (y : Int)) = true := by rw [bne_iff_ne]; omega
          have htf : Hid (t = false) := by
            cases t with
            | false => rfl
            | true => exact absurd (ht.out.2 rfl) fun e => hxy (by rw [HXY.out.1, HXY.out.2, e])
          clear hxy
          go_wp2_with (fail)
          go_quiet (fail)
          go_wp2_with (fail)
          go_ret
          exact ⟨by rw [htf.out]; rfl, _, by first | rfl | exact World.drewN_drewN _ _ _⟩
      · obtain rfl : k = m1 := by omega
        have htt : Hid (t = true) := ht.out.1 (Q.ext_getD (by rw [← HM.out.1, ← HM.out.2]) fun i hi => HK.out i (by rw [HM.out.1]; exact hi))
        go_wp2_with (fail)
        go_ret
        exact ⟨by rw [htt.out]; rfl, _, rfl⟩
  · have hd : ((m1 : Int) != (m2 : Int)) = true := by rw [bne_iff_ne]; omega
    have htf : Hid (t = false) := by
      cases t with
      | false => rfl
      | true => exact absurd (ht.out.2 rfl) fun e => he (by rw [HM.out.1, HM.out.2, e])
    clear he
    go_enter Try.func16, Try.ntmps16
    go_wp2_with (fail)
    go_ret
    exact ⟨by rw [htf.out]; rfl, 0, rfl⟩

set_option maxHeartbeats 1000000 in

/-- A list of lists is read row by row. -/
theorem RdN.rowAt {w : World} {a : Option Addr} {n cap : Nat} {Ms : List (List Nat)} (h : RdN w (.slice a n cap) Ms) (i : Nat) (hi : i < Ms.length) : ∃ b x c, a = some ⟨b, 0, none⟩ ∧ b < w.heap.size ∧ w.cell? ⟨b, i, none⟩ = some (.slice x (Ms.getD i []).length c) ∧ Rd w (.slice x (Ms.getD i []).length c) 1 (Ms.getD i []).length (nats (Ms.getD i [])) := by
  obtain ⟨b, cap', x, c, hf⟩ := h.at i hi
  have e := hf.eq
  injection e with e _ _
  exact ⟨b, x, c, e, hf.lt, hf.cell, hf.rd⟩
theorem RdN.len {w : World} {a : Option Addr} {n cap : Nat} {Ms : List (List Nat)} (h : RdN w (.slice a n cap) Ms) : n = Ms.length ∧ n ≤ cap := by
  obtain ⟨vs, ⟨_, a', cap', e, hc, _⟩, _⟩ := h
  injection e with _ e1 e2
  subst e1 e2
  exact ⟨rfl, hc⟩

set_option maxRecDepth 100000 in
set_option maxHeartbeats 2000000 in
theorem same_is (F G : List (List Nat)) (v u : Value) (t : Bool) (w : World) (hv : Hid (RdN w v F)) (hu : Hid (RdN w u G)) (hl : F.length ≤ 1000000) (hl2 : G.length ≤ 1000000) (hf : Hid (∀ X ∈ F, X.length ≤ 1000000)) (hg : Hid (∀ X ∈ G, X.length ≤ 1000000)) (ht : Hid (F = G ↔ t = true)) :
    Calls Try.prog 10 #[v, u] w fun x w' => x = .returned (.bool t) ∧ ∃ n, w' = w.drewN n := by
  obtain ⟨a1, cap1, hv1⟩ : ∃ a c, v = .slice a F.length c := by obtain ⟨vs, h, _⟩ := hv.out; exact h.shape
  obtain ⟨a2, cap2, hu1⟩ : ∃ a c, u = .slice a G.length c := by obtain ⟨vs, h, _⟩ := hu.out; exact h.shape
  subst hv1 hu1
  have hc1 := hv.out.len.2
  have hc2 := hu.out.len.2
  obtain ⟨m1, hm1⟩ : ∃ m1, m1 = F.length := ⟨_, rfl⟩
  obtain ⟨m2, hm2⟩ : ∃ m2, m2 = G.length := ⟨_, rfl⟩
  have HV : Hid (RdN w (.slice a1 m1 cap1) F) := by show RdN _ _ _; rw [hm1]; exact hv.out
  have HU : Hid (RdN w (.slice a2 m2 cap2) G) := by show RdN _ _ _; rw [hm2]; exact hu.out
  rw [← hm1] at hl hc1 ⊢
  rw [← hm2] at hl2 hc2 ⊢
  have HM := Lib.hid (And.intro hm1 hm2)
  clear hm1 hm2 hv hu
  by_cases he : m1 = m2
  · subst he
    have hd : ((m1 : Int) != (m1 : Int)) = false := by simp
    go_enter Try.func10, Try.ntmps10
    go_wp2_with (fail)
    go_loopw [5] (fun iv wx => ∃ (k m : Nat), iv = .int .i64 k ∧ k ≤ m1 ∧ Hid (∀ i, i < k → F.getD i [] = G.getD i []) ∧ wx = w.drewN m) (fun iv _ => m1 - (intOf iv).toNat)
    case atStart => exact ⟨0, 0, rfl, by omega, fun i hi => absurd hi (by omega), by first | rfl | trivial | simp⟩
    case round =>
      obtain ⟨k, m, rfl, hk, HK, rfl⟩ := hrel
      by_cases hlt : k < m1
      · have hB : Below w.heap.size w (w.drewN m) := below_drewN (Below.refl _ _) m
        obtain ⟨b1, x1, y1, e1, hb1, c1, r1⟩ := (HV.out.below hB).rowAt k (by rw [← HM.out.1]; exact hlt)
        obtain ⟨b2, x2, y2, e2, hb2, c2, r2⟩ := (HU.out.below hB).rowAt k (by rw [← HM.out.2]; exact hlt)
        subst e1 e2
        obtain ⟨X, hX⟩ : ∃ X, X = F.getD k [] := ⟨_, rfl⟩
        obtain ⟨Y, hY⟩ : ∃ Y, Y = G.getD k [] := ⟨_, rfl⟩
        rw [← hX] at c1 r1
        rw [← hY] at c2 r2
        have hXl : X.length ≤ 1000000 := by
          have h1 : k < F.length := by rw [← HM.out.1]; exact hlt
          rw [hX]; exact hf.out _ (by simp [List.getD, h1])
        have hYl : Y.length ≤ 1000000 := by
          have h1 : k < G.length := by rw [← HM.out.2]; exact hlt
          rw [hY]; exact hg.out _ (by simp [List.getD, h1])
        have HXY := Lib.hid (And.intro hX hY)
        have R1 : ∀ W, Below (w.drewN m).heap.size (w.drewN m) W → Hid (Rd W (.slice x1 X.length y1) 1 X.length (nats X)) := fun W hW => r1.below hW (Nat.le_refl _)
        have R2 : ∀ W, Below (w.drewN m).heap.size (w.drewN m) W → Hid (Rd W (.slice x2 Y.length y2) 1 Y.length (nats Y)) := fun W hW => r2.below hW (Nat.le_refl _)
        clear hX hY r1 r2 hB
        have hkl : (k : Int) < (m1 : Int) := by omega
        have c1 : w.cell? ⟨b1, k, none⟩ = some (.slice x1 X.length y1) := by simpa using c1
        have c2 : w.cell? ⟨b2, k, none⟩ = some (.slice x2 Y.length y2) := by simpa using c2
        by_cases hxy : X = Y
        · have HE := Lib.hid hxy
          have HK2 : Hid (∀ i, i < k + 1 → F.getD i [] = G.getD i []) := fun i hi => by
            rcases Nat.lt_or_ge i k with h | h
            · exact HK.out i h
            · obtain rfl : i = k := by omega
              rw [← HXY.out.1, ← HXY.out.2, hxy]
          clear hxy
          go_wp2_with (fail)
          go_region_held3 (fun w' => w'.cell? ⟨b1, k, none⟩ = some (.slice x1 X.length y1) ∧ w'.cell? ⟨b2, k, none⟩ = some (.slice x2 Y.length y2)) (go_keep)
            ((go_at_call 16; refine (ints_is X Y _ _ true _ (R1 _ (by first | exact (Below.refl _ _).drew | exact below_drewN (Below.refl _ _) _ | exact Below.refl _ _)) (R2 _ (by first | exact (Below.refl _ _).drew | exact below_drewN (Below.refl _ _) _ | exact Below.refl _ _)) hXl hYl ⟨fun _ => rfl, fun _ => HE.out⟩).mono ?_; rintro z w3 ⟨rfl, nn, rfl⟩))
          go_wp2_with (fail)
          go_roundw
          case rel => exact ⟨k + 1, _, by go_num, by omega, HK2, by first | rfl | (simp only [World.drewN_drewN]; rfl)⟩
          case measure => simp [intOf]; omega
        · have HE := Lib.hid hxy
          have htf : Hid (t = false) := by
            cases t with
            | false => rfl
            | true => exact absurd (ht.out.2 rfl) fun e => hxy (by rw [HXY.out.1, HXY.out.2, e])
          clear hxy
          go_wp2_with (fail)
          go_region_held3 (fun w' => w'.cell? ⟨b1, k, none⟩ = some (.slice x1 X.length y1) ∧ w'.cell? ⟨b2, k, none⟩ = some (.slice x2 Y.length y2)) (go_keep)
            ((go_at_call 16; refine (ints_is X Y _ _ false _ (R1 _ (by first | exact (Below.refl _ _).drew | exact below_drewN (Below.refl _ _) _ | exact Below.refl _ _)) (R2 _ (by first | exact (Below.refl _ _).drew | exact below_drewN (Below.refl _ _) _ | exact Below.refl _ _)) hXl hYl ⟨fun h => absurd h HE.out, fun h => by cases h⟩).mono ?_; rintro z w3 ⟨rfl, nn, rfl⟩))
          go_wp2_with (fail)
          go_ret
          exact ⟨by rw [htf.out]; rfl, _, by first | rfl | exact World.drewN_drewN _ _ _ | (simp only [World.drewN_drewN]; rfl)⟩
      · obtain rfl : k = m1 := by omega
        have htt : Hid (t = true) := ht.out.1 (by
          refine List.ext_getElem (by rw [← HM.out.1, ← HM.out.2]) fun i h1 h2 => ?_
          have h3 := HK.out i (by rw [HM.out.1]; exact h1)
          simpa [List.getD, h1, h2] using h3)
        go_wp2_with (fail)
        go_ret
        exact ⟨by rw [htt.out]; rfl, _, rfl⟩
  · have hd : ((m1 : Int) != (m2 : Int)) = true := by rw [bne_iff_ne]; omega
    have htf : Hid (t = false) := by
      cases t with
      | false => rfl
      | true => exact absurd (ht.out.2 rfl) fun e => he (by rw [HM.out.1, HM.out.2, e])
    clear he
    go_enter Try.func10, Try.ntmps10
    go_wp2_with (fail)
    go_ret
    exact ⟨by rw [htf.out]; rfl, 0, rfl⟩

end Go.Proofs.Ytapidabhdbjnmaa
