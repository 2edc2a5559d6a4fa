/- The walks over the program's covered. -/
import Derived.Test.YtapidabhdbjnmaaKc
namespace Go.Proofs.Ytapidabhdbjnmaa
open Go.RowKit

theorem coveredU_f (x y : Int) (t : Bool) (w : World) (h : decide (x ≤ y) = t) : Calls Try.prog 61 #[.int .i64 x, .int .i64 y] w fun e w' => e = .returned (.bool t) ∧ w' = w := by
  go_enter Try.func61, Try.ntmps61
  go_wp2_with (fail)
  go_ret
  exact ⟨by rw [← h]; first | rfl | simp, rfl⟩

theorem coveredD_f (x y : Int) (t : Bool) (w : World) (h : decide (y < x) = t) : Calls Try.prog 62 #[.int .i64 x, .int .i64 y] w fun e w' => e = .returned (.bool t) ∧ w' = w := by
  go_enter Try.func62, Try.ntmps62
  go_wp2_with (fail)
  go_ret
  exact ⟨by rw [← h]; first | rfl | simp, rfl⟩

set_option maxRecDepth 100000 in
set_option maxHeartbeats 4000000 in
theorem coveredU (W : List Int) (L : List (List Int)) (vw vl : Value) (rv : Value) (w : World) (hw : Hid (Rd w vw 1 W.length (zs W))) (hL : Hid (RdZ w vl L)) (hl : W.length ≤ 60) (hl2 : L.length ≤ 61) (hl3 : Hid (∀ Z ∈ L, Z.length ≤ 61))
    (hv : Hid ((∀ U, C.cov W true (List.replicate W.length false) L U → rv = .tuple #[.int .i64 (C.sumL L : Nat), .bool true]) ∧ ((¬ ∃ U, C.cov W true (List.replicate W.length false) L U) → rv = .tuple #[.int .i64 0, .bool false]))) :
    Calls Try.prog 60 #[vw, vl, .func (.func 61) #[] #[]] w fun e w' => e = .returned rv ∧ Below w.heap.size w w' := by
  obtain ⟨aw, cw, hvw⟩ := hw.out.shape
  obtain ⟨al, cl, hvl⟩ := hL.out.shape'
  subst hvw hvl
  obtain ⟨m, hm⟩ : ∃ m, m = W.length := ⟨_, rfl⟩
  obtain ⟨n, hn⟩ : ∃ n, n = L.length := ⟨_, rfl⟩
  have HM := Lib.hid (And.intro hm hn)
  have HW : Hid (Rd w (.slice aw m cw) 1 W.length (zs W)) := by show Rd _ _ _ _ _; rw [hm]; exact hw.out
  have HL : Hid (RdZ w (.slice al n cl) L) := by show RdZ _ _ _; rw [hn]; exact hL.out
  rw [← hm] at hl hv ⊢
  rw [← hn] at hl2 ⊢
  obtain ⟨iB, hiB, hzb0, hzb1, hzb2⟩ := info_parts Try.infoBo
  have hno : (¬ ∃ U, C.cov W true (List.replicate m false) L U) → rv = .tuple #[.int .i64 0, .bool false] := hv.out.2
  have HNO := Lib.hid hno
  clear hw hL hm hn hno
  go_enter Try.func60, Try.ntmps60
  go_wp2_with (at_make; refine wpList_make_full _ rfl _ _ 53 rfl w.heap.size 4 iB (.bool false) 1 Try.underlying53 hiB hzb0 hzb1 .i64 .i64 _ _ m rfl rfl rfl rfl (by rw [hzb2]; omega) (by unfold maxLen; omega) (Nat.le_refl _) ?_)
  intro w1 hown1 hgrow1
  obtain ⟨g, hg⟩ : ∃ g, g = w.heap.size := ⟨_, rfl⟩
  have HS1 : Hid (BSt w w1 g m (List.replicate m false)) := by
    refine ⟨?_, below_of_grown hgrow1⟩
    rw [hg]
    have e : (madeCells #[Value.bool false] m).toList = blsL (List.replicate m false) := by simp [toList_madeCells_one, blsL]
    rw [e] at hown1
    exact hown1
  have HC0 : Hid (C.cov W true (List.replicate m false) (L.take 0) (List.replicate m false)) := rfl
  rw [← hg]
  clear hown1 hgrow1 hg
  go_wp2_with (fail)
  go_loopw [9, 20] (fun cv iv wx => ∃ (i c : Nat) (U : List Bool), cv = .int .i64 c ∧ iv = .int .i64 i ∧ i ≤ n ∧ c ≤ i * 61 ∧ Hid (BSt w wx g m U) ∧ Hid (C.cov W true (List.replicate m false) (L.take i) U) ∧ Hid (c = C.sumL (L.take i))) (fun _ iv _ => n - (intOf iv).toNat)
  case atStart => exact ⟨0, 0, _, rfl, rfl, by omega, by omega, HS1, HC0, rfl⟩
  case round =>
    obtain ⟨i, c, U, rfl, rfl, hin0, hc, HS, HC, HK⟩ := hrel
    by_cases hin : i < n
    · have hin1 : (i : Int) < (n : Int) := by omega
      have hiL : i < L.length := by rw [← HM.out.2]; exact hin
      obtain ⟨bl, xl, yl, el, hbl, cl1, cl2, rl⟩ := HL.out.rowAt i hiL
      subst el
      obtain ⟨Z, hZ⟩ : ∃ Z, Z = L.getD i [] := ⟨_, rfl⟩
      have hZl := hl3.out Z (by rw [hZ]; simp [List.getD, hiL])
      rw [← hZ] at cl1 cl2 rl
      have cz0 : wr.cell? ⟨bl, i, none⟩ = some (.slice xl Z.length yl) := (HS.out.below.cell (p := ⟨bl, i, none⟩) hbl).trans cl1
      have HRZ : Hid (∀ W', Below w.heap.size w W' → Rd W' (.slice xl Z.length yl) 1 Z.length (zs Z)) := fun W' h => rl.below h (Nat.le_refl _)
      have hat : ∀ U', C.cov W true (List.replicate m false) L U' → C.chain W true Z ∧ ∃ u2, C.mk U Z = some u2 := fun U' h => by
        obtain ⟨u1, u2, h1, h2, h3⟩ := C.cov_at L _ _ h i hiL
        rw [← hZ] at h2 h3
        rw [C.cov_only _ _ _ _ h1 HC.out] at h3
        exact ⟨h2, u2, h3⟩
      have HAT := Lib.hid hat
      have HTK : Hid (L.take (i + 1) = L.take i ++ [Z]) := by show _ = _; rw [List.take_succ_eq_append_getElem hiL, hZ]; simp [List.getD, hiL]
      obtain ⟨l, hl'⟩ : ∃ l, l = Z.length := ⟨_, rfl⟩
      have HLZ := Lib.hid hl'
      rw [← hl'] at cz0 hZl
      clear hat hZ rl hbl cl1 hl' hiL
      by_cases hl0 : l = 0
      · have HT := Lib.hid (HNO.out fun ⟨U2, h⟩ => (HAT.out U2 h).1.1 (by rw [← HLZ.out]; exact hl0))
        have hd : ((l : Int) == 0) = true := by simp [hl0]
        have HBF : Hid (Below w.heap.size w wr) := HS.out.below
        have HL0 := Lib.hid hl0
        clear hl0
        go_wp2_with (fail)
        go_ret2
        exact ⟨by rw [HT.out]; rfl, HBF.out⟩
      · have hd : ((l : Int) == 0) = false := by rw [beq_eq_false_iff_ne]; omega
        have HL0 := Lib.hid hl0
        have HM0 : Hid (C.mk U (Z.take 0) = some U) := rfl
        have HSW : Hid (BSt w wr g m U) := HS
        clear hl0
        go_wp2_with (fail)
        go_loopw [9, 12, 29] (fun cv lv kv wx => ∃ (k : Nat) (U' : List Bool) (lst : Int), cv = .int .i64 ((c + k : Nat) : Int) ∧ lv = .int .i64 lst ∧ kv = .int .i64 k ∧ k ≤ l ∧ Hid (BSt w wx g m U') ∧ Hid (C.mk U (Z.take k) = some U') ∧ Hid (∀ j, j < k → C.good W true Z j) ∧ Hid ((k = 0 → lst = -1) ∧ (0 < k → lst = Z.getD (k - 1) 0))) (fun _ _ kv _ => l - (intOf kv).toNat)
        case atStart => exact ⟨0, U, -1, rfl, rfl, rfl, by omega, HSW, HM0, fun j hj => by omega, fun _ => rfl, fun h => by omega⟩
        case round =>
          obtain ⟨k, U', lst, rfl, rfl, rfl, hkl, HS', HMK, HGD, HLS⟩ := hrel
          by_cases hkn : k < l
          · have hkn1 : (k : Int) < (l : Int) := by omega
            have hkZ : k < Z.length := by rw [← HLZ.out]; exact hkn
            obtain ⟨bz, ez, _, cz2⟩ := zatb (HRZ.out wr HS'.out.below) k hkZ
            subst ez
            obtain ⟨x, hx⟩ : ∃ x, x = Z.getD k 0 := ⟨_, rfl⟩
            rw [← hx] at cz2
            have hbad : ¬ C.good W true Z k → rv = .tuple #[.int .i64 0, .bool false] := fun h => HNO.out fun ⟨U2, h2⟩ => h ((HAT.out U2 h2).1.2 k hkZ)
            have hls1 : -1 ≤ lst := by
              by_cases e : k = 0
              · have := HLS.out.1 e; omega
              · have := HLS.out.2 (by omega); have := (HGD.out (k - 1) (by omega)).1; omega
            have hgx : C.good W true Z k → lst < x ∧ x < (m : Int) := fun h => by
              have h2 := h.2.1
              rw [← hx] at h2
              refine ⟨?_, by have := HM.out.1; omega⟩
              by_cases e : k = 0
              · have := HLS.out.1 e; have := h.1; rw [← hx] at this; omega
              · have := HLS.out.2 (by omega); have := (h.2.2 (by omega)).1; rw [← hx] at this; omega
            by_cases hxl : x ≤ lst
            · have HT := Lib.hid (hbad fun h => by have := hgx h; omega)
              have hd1 : decide (x ≤ lst) = true := by simpa using hxl
              have HBF : Hid (∀ q, Below w.heap.size w (wr.drewN q)) := fun q => below_drewN HS'.out.below q
              clear hx hbad hgx hxl hls1
              go_wp2_with (fail)
              go_quiet (fail)
              go_wp2_with (fail)
              go_ret2
              exact ⟨by rw [HT.out]; rfl, HBF.out _⟩
            · obtain ⟨xn, hxn⟩ := Int.eq_ofNat_of_zero_le (show 0 ≤ x by omega)
              subst hxn
              have hd1 : decide ((xn : Int) ≤ lst) = false := by simpa using hxl
              by_cases hxm : m ≤ xn
              · have HT := Lib.hid (hbad fun h => by have := hgx h; omega)
                have hd2 : decide (m ≤ xn) = true := by simpa using hxm
                have HBF : Hid (∀ q, Below w.heap.size w (wr.drewN q)) := fun q => below_drewN HS'.out.below q
                clear hx hbad hgx hxl hls1 hxm
                go_wp2_with (fail)
                go_quiet (fail)
                go_wp2_with (fail)
                go_ret2
                exact ⟨by rw [HT.out]; rfl, HBF.out _⟩
              · have hd2 : decide (m ≤ xn) = false := by simpa using hxm
                have hxm1 : (xn : Int) < (m : Int) := by omega
                obtain ⟨s, hs⟩ : ∃ s, s = U'.getD xn false := ⟨_, rfl⟩
                have cs : wr.cell? ⟨g, xn, none⟩ = some (.bool s) := by rw [hs]; exact HS'.out.cell (by omega)
                have hsn : C.mk U (Z.take (k + 1)) = if s = true then none else some (U'.set xn true) := by
                  rw [List.take_succ_eq_append_getElem hkZ, C.mk_snoc, HMK.out]
                  have e : Z[k].toNat = xn := by
                    have : Z.getD k 0 = Z[k] := by simp [List.getD, hkZ]
                    rw [← this, ← hx]; rfl
                  simp only [e, ← hs]
                cases s with
                | true =>
                  have HT := Lib.hid (HNO.out fun ⟨U2, h⟩ => by
                    obtain ⟨_, u2, h3⟩ := HAT.out U2 h
                    obtain ⟨u3, h4⟩ := C.mk_take h3 (k + 1) (by omega)
                    rw [hsn] at h4; cases h4)
                  have HBF : Hid (∀ q, Below w.heap.size w (wr.drewN q)) := fun q => below_drewN HS'.out.below q
                  clear hx hbad hgx hxl hls1 hxm hs hsn
                  go_wp2_with (fail)
                  go_quiet (fail)
                  go_wp2_with (fail)
                  go_ret2
                  exact ⟨by rw [HT.out]; rfl, HBF.out _⟩
                | false =>
                  have HMN : Hid (C.mk U (Z.take (k + 1)) = some (U'.set xn true)) := by show _ = _; rw [hsn]; rfl
                  have HSN : Hid (∀ q, BSt w ((wr.drewN q).setCell ⟨g, xn, none⟩ (.bool true)) g m (U'.set xn true)) := fun q => (HS'.out.low (below_drewN (Below.refl _ _) q)).set xn true
                  have HLN : Hid ((k + 1 = 0 → (xn : Int) = -1) ∧ (0 < k + 1 → (xn : Int) = Z.getD (k + 1 - 1) 0)) := ⟨fun h => by omega, fun _ => by rw [Nat.add_sub_cancel]; exact hx⟩
                  have cf := HS'.out.free xn
                  have hc2 : (c + k : Nat) ≤ 100000 := by omega
                  by_cases hk0 : k = 0
                  · have hls : lst = -1 := HLS.out.1 hk0
                    have HGN : Hid (∀ j, j < k + 1 → C.good W true Z j) := fun j hj => by
                      have : j = k := by omega
                      subst this
                      exact ⟨by rw [← hx]; omega, by rw [← hx]; have := HM.out.1; omega, fun h => by omega⟩
                    have hd3 : decide (0 ≤ lst) = false := by rw [hls]; rfl
                    have HLE := Lib.hid (And.intro hls hk0)
                    clear hx hbad hgx hxl hls1 hxm hs hsn hk0 hls
                    go_wp2_with (fail)
                    go_quiet (fail)
                    go_wp2_with (fail)
                    go_roundw
                    case rel => exact ⟨k + 1, _, xn, by first | rfl | go_num | (congr 1; omega), rfl, by first | rfl | go_num, by omega, HSN.out _, HMN, HGN, HLN⟩
                    case measure => simp [intOf]; omega
                  · have hlsv := HLS.out.2 (by omega)
                    have hgk1 := HGD.out (k - 1) (by omega)
                    obtain ⟨yn, hyn⟩ := Int.eq_ofNat_of_zero_le (show 0 ≤ lst by rw [hlsv]; exact hgk1.1)
                    have hyW : yn < W.length := by have := hgk1.2.1; rw [← hlsv, hyn] at this; omega
                    have hxW : xn < W.length := by have := HM.out.1; omega
                    obtain ⟨bw, ew, _, cwx⟩ := zatb (HW.out.below HS'.out.below (Nat.le_refl _)) xn hxW
                    subst ew
                    obtain ⟨bw2, ew, _, cwy⟩ := zatb (HW.out.below HS'.out.below (Nat.le_refl _)) yn hyW
                    injection ew with ew
                    injection ew with ew
                    subst ew
                    obtain ⟨p, hp⟩ : ∃ p, p = W.getD xn 0 := ⟨_, rfl⟩
                    obtain ⟨r, hr⟩ : ∃ r, r = W.getD yn 0 := ⟨_, rfl⟩
                    rw [← hp] at cwx
                    rw [← hr] at cwy
                    have hgi : C.good W true Z k ↔ C.rel true r p := by
                      unfold C.good
                      rw [← hx, ← hlsv, hyn, hp, hr]
                      have := HM.out.1
                      exact ⟨fun h => (h.2.2 (by omega)).2, fun h => ⟨by omega, by omega, fun _ => ⟨by omega, h⟩⟩⟩
                    have hym1 : (yn : Int) < (m : Int) := by have := HM.out.1; omega
                    subst hyn
                    have hd1n : decide (xn ≤ yn) = false := by rw [decide_eq_false_iff_not]; omega
                    by_cases hpr : r ≤ p
                    · have HGN : Hid (∀ j, j < k + 1 → C.good W true Z j) := fun j hj => by
                        by_cases hjk : j < k
                        · exact HGD.out j hjk
                        · obtain rfl : j = k := by omega
                          exact hgi.2 (by unfold C.rel; simpa using hpr)
                      have HPR := Lib.hid hpr
                      clear hx hbad hgx hxl hls1 hxm hs hsn hk0 hlsv hgk1 hyW hxW hp hr hgi hpr
                      go_wp2_with (fail)
                      go_quiet ((go_at_call 61; refine Calls.mono (coveredU_f r p true _ (by simpa using HPR.out)) (fun e w' h9 => ⟨h9.1, by rw [h9.2]; first | exact ⟨_, rfl⟩ | exact ⟨0, rfl⟩⟩)))
                      go_wp2_with (fail)
                      go_roundw
                      case rel => exact ⟨k + 1, _, xn, by first | rfl | go_num | (congr 1; omega), rfl, by first | rfl | go_num, by omega, HSN.out _, HMN, HGN, HLN⟩
                      case measure => simp [intOf]; omega
                    · have HT := Lib.hid (hbad fun h => hpr (by have := hgi.1 h; unfold C.rel at this; simpa using this))
                      have HBF : Hid (∀ q, Below w.heap.size w (wr.drewN q)) := fun q => below_drewN HS'.out.below q
                      have HPR := Lib.hid hpr
                      clear hx hbad hgx hxl hls1 hxm hs hsn hk0 hlsv hgk1 hyW hxW hp hr hgi hpr
                      go_wp2_with (fail)
                      go_quiet ((go_at_call 61; refine Calls.mono (coveredU_f r p false _ (by simpa using HPR.out)) (fun e w' h9 => ⟨h9.1, by rw [h9.2]; first | exact ⟨_, rfl⟩ | exact ⟨0, rfl⟩⟩)))
                      go_wp2_with (fail)
                      go_ret2
                      exact ⟨by rw [HT.out]; rfl, HBF.out _⟩
          · obtain rfl : k = l := by omega
            have HMF : Hid (C.mk U Z = some U') := by
              have h9 := HMK.out
              rw [List.take_of_length_le (by rw [HLZ.out]; exact Nat.le_refl _)] at h9
              exact h9
            have HCN : Hid (C.cov W true (List.replicate m false) (L.take (i + 1)) U') := by
              show C.cov _ _ _ _ _
              rw [HTK.out]; exact C.cov_snoc _ _ _ _ _ HC.out ⟨by rw [← HLZ.out]; exact HL0.out, fun j hj => HGD.out j (by rw [HLZ.out]; exact hj)⟩ HMF.out
            have HKN : Hid (c + k = C.sumL (L.take (i + 1))) := by show _ = _; rw [HTK.out, C.sumL_snoc, ← HK.out, ← HLZ.out]
            clear hkn
            go_wp2_with (fail)
            go_roundw
            case rel => exact ⟨i + 1, c + k, U', by first | rfl | go_num, by first | rfl | go_num, by omega, by omega, HS', HCN, HKN⟩
            case measure => simp [intOf]; omega
    · obtain rfl : n = i := by omega
      have hLt : L.take n = L := List.take_of_length_le (by rw [HM.out.2]; exact Nat.le_refl _)
      have HE : Hid (rv = .tuple #[.int .i64 (c : Nat), .bool true]) := by
        have h9 := HC.out
        have h8 := HK.out
        rw [hLt] at h9 h8
        rw [h8]; exact hv.out.1 U h9
      have HBF : Hid (Below w.heap.size w wr) := HS.out.below
      clear hin hLt
      go_wp2_with (fail)
      go_ret2
      exact ⟨by rw [HE.out]; rfl, HBF.out⟩

set_option maxRecDepth 100000 in
set_option maxHeartbeats 4000000 in
theorem coveredD (W : List Int) (L : List (List Int)) (vw vl : Value) (rv : Value) (w : World) (hw : Hid (Rd w vw 1 W.length (zs W))) (hL : Hid (RdZ w vl L)) (hl : W.length ≤ 60) (hl2 : L.length ≤ 61) (hl3 : Hid (∀ Z ∈ L, Z.length ≤ 61))
    (hv : Hid ((∀ U, C.cov W false (List.replicate W.length false) L U → rv = .tuple #[.int .i64 (C.sumL L : Nat), .bool true]) ∧ ((¬ ∃ U, C.cov W false (List.replicate W.length false) L U) → rv = .tuple #[.int .i64 0, .bool false]))) :
    Calls Try.prog 60 #[vw, vl, .func (.func 62) #[] #[]] w fun e w' => e = .returned rv ∧ Below w.heap.size w w' := by
  obtain ⟨aw, cw, hvw⟩ := hw.out.shape
  obtain ⟨al, cl, hvl⟩ := hL.out.shape'
  subst hvw hvl
  obtain ⟨m, hm⟩ : ∃ m, m = W.length := ⟨_, rfl⟩
  obtain ⟨n, hn⟩ : ∃ n, n = L.length := ⟨_, rfl⟩
  have HM := Lib.hid (And.intro hm hn)
  have HW : Hid (Rd w (.slice aw m cw) 1 W.length (zs W)) := by show Rd _ _ _ _ _; rw [hm]; exact hw.out
  have HL : Hid (RdZ w (.slice al n cl) L) := by show RdZ _ _ _; rw [hn]; exact hL.out
  rw [← hm] at hl hv ⊢
  rw [← hn] at hl2 ⊢
  obtain ⟨iB, hiB, hzb0, hzb1, hzb2⟩ := info_parts Try.infoBo
  have hno : (¬ ∃ U, C.cov W false (List.replicate m false) L U) → rv = .tuple #[.int .i64 0, .bool false] := hv.out.2
  have HNO := Lib.hid hno
  clear hw hL hm hn hno
  go_enter Try.func60, Try.ntmps60
  go_wp2_with (at_make; refine wpList_make_full _ rfl _ _ 53 rfl w.heap.size 4 iB (.bool false) 1 Try.underlying53 hiB hzb0 hzb1 .i64 .i64 _ _ m rfl rfl rfl rfl (by rw [hzb2]; omega) (by unfold maxLen; omega) (Nat.le_refl _) ?_)
  intro w1 hown1 hgrow1
  obtain ⟨g, hg⟩ : ∃ g, g = w.heap.size := ⟨_, rfl⟩
  have HS1 : Hid (BSt w w1 g m (List.replicate m false)) := by
    refine ⟨?_, below_of_grown hgrow1⟩
    rw [hg]
    have e : (madeCells #[Value.bool false] m).toList = blsL (List.replicate m false) := by simp [toList_madeCells_one, blsL]
    rw [e] at hown1
    exact hown1
  have HC0 : Hid (C.cov W false (List.replicate m false) (L.take 0) (List.replicate m false)) := rfl
  rw [← hg]
  clear hown1 hgrow1 hg
  go_wp2_with (fail)
  go_loopw [9, 20] (fun cv iv wx => ∃ (i c : Nat) (U : List Bool), cv = .int .i64 c ∧ iv = .int .i64 i ∧ i ≤ n ∧ c ≤ i * 61 ∧ Hid (BSt w wx g m U) ∧ Hid (C.cov W false (List.replicate m false) (L.take i) U) ∧ Hid (c = C.sumL (L.take i))) (fun _ iv _ => n - (intOf iv).toNat)
  case atStart => exact ⟨0, 0, _, rfl, rfl, by omega, by omega, HS1, HC0, rfl⟩
  case round =>
    obtain ⟨i, c, U, rfl, rfl, hin0, hc, HS, HC, HK⟩ := hrel
    by_cases hin : i < n
    · have hin1 : (i : Int) < (n : Int) := by omega
      have hiL : i < L.length := by rw [← HM.out.2]; exact hin
      obtain ⟨bl, xl, yl, el, hbl, cl1, cl2, rl⟩ := HL.out.rowAt i hiL
      subst el
      obtain ⟨Z, hZ⟩ : ∃ Z, Z = L.getD i [] := ⟨_, rfl⟩
      have hZl := hl3.out Z (by rw [hZ]; simp [List.getD, hiL])
      rw [← hZ] at cl1 cl2 rl
      have cz0 : wr.cell? ⟨bl, i, none⟩ = some (.slice xl Z.length yl) := (HS.out.below.cell (p := ⟨bl, i, none⟩) hbl).trans cl1
      have HRZ : Hid (∀ W', Below w.heap.size w W' → Rd W' (.slice xl Z.length yl) 1 Z.length (zs Z)) := fun W' h => rl.below h (Nat.le_refl _)
      have hat : ∀ U', C.cov W false (List.replicate m false) L U' → C.chain W false Z ∧ ∃ u2, C.mk U Z = some u2 := fun U' h => by
        obtain ⟨u1, u2, h1, h2, h3⟩ := C.cov_at L _ _ h i hiL
        rw [← hZ] at h2 h3
        rw [C.cov_only _ _ _ _ h1 HC.out] at h3
        exact ⟨h2, u2, h3⟩
      have HAT := Lib.hid hat
      have HTK : Hid (L.take (i + 1) = L.take i ++ [Z]) := by show _ = _; rw [List.take_succ_eq_append_getElem hiL, hZ]; simp [List.getD, hiL]
      obtain ⟨l, hl'⟩ : ∃ l, l = Z.length := ⟨_, rfl⟩
      have HLZ := Lib.hid hl'
      rw [← hl'] at cz0 hZl
      clear hat hZ rl hbl cl1 hl' hiL
      by_cases hl0 : l = 0
      · have HT := Lib.hid (HNO.out fun ⟨U2, h⟩ => (HAT.out U2 h).1.1 (by rw [← HLZ.out]; exact hl0))
        have hd : ((l : Int) == 0) = true := by simp [hl0]
        have HBF : Hid (Below w.heap.size w wr) := HS.out.below
        have HL0 := Lib.hid hl0
        clear hl0
        go_wp2_with (fail)
        go_ret2
        exact ⟨by rw [HT.out]; rfl, HBF.out⟩
      · have hd : ((l : Int) == 0) = false := by rw [beq_eq_false_iff_ne]; omega
        have HL0 := Lib.hid hl0
        have HM0 : Hid (C.mk U (Z.take 0) = some U) := rfl
        have HSW : Hid (BSt w wr g m U) := HS
        clear hl0
        go_wp2_with (fail)
        go_loopw [9, 12, 29] (fun cv lv kv wx => ∃ (k : Nat) (U' : List Bool) (lst : Int), cv = .int .i64 ((c + k : Nat) : Int) ∧ lv = .int .i64 lst ∧ kv = .int .i64 k ∧ k ≤ l ∧ Hid (BSt w wx g m U') ∧ Hid (C.mk U (Z.take k) = some U') ∧ Hid (∀ j, j < k → C.good W false Z j) ∧ Hid ((k = 0 → lst = -1) ∧ (0 < k → lst = Z.getD (k - 1) 0))) (fun _ _ kv _ => l - (intOf kv).toNat)
        case atStart => exact ⟨0, U, -1, rfl, rfl, rfl, by omega, HSW, HM0, fun j hj => by omega, fun _ => rfl, fun h => by omega⟩
        case round =>
          obtain ⟨k, U', lst, rfl, rfl, rfl, hkl, HS', HMK, HGD, HLS⟩ := hrel
          by_cases hkn : k < l
          · have hkn1 : (k : Int) < (l : Int) := by omega
            have hkZ : k < Z.length := by rw [← HLZ.out]; exact hkn
            obtain ⟨bz, ez, _, cz2⟩ := zatb (HRZ.out wr HS'.out.below) k hkZ
            subst ez
            obtain ⟨x, hx⟩ : ∃ x, x = Z.getD k 0 := ⟨_, rfl⟩
            rw [← hx] at cz2
            have hbad : ¬ C.good W false Z k → rv = .tuple #[.int .i64 0, .bool false] := fun h => HNO.out fun ⟨U2, h2⟩ => h ((HAT.out U2 h2).1.2 k hkZ)
            have hls1 : -1 ≤ lst := by
              by_cases e : k = 0
              · have := HLS.out.1 e; omega
              · have := HLS.out.2 (by omega); have := (HGD.out (k - 1) (by omega)).1; omega
            have hgx : C.good W false Z k → lst < x ∧ x < (m : Int) := fun h => by
              have h2 := h.2.1
              rw [← hx] at h2
              refine ⟨?_, by have := HM.out.1; omega⟩
              by_cases e : k = 0
              · have := HLS.out.1 e; have := h.1; rw [← hx] at this; omega
              · have := HLS.out.2 (by omega); have := (h.2.2 (by omega)).1; rw [← hx] at this; omega
            by_cases hxl : x ≤ lst
            · have HT := Lib.hid (hbad fun h => by have := hgx h; omega)
              have hd1 : decide (x ≤ lst) = true := by simpa using hxl
              have HBF : Hid (∀ q, Below w.heap.size w (wr.drewN q)) := fun q => below_drewN HS'.out.below q
              clear hx hbad hgx hxl hls1
              go_wp2_with (fail)
              go_quiet (fail)
              go_wp2_with (fail)
              go_ret2
              exact ⟨by rw [HT.out]; rfl, HBF.out _⟩
            · obtain ⟨xn, hxn⟩ := Int.eq_ofNat_of_zero_le (show 0 ≤ x by omega)
              subst hxn
              have hd1 : decide ((xn : Int) ≤ lst) = false := by simpa using hxl
              by_cases hxm : m ≤ xn
              · have HT := Lib.hid (hbad fun h => by have := hgx h; omega)
                have hd2 : decide (m ≤ xn) = true := by simpa using hxm
                have HBF : Hid (∀ q, Below w.heap.size w (wr.drewN q)) := fun q => below_drewN HS'.out.below q
                clear hx hbad hgx hxl hls1 hxm
                go_wp2_with (fail)
                go_quiet (fail)
                go_wp2_with (fail)
                go_ret2
                exact ⟨by rw [HT.out]; rfl, HBF.out _⟩
              · have hd2 : decide (m ≤ xn) = false := by simpa using hxm
                have hxm1 : (xn : Int) < (m : Int) := by omega
                obtain ⟨s, hs⟩ : ∃ s, s = U'.getD xn false := ⟨_, rfl⟩
                have cs : wr.cell? ⟨g, xn, none⟩ = some (.bool s) := by rw [hs]; exact HS'.out.cell (by omega)
                have hsn : C.mk U (Z.take (k + 1)) = if s = true then none else some (U'.set xn true) := by
                  rw [List.take_succ_eq_append_getElem hkZ, C.mk_snoc, HMK.out]
                  have e : Z[k].toNat = xn := by
                    have : Z.getD k 0 = Z[k] := by simp [List.getD, hkZ]
                    rw [← this, ← hx]; rfl
                  simp only [e, ← hs]
                cases s with
                | true =>
                  have HT := Lib.hid (HNO.out fun ⟨U2, h⟩ => by
                    obtain ⟨_, u2, h3⟩ := HAT.out U2 h
                    obtain ⟨u3, h4⟩ := C.mk_take h3 (k + 1) (by omega)
                    rw [hsn] at h4; cases h4)
                  have HBF : Hid (∀ q, Below w.heap.size w (wr.drewN q)) := fun q => below_drewN HS'.out.below q
                  clear hx hbad hgx hxl hls1 hxm hs hsn
                  go_wp2_with (fail)
                  go_quiet (fail)
                  go_wp2_with (fail)
                  go_ret2
                  exact ⟨by rw [HT.out]; rfl, HBF.out _⟩
                | false =>
                  have HMN : Hid (C.mk U (Z.take (k + 1)) = some (U'.set xn true)) := by show _ = _; rw [hsn]; rfl
                  have HSN : Hid (∀ q, BSt w ((wr.drewN q).setCell ⟨g, xn, none⟩ (.bool true)) g m (U'.set xn true)) := fun q => (HS'.out.low (below_drewN (Below.refl _ _) q)).set xn true
                  have HLN : Hid ((k + 1 = 0 → (xn : Int) = -1) ∧ (0 < k + 1 → (xn : Int) = Z.getD (k + 1 - 1) 0)) := ⟨fun h => by omega, fun _ => by rw [Nat.add_sub_cancel]; exact hx⟩
                  have cf := HS'.out.free xn
                  have hc2 : (c + k : Nat) ≤ 100000 := by omega
                  by_cases hk0 : k = 0
                  · have hls : lst = -1 := HLS.out.1 hk0
                    have HGN : Hid (∀ j, j < k + 1 → C.good W false Z j) := fun j hj => by
                      have : j = k := by omega
                      subst this
                      exact ⟨by rw [← hx]; omega, by rw [← hx]; have := HM.out.1; omega, fun h => by omega⟩
                    have hd3 : decide (0 ≤ lst) = false := by rw [hls]; rfl
                    have HLE := Lib.hid (And.intro hls hk0)
                    clear hx hbad hgx hxl hls1 hxm hs hsn hk0 hls
                    go_wp2_with (fail)
                    go_quiet (fail)
                    go_wp2_with (fail)
                    go_roundw
                    case rel => exact ⟨k + 1, _, xn, by first | rfl | go_num | (congr 1; omega), rfl, by first | rfl | go_num, by omega, HSN.out _, HMN, HGN, HLN⟩
                    case measure => simp [intOf]; omega
                  · have hlsv := HLS.out.2 (by omega)
                    have hgk1 := HGD.out (k - 1) (by omega)
                    obtain ⟨yn, hyn⟩ := Int.eq_ofNat_of_zero_le (show 0 ≤ lst by rw [hlsv]; exact hgk1.1)
                    have hyW : yn < W.length := by have := hgk1.2.1; rw [← hlsv, hyn] at this; omega
                    have hxW : xn < W.length := by have := HM.out.1; omega
                    obtain ⟨bw, ew, _, cwx⟩ := zatb (HW.out.below HS'.out.below (Nat.le_refl _)) xn hxW
                    subst ew
                    obtain ⟨bw2, ew, _, cwy⟩ := zatb (HW.out.below HS'.out.below (Nat.le_refl _)) yn hyW
                    injection ew with ew
                    injection ew with ew
                    subst ew
                    obtain ⟨p, hp⟩ : ∃ p, p = W.getD xn 0 := ⟨_, rfl⟩
                    obtain ⟨r, hr⟩ : ∃ r, r = W.getD yn 0 := ⟨_, rfl⟩
                    rw [← hp] at cwx
                    rw [← hr] at cwy
                    have hgi : C.good W false Z k ↔ C.rel false r p := by
                      unfold C.good
                      rw [← hx, ← hlsv, hyn, hp, hr]
                      have := HM.out.1
                      exact ⟨fun h => (h.2.2 (by omega)).2, fun h => ⟨by omega, by omega, fun _ => ⟨by omega, h⟩⟩⟩
                    have hym1 : (yn : Int) < (m : Int) := by have := HM.out.1; omega
                    subst hyn
                    have hd1n : decide (xn ≤ yn) = false := by rw [decide_eq_false_iff_not]; omega
                    by_cases hpr : p < r
                    · have HGN : Hid (∀ j, j < k + 1 → C.good W false Z j) := fun j hj => by
                        by_cases hjk : j < k
                        · exact HGD.out j hjk
                        · obtain rfl : j = k := by omega
                          exact hgi.2 (by unfold C.rel; simpa using hpr)
                      have HPR := Lib.hid hpr
                      clear hx hbad hgx hxl hls1 hxm hs hsn hk0 hlsv hgk1 hyW hxW hp hr hgi hpr
                      go_wp2_with (fail)
                      go_quiet ((go_at_call 62; refine Calls.mono (coveredD_f r p true _ (by simpa using HPR.out)) (fun e w' h9 => ⟨h9.1, by rw [h9.2]; first | exact ⟨_, rfl⟩ | exact ⟨0, rfl⟩⟩)))
                      go_wp2_with (fail)
                      go_roundw
                      case rel => exact ⟨k + 1, _, xn, by first | rfl | go_num | (congr 1; omega), rfl, by first | rfl | go_num, by omega, HSN.out _, HMN, HGN, HLN⟩
                      case measure => simp [intOf]; omega
                    · have HT := Lib.hid (hbad fun h => hpr (by have := hgi.1 h; unfold C.rel at this; simpa using this))
                      have HBF : Hid (∀ q, Below w.heap.size w (wr.drewN q)) := fun q => below_drewN HS'.out.below q
                      have HPR := Lib.hid hpr
                      clear hx hbad hgx hxl hls1 hxm hs hsn hk0 hlsv hgk1 hyW hxW hp hr hgi hpr
                      go_wp2_with (fail)
                      go_quiet ((go_at_call 62; refine Calls.mono (coveredD_f r p false _ (by simpa using HPR.out)) (fun e w' h9 => ⟨h9.1, by rw [h9.2]; first | exact ⟨_, rfl⟩ | exact ⟨0, rfl⟩⟩)))
                      go_wp2_with (fail)
                      go_ret2
                      exact ⟨by rw [HT.out]; rfl, HBF.out _⟩
          · obtain rfl : k = l := by omega
            have HMF : Hid (C.mk U Z = some U') := by
              have h9 := HMK.out
              rw [List.take_of_length_le (by rw [HLZ.out]; exact Nat.le_refl _)] at h9
              exact h9
            have HCN : Hid (C.cov W false (List.replicate m false) (L.take (i + 1)) U') := by
              show C.cov _ _ _ _ _
              rw [HTK.out]; exact C.cov_snoc _ _ _ _ _ HC.out ⟨by rw [← HLZ.out]; exact HL0.out, fun j hj => HGD.out j (by rw [HLZ.out]; exact hj)⟩ HMF.out
            have HKN : Hid (c + k = C.sumL (L.take (i + 1))) := by show _ = _; rw [HTK.out, C.sumL_snoc, ← HK.out, ← HLZ.out]
            clear hkn
            go_wp2_with (fail)
            go_roundw
            case rel => exact ⟨i + 1, c + k, U', by first | rfl | go_num, by first | rfl | go_num, by omega, by omega, HS', HCN, HKN⟩
            case measure => simp [intOf]; omega
    · obtain rfl : n = i := by omega
      have hLt : L.take n = L := List.take_of_length_le (by rw [HM.out.2]; exact Nat.le_refl _)
      have HE : Hid (rv = .tuple #[.int .i64 (c : Nat), .bool true]) := by
        have h9 := HC.out
        have h8 := HK.out
        rw [hLt] at h9 h8
        rw [h8]; exact hv.out.1 U h9
      have HBF : Hid (Below w.heap.size w wr) := HS.out.below
      clear hin hLt
      go_wp2_with (fail)
      go_ret2
      exact ⟨by rw [HE.out]; rfl, HBF.out⟩

end Go.Proofs.Ytapidabhdbjnmaa
