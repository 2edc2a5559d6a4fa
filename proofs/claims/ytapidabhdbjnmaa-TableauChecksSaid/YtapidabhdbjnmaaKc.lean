/- The walk over the reference's covered. -/
import Derived.Test.YtapidabhdbjnmaaKb
namespace Go.Proofs.Ytapidabhdbjnmaa
open Go.RowKit

def blsL (S : List Bool) : List Value := S.map fun x => Value.bool x
theorem Try.infoBo : (Try.prog.info? 4).map (fun i => (i.zero, i.size, i.bytes)) = some (some (.bool false), 1, 1) := by kernel_rfl
/-- A list of marks of the call's own. -/
structure BSt (w wr : World) (g n : Nat) (U : List Bool) : Prop where
  own : wr.ownsRow w.heap.size 4 1 (.slice (some ⟨g, 0, none⟩) n n) n (blsL U)
  below : Below w.heap.size w wr
theorem BSt.len {w wr : World} {g n : Nat} {U : List Bool} (h : BSt w wr g n U) : U.length = n := by have := h.own.1; simp [blsL] at this; omega
theorem BSt.cell {w wr : World} {g n : Nat} {U : List Bool} (h : BSt w wr g n U) {j : Nat} (hj : j < n) : wr.cell? ⟨g, j, none⟩ = some (.bool (U.getD j false)) := by
  have hl := h.len
  rw [h.own.cellAt j (by omega)]
  simp [blsL, List.getD, show j < U.length by omega]
theorem BSt.free {w wr : World} {g n : Nat} {U : List Bool} (h : BSt w wr g n U) (j : Nat) : wr.frozen? ⟨g, j, none⟩ = false := h.own.frozenAt j
theorem BSt.set {w wr : World} {g n : Nat} {U : List Bool} (h : BSt w wr g n U) (j : Nat) (x : Bool) : BSt w (wr.setCell ⟨g, j, none⟩ (.bool x)) g n (U.set j x) := by
  have hg : w.heap.size ≤ g := (h.own.lt g rfl).1
  refine ⟨?_, h.below.trans ((Below.refl _ _).setCell hg _)⟩
  rw [show blsL (U.set j x) = (blsL U).set j (.bool x) by simp [blsL, List.map_set]]
  exact (h.own.stored j _).1
theorem BSt.low {w wr wx : World} {g n : Nat} {U : List Bool} (h : BSt w wr g n U) (hB : Below wr.heap.size wr wx) : BSt w wx g n U := ⟨own_kept h.own hB, h.below.trans (hB.mono h.below.size)⟩

theorem RdZ.shape' {w : World} {v : Value} {Ms : List (List Int)} (h : RdZ w v Ms) : ∃ a c, v = .slice a Ms.length c := by
  obtain ⟨vs, ⟨_, a, cap, e, hc, _⟩, _⟩ := h
  exact ⟨a, cap, e⟩

set_option maxRecDepth 100000 in
set_option maxHeartbeats 4000000 in
theorem rcovered_is (W : List Int) (L : List (List Int)) (up : Bool) (vw vl : Value) (rv : Int) (w : World) (hw : Hid (Rd w vw 1 W.length (zs W))) (hL : Hid (RdZ w vl L)) (hl : W.length ≤ 60) (hl2 : L.length ≤ 61) (hl3 : Hid (∀ Z ∈ L, Z.length ≤ 61))
    (hv : Hid ((∀ U, C.cov W up (List.replicate W.length false) L U → rv = (C.sumL L : Nat)) ∧ ((¬ ∃ U, C.cov W up (List.replicate W.length false) L U) → rv = -1))) :
    Calls Try.prog 42 #[vw, vl, .bool up] w fun e w' => e = .returned (.int .i64 rv) ∧ Below w.heap.size w w' := by
  obtain ⟨aw, cw, hvw⟩ := hw.out.shape
  obtain ⟨al, cl, hvl⟩ := hL.out.shape'
  subst hvw hvl
  obtain ⟨m, hm⟩ : ∃ m, m = W.length := ⟨_, rfl⟩
  obtain ⟨n, hn⟩ : ∃ n, n = L.length := ⟨_, rfl⟩
  have HM := Lib.hid (And.intro hm hn)
  have HW : Hid (Rd w (.slice aw m cw) 1 W.length (zs W)) := by show Rd _ _ _ _ _; rw [hm]; exact hw.out
  have HL : Hid (RdZ w (.slice al n cl) L) := by show RdZ _ _ _; rw [hn]; exact hL.out
  rw [← hm] at hl hv ⊢
  rw [← hn] at hl2 ⊢
  obtain ⟨iB, hiB, hzb0, hzb1, hzb2⟩ := info_parts Try.infoBo
  have hno : (¬ ∃ U, C.cov W up (List.replicate m false) L U) → rv = -1 := hv.out.2
  have HNO := Lib.hid hno
  clear hw hL hm hn hno
  go_enter Try.func42, Try.ntmps42
  go_wp2_with (at_make; refine wpList_make_full _ rfl _ _ 53 rfl w.heap.size 4 iB (.bool false) 1 Try.underlying53 hiB hzb0 hzb1 .i64 .i64 _ _ m rfl rfl rfl rfl (by rw [hzb2]; omega) (by unfold maxLen; omega) (Nat.le_refl _) ?_)
  intro w1 hown1 hgrow1
  obtain ⟨g, hg⟩ : ∃ g, g = w.heap.size := ⟨_, rfl⟩
  have HS1 : Hid (BSt w w1 g m (List.replicate m false)) := by
    refine ⟨?_, below_of_grown hgrow1⟩
    rw [hg]
    have e : (madeCells #[Value.bool false] m).toList = blsL (List.replicate m false) := by simp [toList_madeCells_one, blsL]
    rw [e] at hown1
    exact hown1
  have HC0 : Hid (C.cov W up (List.replicate m false) (L.take 0) (List.replicate m false)) := rfl
  rw [← hg]
  clear hown1 hgrow1 hg
  go_wp2_with (fail)
  go_loopw [8, 9] (fun cv iv wx => ∃ (i c : Nat) (U : List Bool), cv = .int .i64 c ∧ iv = .int .i64 i ∧ i ≤ n ∧ c ≤ i * 61 ∧ Hid (BSt w wx g m U) ∧ Hid (C.cov W up (List.replicate m false) (L.take i) U) ∧ Hid (c = C.sumL (L.take i))) (fun _ iv _ => n - (intOf iv).toNat)
  case atStart => exact ⟨0, 0, _, rfl, rfl, by omega, by omega, HS1, HC0, rfl⟩
  case round =>
    obtain ⟨i, c, U, rfl, rfl, hin0, hc, HS, HC, HK⟩ := hrel
    by_cases hin : i < n
    · have hin1 : (i : Int) < (n : Int) := by omega
      have hiL : i < L.length := by rw [← HM.out.2]; exact hin
      obtain ⟨bl, xl, yl, el, hbl, cl1, cl2, rl⟩ := HL.out.rowAt i hiL
      subst el
      obtain ⟨Z, hZ⟩ : ∃ Z, Z = L.getD i [] := ⟨_, rfl⟩
      have hZl := hl3.out Z (by rw [hZ]; simp [List.getD, hiL])
      rw [← hZ] at cl1 cl2 rl
      have HCL : Hid (∀ W', Below w.heap.size w W' → W'.cell? ⟨bl, i, none⟩ = some (.slice xl Z.length yl)) := fun W' h => (h.cell (p := ⟨bl, i, none⟩) hbl).trans cl1
      have HRZ : Hid (∀ W', Below w.heap.size w W' → Rd W' (.slice xl Z.length yl) 1 Z.length (zs Z)) := fun W' h => rl.below h (Nat.le_refl _)
      have HRW : Hid (∀ W', Below w.heap.size w W' → Rd W' (.slice aw m cw) 1 W.length (zs W)) := fun W' h => HW.out.below h (Nat.le_refl _)
      have hat : ∀ U', C.cov W up (List.replicate m false) L U' → C.chain W up Z ∧ ∃ u2, C.mk U Z = some u2 := fun U' h => by
        obtain ⟨u1, u2, h1, h2, h3⟩ := C.cov_at L _ _ h i hiL
        rw [← hZ] at h2 h3
        rw [C.cov_only _ _ _ _ h1 HC.out] at h3
        exact ⟨h2, u2, h3⟩
      have HAT := Lib.hid hat
      have HTK : Hid (L.take (i + 1) = L.take i ++ [Z]) := by show _ = _; rw [List.take_succ_eq_append_getElem hiL, hZ]; simp [List.getD, hiL]
      have cz0 := HCL.out wr HS.out.below
      obtain ⟨l, hl'⟩ : ∃ l, l = Z.length := ⟨_, rfl⟩
      have HLZ := Lib.hid hl'
      rw [← hl'] at cz0 hZl
      clear hat hZ rl hbl cl1 hl' hiL
      by_cases hch : C.chain W up Z
      · have HCH := Lib.hid (rchain_is W Z up (.slice aw m cw) (.slice xl Z.length yl) true wr (HRW.out wr HS.out.below) (HRZ.out wr HS.out.below) (by have := HM.out; omega) (by have := HLZ.out; omega) ⟨fun _ => rfl, fun _ => hch⟩)
        rw [← HLZ.out] at HCH
        have HCHN := Lib.hid hch
        have HM0 : Hid (C.mk U (Z.take 0) = some U) := rfl
        clear hch
        go_wp2_with (fail)
        refine HCH.out.mono ?_
        rintro e w2 ⟨rfl, q2, rfl⟩
        have HS2 : Hid (BSt w (wr.drewN q2) g m U) := HS.out.low (below_drewN (Below.refl _ _) q2)
        obtain ⟨w2, hw2⟩ : ∃ w2, w2 = wr.drewN q2 := ⟨_, rfl⟩
        rw [← hw2] at HS2 ⊢
        clear hw2 cz0
        go_wp2_with (fail)
        go_loopw [8, 10] (fun cv kv wx => ∃ (k : Nat) (U' : List Bool), cv = .int .i64 ((c + k : Nat) : Int) ∧ kv = .int .i64 k ∧ k ≤ l ∧ Hid (BSt w wx g m U') ∧ Hid (C.mk U (Z.take k) = some U')) (fun _ kv _ => l - (intOf kv).toNat)
        case atStart => exact ⟨0, U, rfl, rfl, by omega, HS2, HM0⟩
        case round =>
          obtain ⟨k, U', rfl, rfl, hkl, HS', HMK⟩ := hrel
          have cz1 := HCL.out wr HS'.out.below
          rw [← HLZ.out] at cz1
          by_cases hkn : k < l
          · have hkn1 : (k : Int) < (l : Int) := by omega
            have hkZ : k < Z.length := by rw [← HLZ.out]; exact hkn
            obtain ⟨bz, ez, _, cz2⟩ := zatb (HRZ.out wr HS'.out.below) k hkZ
            subst ez
            have hgk := HCHN.out.2 k hkZ
            obtain ⟨x, hx⟩ := Int.eq_ofNat_of_zero_le hgk.1
            have hxm : x < m := by have := hgk.2.1; have := HM.out.1; omega
            rw [hx] at cz2
            have hxm1 : (x : Int) < (m : Int) := by omega
            obtain ⟨s, hs⟩ : ∃ s, s = U'.getD x false := ⟨_, rfl⟩
            have cs : wr.cell? ⟨g, x, none⟩ = some (.bool s) := by rw [hs]; exact HS'.out.cell hxm
            have cf := HS'.out.free x
            have hsn : C.mk U (Z.take (k + 1)) = if s = true then none else some (U'.set x true) := by
              rw [List.take_succ_eq_append_getElem hkZ, C.mk_snoc, HMK.out]
              have e : Z[k].toNat = x := by
                have : Z.getD k 0 = Z[k] := by simp [List.getD, hkZ]
                rw [← this, hx]; rfl
              simp only [e, ← hs]
            cases s with
            | true =>
              have HT := Lib.hid (HNO.out fun ⟨U2, h⟩ => by
                obtain ⟨_, u2, h3⟩ := HAT.out U2 h
                obtain ⟨u3, h4⟩ := C.mk_take h3 (k + 1) (by omega)
                rw [hsn] at h4; cases h4)
              have HBF : Hid (Below w.heap.size w wr) := HS'.out.below
              clear hgk hx hs hsn
              go_wp2_with (fail)
              go_ret
              exact ⟨by rw [HT.out]; rfl, HBF.out⟩
            | false =>
              have HMN : Hid (C.mk U (Z.take (k + 1)) = some (U'.set x true)) := by show _ = _; rw [hsn]; rfl
              have HSN : Hid (BSt w (wr.setCell ⟨g, x, none⟩ (.bool true)) g m (U'.set x true)) := HS'.out.set x true
              have cz1b := HCL.out _ HSN.out.below
              rw [← HLZ.out] at cz1b
              have hc2 : (c + k : Nat) ≤ 100000 := by omega
              clear hgk hx hs hsn
              go_wp2_with (fail)
              go_roundw
              case rel => exact ⟨k + 1, _, by first | rfl | go_num | (congr 1; omega), by first | rfl | go_num, by omega, HSN, HMN⟩
              case measure => simp [intOf]; omega
          · obtain rfl : k = l := by omega
            have HMF : Hid (C.mk U Z = some U') := by
              have h9 := HMK.out
              rw [List.take_of_length_le (by rw [HLZ.out]; exact Nat.le_refl _)] at h9
              exact h9
            have HCN : Hid (C.cov W up (List.replicate m false) (L.take (i + 1)) U') := by
              show C.cov _ _ _ _ _
              rw [HTK.out]; exact C.cov_snoc _ _ _ _ _ HC.out HCHN.out HMF.out
            have HKN : Hid (c + k = C.sumL (L.take (i + 1))) := by show _ = _; rw [HTK.out, C.sumL_snoc, ← HK.out, ← HLZ.out]
            clear hkn
            go_wp2_with (fail)
            go_roundw
            case rel => exact ⟨i + 1, c + k, U', by first | rfl | go_num, by first | rfl | go_num, by omega, by omega, HS', HCN, HKN⟩
            case measure => simp [intOf]; omega
      · have HCH := Lib.hid (rchain_is W Z up (.slice aw m cw) (.slice xl Z.length yl) false wr (HRW.out wr HS.out.below) (HRZ.out wr HS.out.below) (by have := HM.out; omega) (by have := HLZ.out; omega) ⟨fun h => absurd h hch, fun h => (by cases h)⟩)
        rw [← HLZ.out] at HCH
        have HT := Lib.hid (HNO.out fun ⟨U2, h⟩ => hch (HAT.out U2 h).1)
        clear hch
        go_wp2_with (fail)
        refine HCH.out.mono ?_
        rintro e w2 ⟨rfl, q2, rfl⟩
        have HBF : Hid (Below w.heap.size w (wr.drewN q2)) := below_drewN HS.out.below q2
        go_wp2_with (fail)
        go_ret
        exact ⟨by rw [HT.out]; rfl, HBF.out⟩
    · obtain rfl : n = i := by omega
      have hLt : L.take n = L := List.take_of_length_le (by rw [HM.out.2]; exact Nat.le_refl _)
      have HE : Hid (rv = (c : Nat)) := by
        have h9 := HC.out
        have h8 := HK.out
        rw [hLt] at h9 h8
        rw [h8]; exact hv.out.1 U h9
      have HBF : Hid (Below w.heap.size w wr) := HS.out.below
      clear hin hLt
      go_wp2_with (fail)
      go_ret
      exact ⟨by rw [HE.out]; rfl, HBF.out⟩

end Go.Proofs.Ytapidabhdbjnmaa
