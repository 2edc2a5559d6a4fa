/- The walks over size, always, isPlan, has and the reference's Plan. -/
import Derived.Test.YtahhkbdodgjaeaaPj
namespace Go.Proofs.Ytahhkbdodgjaeaa
open Go.RowKit

set_option maxRecDepth 100000 in
theorem size_is (O R : List Int) (N : List (List Int)) (vo vr vn : Value) (w : World) (h : Hid (RdG w vo vr vn O R N)) :
    Calls Try.prog 46 #[.agg #[vo, vr, vn]] w fun e w' => e = .returned (.int .i64 (O.length : Nat)) ∧ Below w.heap.size w w' := by
  obtain ⟨ao, co, ho⟩ := h.out.o.shape
  obtain ⟨ar, cr, hr⟩ := h.out.r.shape
  obtain ⟨an, cn, hn, _⟩ := h.out.n.shape
  subst ho hr hn
  obtain ⟨X, hX⟩ : ∃ X, X = w.alloc (.cells #[.slice ao O.length co, .slice ar R.length cr, .slice an N.length cn] 56) := ⟨_, rfl⟩
  obtain ⟨b, hb⟩ : ∃ b, b = w.heap.size := ⟨_, rfl⟩
  have HA : Hid (Below w.heap.size w X) := by rw [hX]; exact (Below.refl _ _).alloc (Nat.le_refl _) _
  have hca : X.cell? ⟨b, 0, none⟩ = some (.slice ao O.length co) := by rw [hX, hb]; simp
  clear h
  go_enter Try.func46, Try.ntmps46
  go_upto_region 1 with fail
  rw [← hb, ← hX]
  clear hX hb
  go_wp2_with (fail)
  go_ret
  exact ⟨rfl, HA.out⟩

theorem always_is (x : Int) (w : World) : Calls Try.prog 53 #[.int .i64 x] w fun e w' => e = .returned (.bool true) ∧ w' = w := by
  go_enter Try.func53, Try.ntmps53
  go_wp2_with (fail)
  go_ret
  exact ⟨rfl, rfl⟩

set_option maxRecDepth 100000 in
set_option maxHeartbeats 1000000 in
theorem has_is (Z : List Int) (x : Int) (t : Bool) (v : Value) (w : World) (hr : Hid (Rd w v 1 Z.length (zs Z))) (hl : Z.length ≤ 1000000) (ht : Hid (x ∈ Z ↔ t = true)) :
    Calls Try.prog 41 #[v, .int .i64 x] w fun e w' => e = .returned (.bool t) ∧ w' = w := by
  obtain ⟨a0, cap0, hv0⟩ := hr.out.shape
  subst hv0
  obtain ⟨m, hm⟩ : ∃ m, m = Z.length := ⟨_, rfl⟩
  have HM := Lib.hid hm
  have HRD : Hid (Rd w (.slice a0 m cap0) 1 Z.length (zs Z)) := by show Rd _ _ _ _ _; rw [hm]; exact hr.out
  rw [← hm] at hl ⊢
  clear hm hr
  go_enter Try.func41, Try.ntmps41
  go_wp2_with (fail)
  go_loopw [5] (fun iv wx => ∃ (i : Nat), iv = .int .i64 i ∧ i ≤ m ∧ wx = w ∧ Hid (∀ j, j < i → Z.getD j 0 ≠ x)) (fun iv _ => m - (intOf iv).toNat)
  case atStart => exact ⟨0, rfl, by omega, rfl, fun j hj => by omega⟩
  case round =>
    obtain ⟨i, rfl, him, rfl, HG⟩ := hrel
    by_cases hin : i < m
    · have hiL : i < Z.length := by rw [← HM.out]; exact hin
      obtain ⟨b0, e0, _, hc9⟩ := zat HRD.out i hiL
      subst e0
      obtain ⟨y, hy⟩ : ∃ y, y = Z.getD i 0 := ⟨_, rfl⟩
      rw [← hy] at hc9
      have hin1 : (i : Int) < (m : Int) := by omega
      by_cases hxy : y = x
      · have HT : Hid (t = true) := ht.out.1 (by rw [← hxy, hy]; simp [List.getD, hiL])
        have hd : (y == x) = true := by simpa using hxy
        clear hy hxy hin
        go_wp2_with (fail)
        go_ret
        exact ⟨by rw [HT.out]; rfl, rfl⟩
      · have hd : (y == x) = false := by simpa using hxy
        have HGN : Hid (∀ j, j < i + 1 → Z.getD j 0 ≠ x) := fun j hj => by
          by_cases hji : j < i
          · exact HG.out j hji
          · obtain rfl : j = i := by omega
            rw [← hy]; exact hxy
        clear hy hxy
        go_wp2_with (fail)
        go_roundw
        case rel => exact ⟨i + 1, by first | rfl | go_num, by omega, by first | rfl | trivial, HGN⟩
        case measure => simp [intOf]; omega
    · obtain rfl : m = i := by omega
      have HT : Hid (t = false) := by
        show _ = _
        cases t with
        | false => rfl
        | true =>
          obtain ⟨j, h1, h2⟩ := List.getElem_of_mem (ht.out.2 rfl)
          exact absurd (by simp [List.getD, h1, h2]) (HG.out j (by rw [HM.out]; exact h1))
      clear hin
      go_wp2_with (fail)
      go_ret
      exact ⟨by rw [HT.out]; rfl, rfl⟩

set_option maxRecDepth 100000 in
set_option maxHeartbeats 4000000 in
theorem isPlan_always (O R : List Int) (N : List (List Int)) (P : List Int) (vo vr vn vp : Value) (bd : Nat → Bool) (t : Bool) (w : World)  (h : Hid (RdG w vo vr vn O R N)) (hs : Hid (Small O R N)) (hNO : N.length = O.length) (hp : Hid (Rd w vp 1 P.length (zs P))) (hpl : P.length ≤ 30)
    (hF : Hid (∀ i, i < O.length → ∀ W, Below w.heap.size w W → Calls Try.prog 53 (#[.int .i64 (i : Int)] : Array Value) W fun e W' => e = .returned (.bool (bd i)) ∧ Below W.heap.size W W'))
    (ht : Hid ((P.length = O.length ∧ ∀ i, i < O.length → bd i = true → P.getD i 0 ∈ N.getD i []) ↔ t = true)) :
    Calls Try.prog 52 #[.agg #[vo, vr, vn], vp, .func (.func 53) #[] #[]] w fun e w' => e = .returned (.bool t) ∧ Below w.heap.size w w' := by
  obtain ⟨ao, co, ho⟩ := h.out.o.shape
  obtain ⟨ar, cr, hr⟩ := h.out.r.shape
  obtain ⟨an, cn, hn, _⟩ := h.out.n.shape
  subst ho hr hn
  obtain ⟨m, hm⟩ : ∃ m, m = O.length := ⟨_, rfl⟩
  obtain ⟨m2, hm2⟩ : ∃ m, m = R.length := ⟨_, rfl⟩
  obtain ⟨m3, hm3⟩ : ∃ m, m = N.length := ⟨_, rfl⟩
  have hml : m ≤ 30 := by rw [hm]; exact hs.out.o
  have hml3 : m3 ≤ 30 := by rw [hm3]; exact hs.out.n
  have HM := Lib.hid (And.intro hm (And.intro hm2 hm3))
  obtain ⟨b, hb⟩ : ∃ b, b = w.heap.size := ⟨_, rfl⟩
  obtain ⟨X, hX⟩ : ∃ X, X = w.alloc (.cells #[.slice ao m co, .slice ar m2 cr, .slice an m3 cn] 56) := ⟨_, rfl⟩
  have HA : Hid (Below w.heap.size w X) := by rw [hX]; exact (Below.refl _ _).alloc (Nat.le_refl _) _
  have HRG : Hid (RdG X (.slice ao m co) (.slice ar m2 cr) (.slice an m3 cn) O R N) := by
    have h9 := h.out.below HA.out
    show RdG _ _ _ _ _ _ _
    rw [hm, hm2, hm3]; exact h9
  have hca : X.cell? ⟨b, 0, none⟩ = some (.slice ao m co) := by rw [hX, hb]; simp
  have hcb : X.cell? ⟨b, 1, none⟩ = some (.slice ar m2 cr) := by rw [hX, hb]; simp
  have hcn : X.cell? ⟨b, 2, none⟩ = some (.slice an m3 cn) := by rw [hX, hb]; simp
  have hXs : b < X.heap.size := by rw [hX, hb]; simp
  have HXS := Lib.hid hXs
  rw [← hm, ← hm2, ← hm3]
  obtain ⟨ap, cp, hvp⟩ := hp.out.shape
  subst hvp
  obtain ⟨k, hk⟩ : ∃ k, k = P.length := ⟨_, rfl⟩
  have HK := Lib.hid hk
  have HP : Hid (Rd X (.slice ap k cp) 1 P.length (zs P)) := by
    have h9 := hp.out.below HA.out (Nat.le_refl _)
    show Rd _ _ _ _ _
    rw [hk]; exact h9
  rw [← hk] at hpl ⊢
  have HSZ := Lib.hid (fun W hw => size_is O R N (.slice ao m co) (.slice ar m2 cr) (.slice an m3 cn) W hw)
  rw [← hm] at HSZ
  have HNO := Lib.hid hNO
  have hno : ¬ (P.length = O.length ∧ ∀ i, i < O.length → bd i = true → P.getD i 0 ∈ N.getD i []) → t = false := fun h => by
    cases t with
    | false => rfl
    | true => exact absurd (ht.out.2 rfl) h
  have HCB : Hid (∀ W, Below X.heap.size X W → W.cell? ⟨b, 2, none⟩ = some (.slice an m3 cn)) := fun W h9 => (h9.cell (p := ⟨b, 2, none⟩) HXS.out).trans hcn
  have hHS : Hid (w.heap.size ≤ X.heap.size) := HA.out.size
  clear h hm hm2 hm3 hp hk hXs hNO
  go_enter Try.func52, Try.ntmps52
  go_upto_region 1 with fail
  rw [← hb, ← hX]
  clear hX hb
  by_cases h1 : k = m
  · obtain rfl : k = m := h1
    have hq : ((k : Int) != (k : Int)) = false := by simp
    have HNO2 := Lib.hid hno
    clear hno
    go_wp2_with (fail)
    refine (HSZ.out _ HRG).mono ?_
    rintro e w1 ⟨rfl, hB⟩
    have HB1 : Hid (Below X.heap.size X w1) := hB
    clear hB
    go_wp2_with (fail)
    go_loopw [16] (fun iv wx => ∃ (i : Nat), iv = .int .i64 i ∧ i ≤ k ∧ Hid (Below X.heap.size X wx) ∧ Hid (∀ j, j < i → bd j = true → P.getD j 0 ∈ N.getD j [])) (fun iv _ => k - (intOf iv).toNat)
    case atStart => exact ⟨0, rfl, by omega, HB1, fun j hj => by omega⟩
    case round =>
      obtain ⟨i, rfl, him, HB, HG⟩ := hrel
      by_cases hin : i < k
      · have hin1 : (i : Int) < (k : Int) := by omega
        obtain ⟨bp, ep, _, cpx⟩ := zat (HP.out.below HB.out (Nat.le_refl _)) i (by rw [← HK.out]; exact hin)
        subst ep
        obtain ⟨bn, xn, yn, en, hbn, cn1, cn2, rn⟩ := HRG.out.n.rowAt i (by have := HM.out; have := HNO.out; omega)
        subst en
        obtain ⟨y, hy⟩ : ∃ y, y = P.getD i 0 := ⟨_, rfl⟩
        obtain ⟨L, hL⟩ : ∃ L, L = N.getD i [] := ⟨_, rfl⟩
        have hLl := hs.out.at i
        rw [← hy] at cpx
        rw [← hL] at cn1 cn2 rn hLl
        have HLL := Lib.hid hLl
        have HY := Lib.hid (And.intro hy hL)
        have hiO : i < O.length := by have := HM.out.1; omega
        have HFI := Lib.hid (hF.out i hiO wr (HA.out.trans (HB.out.mono hHS.out)))
        have HRN : Hid (∀ W, Below X.heap.size X W → Rd W (.slice xn L.length yn) 1 L.length (zs L)) := fun W h9 => rn.below h9 (Nat.le_refl _)
        have HCN : Hid (∀ W, Below X.heap.size X W → W.cell? ⟨bn, i, none⟩ = some (.slice xn L.length yn)) := fun W h9 => (h9.cell (p := ⟨bn, i, none⟩) hbn).trans cn1
        have hm3k : m3 = k := by have := HM.out; have := HNO.out; omega
        subst hm3k
        have HIO := Lib.hid hiO
        obtain ⟨s, hsv⟩ : ∃ s, s = bd i := ⟨_, rfl⟩
        rw [← hsv] at HFI
        have HSV := Lib.hid hsv
        clear hy hL rn cn1 hbn hiO hsv hLl
        go_wp2_with (fail)
        refine HFI.out.mono ?_
        rintro e w2 ⟨rfl, hB⟩
        have HB2 : Hid (Below X.heap.size X w2) := HB.out.trans (hB.mono HB.out.size)
        have HRL2 := Lib.hid (HRN.out _ HB2.out)
        have k0 := HCB.out _ HB2.out
        have k1 := HCN.out _ HB2.out
        clear hB
        cases s with
        | false =>
          have HGN : Hid (∀ j, j < i + 1 → bd j = true → P.getD j 0 ∈ N.getD j []) := fun j hj hb => by
            by_cases hji : j < i
            · exact HG.out j hji hb
            · obtain rfl : j = i := by omega
              rw [← HSV.out] at hb; cases hb
          go_wp2_with (fail)
          go_roundw
          case rel => exact ⟨i + 1, by first | rfl | go_num, by omega, HB2, HGN⟩
          case measure => simp [intOf]; omega
        | true =>
          by_cases hmem : y ∈ L
          · have HCT := Lib.hid (contains_is L y true _ w2 HRL2 (by have := HLL.out; omega) ⟨fun _ => rfl, fun _ => hmem⟩)
            have HGN : Hid (∀ j, j < i + 1 → bd j = true → P.getD j 0 ∈ N.getD j []) := fun j hj hb => by
              by_cases hji : j < i
              · exact HG.out j hji hb
              · obtain rfl : j = i := by omega
                rw [← HY.out.1, ← HY.out.2]; exact hmem
            clear hmem
            go_wp2_with (fail)
            refine HCT.out.mono ?_
            rintro e w3 ⟨rfl, rfl⟩
            go_wp2_with (fail)
            go_roundw
            case rel => exact ⟨i + 1, by first | rfl | go_num, by omega, HB2, HGN⟩
            case measure => simp [intOf]; omega
          · have HCT := Lib.hid (contains_is L y false _ w2 HRL2 (by have := HLL.out; omega) ⟨fun h9 => absurd h9 hmem, fun h9 => (by cases h9)⟩)
            have HT := Lib.hid (HNO2.out fun h9 => hmem (by rw [HY.out.1, HY.out.2]; exact h9.2 i HIO.out HSV.out.symm))
            clear hmem
            go_wp2_with (fail)
            refine HCT.out.mono ?_
            rintro e w3 ⟨rfl, rfl⟩
            go_wp2_with (fail)
            go_ret
            exact ⟨by rw [HT.out]; rfl, HA.out.trans (HB2.out.mono hHS.out)⟩
      · obtain rfl : k = i := by omega
        have HT : Hid (t = true) := ht.out.1 ⟨by have := HM.out; have := HK.out; omega, fun j hj => HG.out j (by have := HM.out; omega)⟩
        have HBF : Hid (Below w.heap.size w wr) := HA.out.trans (HB.out.mono hHS.out)
        clear hin HB
        go_wp2_with (fail)
        go_ret
        exact ⟨by rw [HT.out]; rfl, HBF.out⟩
  · have HT := Lib.hid (hno fun h9 => h1 (by have := HM.out; have := HK.out; have := h9.1; omega))
    have hq : ((k : Int) != (m : Int)) = true := by rw [bne_iff_ne]; omega
    clear hno h1
    go_wp2_with (fail)
    refine (HSZ.out _ HRG).mono ?_
    rintro e w1 ⟨rfl, hB⟩
    have HBF : Hid (Below w.heap.size w w1) := HA.out.trans (hB.mono hHS.out)
    clear hB
    go_wp2_with (fail)
    go_ret
    exact ⟨by rw [HT.out]; rfl, HBF.out⟩

set_option maxRecDepth 100000 in
set_option maxHeartbeats 4000000 in
theorem rPlan_is (O R : List Int) (N : List (List Int)) (P : List Int) (vo vr vn vp : Value) (pl : Int) (t : Bool) (w : World) (h : Hid (RdG w vo vr vn O R N)) (hs : Hid (Small O R N)) (hNO : N.length = O.length) (hp : Hid (Rd w vp 1 P.length (zs P))) (hpl : P.length ≤ 30)
    (ht : Hid ((P.length = O.length ∧ ∀ i, i < O.length → O.getD i 0 = pl → P.getD i 0 ∈ N.getD i []) ↔ t = true)) :
    Calls Try.prog 29 #[.agg #[vo, vr, vn], .int .i64 pl, vp] w fun e w' => e = .returned (.bool t) ∧ Below w.heap.size w w' := by
  obtain ⟨ao, co, ho⟩ := h.out.o.shape
  obtain ⟨ar, cr, hr⟩ := h.out.r.shape
  obtain ⟨an, cn, hn, _⟩ := h.out.n.shape
  subst ho hr hn
  obtain ⟨m, hm⟩ : ∃ m, m = O.length := ⟨_, rfl⟩
  obtain ⟨m2, hm2⟩ : ∃ m, m = R.length := ⟨_, rfl⟩
  obtain ⟨m3, hm3⟩ : ∃ m, m = N.length := ⟨_, rfl⟩
  have hml : m ≤ 30 := by rw [hm]; exact hs.out.o
  have hml3 : m3 ≤ 30 := by rw [hm3]; exact hs.out.n
  have HM := Lib.hid (And.intro hm (And.intro hm2 hm3))
  obtain ⟨b, hb⟩ : ∃ b, b = w.heap.size := ⟨_, rfl⟩
  obtain ⟨X, hX⟩ : ∃ X, X = w.alloc (.cells #[.slice ao m co, .slice ar m2 cr, .slice an m3 cn] 25) := ⟨_, rfl⟩
  have HA : Hid (Below w.heap.size w X) := by rw [hX]; exact (Below.refl _ _).alloc (Nat.le_refl _) _
  have HRG : Hid (RdG X (.slice ao m co) (.slice ar m2 cr) (.slice an m3 cn) O R N) := by
    have h9 := h.out.below HA.out
    show RdG _ _ _ _ _ _ _
    rw [hm, hm2, hm3]; exact h9
  have hca : X.cell? ⟨b, 0, none⟩ = some (.slice ao m co) := by rw [hX, hb]; simp
  have hcb : X.cell? ⟨b, 1, none⟩ = some (.slice ar m2 cr) := by rw [hX, hb]; simp
  have hcn : X.cell? ⟨b, 2, none⟩ = some (.slice an m3 cn) := by rw [hX, hb]; simp
  have hXs : b < X.heap.size := by rw [hX, hb]; simp
  have HXS := Lib.hid hXs
  rw [← hm, ← hm2, ← hm3]
  obtain ⟨ap, cp, hvp⟩ := hp.out.shape
  subst hvp
  obtain ⟨k, hk⟩ : ∃ k, k = P.length := ⟨_, rfl⟩
  have HK := Lib.hid hk
  have HP : Hid (Rd X (.slice ap k cp) 1 P.length (zs P)) := by
    have h9 := hp.out.below HA.out (Nat.le_refl _)
    show Rd _ _ _ _ _
    rw [hk]; exact h9
  rw [← hk] at hpl ⊢
  have HNO := Lib.hid hNO
  have hno : ¬ (P.length = O.length ∧ ∀ i, i < O.length → O.getD i 0 = pl → P.getD i 0 ∈ N.getD i []) → t = false := fun h => by
    cases t with
    | false => rfl
    | true => exact absurd (ht.out.2 rfl) h
  clear h hm hm2 hm3 hp hk hXs hNO
  go_enter Try.func29, Try.ntmps29
  go_upto_region 1 with fail
  rw [← hb, ← hX]
  clear hX hb
  by_cases h1 : k = m
  · obtain rfl : k = m := h1
    have hq : ((k : Int) != (k : Int)) = false := by simp
    have HNO2 := Lib.hid hno
    clear hno
    go_wp2_with (fail)
    go_loopw [7] (fun iv wx => ∃ (i q : Nat), iv = .int .i64 i ∧ i ≤ k ∧ wx = X.drewN q ∧ Hid (∀ j, j < i → O.getD j 0 = pl → P.getD j 0 ∈ N.getD j [])) (fun iv _ => k - (intOf iv).toNat)
    case atStart => exact ⟨0, 0, rfl, by omega, by first | rfl | trivial | simp, fun j hj => by omega⟩
    case round =>
      obtain ⟨i, q, rfl, him, rfl, HG⟩ := hrel
      by_cases hin : i < k
      · have hin1 : (i : Int) < (k : Int) := by omega
        obtain ⟨bp, ep, _, cpx⟩ := zat HP.out i (by rw [← HK.out]; exact hin)
        subst ep
        obtain ⟨bo, eo, _, co1⟩ := zat HRG.out.o i (by have := HM.out; omega)
        subst eo
        obtain ⟨bn, xn, yn, en, hbn, cn1, cn2, rn⟩ := HRG.out.n.rowAt i (by have := HM.out; have := HNO.out; omega)
        subst en
        obtain ⟨x, hx⟩ : ∃ x, x = O.getD i 0 := ⟨_, rfl⟩
        obtain ⟨y, hy⟩ : ∃ y, y = P.getD i 0 := ⟨_, rfl⟩
        obtain ⟨L, hL⟩ : ∃ L, L = N.getD i [] := ⟨_, rfl⟩
        have hLl := hs.out.at i
        rw [← hx] at co1
        rw [← hy] at cpx
        rw [← hL] at cn1 cn2 rn hLl
        have HLL := Lib.hid hLl
        have HY := Lib.hid (And.intro hy (And.intro hL hx))
        have hiO : i < O.length := by have := HM.out.1; omega
        have HRN : Hid (∀ q, Rd (X.drewN q) (.slice xn L.length yn) 1 L.length (zs L)) := fun q => rn.below (below_drewN (Below.refl _ _) q) (Nat.le_refl _)
        have hm3k : m3 = k := by have := HM.out; have := HNO.out; omega
        subst hm3k
        have HIO := Lib.hid hiO
        clear hy hL hx rn hbn hiO hLl
        by_cases hxp : x = pl
        · have hd : (x == pl) = true := by simpa using hxp
          have HXP := Lib.hid hxp
          clear hxp
          by_cases hmem : y ∈ L
          · have HGN : Hid (∀ j, j < i + 1 → O.getD j 0 = pl → P.getD j 0 ∈ N.getD j []) := fun j hj hb => by
              by_cases hji : j < i
              · exact HG.out j hji hb
              · obtain rfl : j = i := by omega
                rw [← HY.out.1, ← HY.out.2.1]; exact hmem
            have HMM := Lib.hid hmem
            clear hmem
            go_wp2_with (fail)
            go_quiet ((go_at_call 41; exact still_draw _ _ ((has_is L y true _ _ (HRN.out _) (by have := HLL.out; omega) ⟨fun _ => rfl, fun _ => HMM.out⟩).mono fun e w' h9 => ⟨h9.1, 0, by rw [h9.2]; rfl⟩)))
            go_wp2_with (fail)
            go_roundw
            case rel => exact ⟨i + 1, _, by first | rfl | go_num, by omega, by first | rfl | exact World.drewN_drewN _ _ _, HGN⟩
            case measure => simp [intOf]; omega
          · have HT := Lib.hid (HNO2.out fun h9 => hmem (by rw [HY.out.1, HY.out.2.1]; exact h9.2 i HIO.out (by rw [← HY.out.2.2]; exact HXP.out)))
            have HMM := Lib.hid hmem
            clear hmem
            go_wp2_with (fail)
            go_quiet ((go_at_call 41; exact still_draw _ _ ((has_is L y false _ _ (HRN.out _) (by have := HLL.out; omega) ⟨fun h9 => absurd h9 HMM.out, fun h9 => (by cases h9)⟩).mono fun e w' h9 => ⟨h9.1, 0, by rw [h9.2]; rfl⟩)))
            go_wp2_with (fail)
            go_ret
            exact ⟨by rw [HT.out]; rfl, below_drewN (below_drewN HA.out q) _⟩
        · have hd : (x == pl) = false := by simpa using hxp
          have HGN : Hid (∀ j, j < i + 1 → O.getD j 0 = pl → P.getD j 0 ∈ N.getD j []) := fun j hj hb => by
            by_cases hji : j < i
            · exact HG.out j hji hb
            · obtain rfl : j = i := by omega
              exact absurd (by rw [HY.out.2.2]; exact hb) hxp
          clear hxp
          go_wp2_with (fail)
          go_quiet (fail)
          go_wp2_with (fail)
          go_roundw
          case rel => exact ⟨i + 1, _, by first | rfl | go_num, by omega, by first | rfl | exact World.drewN_drewN _ _ _, HGN⟩
          case measure => simp [intOf]; omega
      · obtain rfl : k = i := by omega
        have HT : Hid (t = true) := ht.out.1 ⟨by have := HM.out; have := HK.out; omega, fun j hj => HG.out j (by have := HM.out; omega)⟩
        clear hin
        go_wp2_with (fail)
        go_ret
        exact ⟨by rw [HT.out]; rfl, below_drewN HA.out q⟩
  · have HT := Lib.hid (hno fun h9 => h1 (by have := HM.out; have := HK.out; have := h9.1; omega))
    have hq : ((k : Int) != (m : Int)) = true := by rw [bne_iff_ne]; omega
    clear hno h1
    go_wp2_with (fail)
    go_ret
    exact ⟨by rw [HT.out]; rfl, HA.out⟩

end Go.Proofs.Ytahhkbdodgjaeaa
