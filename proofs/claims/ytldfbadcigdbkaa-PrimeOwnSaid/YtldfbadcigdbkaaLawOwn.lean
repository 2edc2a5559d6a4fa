/- Results are new memory, and no function changes its arguments. No condition. -/
import Derived.Test.YtldfbadcigdbkaaOwnMem
import Derived.ProofKit
import Derived.OpenShut
namespace Go.Proofs.Ytldfbadcigdbkaa.primeOwn
open Go.ChangeShapes Go.WideShapes Go.ChangeAt Go.RowKit

theorem own : ownKnob Try.prog.godebug = none := by kernel_rfl

set_option maxRecDepth 100000 in
set_option maxHeartbeats 2000000 in
theorem walk (n : Int) (vr vq : Value) (R Q : List Int) (w : World) (hr : Hid (ArgI w vr R)) (hq0 : Hid (ArgI w vq Q)) :
    Calls Try.prog 5 #[.int .i64 n, vr, vq] w fun e w' => e = .returned (.bool true) ∧ Below w.heap.size w w' := by
  have hnb := numv_bd n 2147483647 (by omega)
  obtain ⟨i0, hi, hz0, hz1, hz2⟩ := info_parts Try.infoI
  obtain ⟨N, hN⟩ := Int.eq_ofNat_of_zero_le (show 0 ≤ numv n 2147483647 by omega)
  rw [hN] at hnb
  have HN := Lib.hid hN
  obtain ⟨L, hL0⟩ := M.exists_fac N (by omega)
  have hL : Hid (M.IsFac (N : Int).toNat L) := by rw [Int.toNat_natCast]; exact hL0
  have hlen : L.length ≤ 30 := hL0.1.length_le (by rw [hL0.2]; omega)
  have h1 : 1 ≤ N := by omega
  have h2 : N ≤ 2147483647 := by omega
  have h1i : (1 : Int) ≤ N := by omega
  have h2i : (N : Int) ≤ 2147483647 := by omega
  clear hN hnb hL0
  go_enter Try.func5, Try.ntmps5
  go_wp2_with (go_at_call 12; refine (number_is n 2147483647 _ (by omega) (by omega)).mono ?_; rintro e w' ⟨rfl, rfl⟩)
  rw [HN.out]
  go_wp2_with (fail)
  refine (Decide_any N _ h1 h2).mono ?_
  rintro e w1 ⟨⟨d, vx, Zs, rfl, hR⟩, hB1⟩
  obtain ⟨av, cv, hv, hLo⟩ := Loose.of_out hR.out hR.ok
  subst hv
  have hzl := hR.len
  obtain ⟨zl, hzl2⟩ : ∃ zl, zl = Zs.length := ⟨_, rfl⟩
  rw [← hzl2] at hzl hLo ⊢
  have hV : verdict (d : Nat) (.slice av zl cv) 0 = .tuple #[.agg #[.int .i64 (d : Nat), .slice av zl cv], .int .i64 0] := rfl
  rw [hV]
  obtain ⟨xb, hxb⟩ : ∃ xb, xb = w1.heap.size := ⟨_, rfl⟩
  obtain ⟨wx, hwx⟩ : ∃ wx, wx = w1.alloc (.cells #[.int .i64 (d : Nat), .slice av zl cv] 24) := ⟨_, rfl⟩
  have hsx : wx.heap.size = xb + 1 := by rw [hwx, hxb]; exact World.size_alloc _ _
  have hBx : Below xb w1 wx := by rw [hwx, hxb]; exact (Below.refl _ _).alloc (Nat.le_refl _) _
  have hbx : wx.heap[xb]? = some (.cells #[.int .i64 (d : Nat), .slice av zl cv] 24 (0, 0)) := by rw [hwx, hxb]; exact heap_alloc_new _ _
  have hwb : w.heap.size ≤ xb := by rw [hxb]; exact hB1.size
  have hBw : Below w.heap.size w wx := hB1.trans (hBx.mono hwb)
  have hLx : zl = 0 ∨ ∃ g cur, av = some ⟨g, 0, none⟩ ∧ Loose (w.heap.size + 1) xb wx g zl cur := by
    rcases hLo with h | ⟨g, cur, h3, h4⟩
    · exact .inl h
    · exact .inr ⟨g, cur, h3, by rw [← hxb] at h4; exact h4.keep (fun b hb => hBx.block b hb)⟩
  have HSX := Lib.hid hsx
  have HX := Lib.hid (And.intro hBw (And.intro hbx hLx))
  have HWX := Lib.hid hwx
  have HXB := Lib.hid hxb
  clear hR hLo hzl2 hV hBx hbx hBw hLx hwx
  go_upto_region 3 with fail
  rw [← HWX.out, ← HXB.out]
  clear hB1 hxb
  go_wp2_with (fail)
  refine (Factor_yes N L _ h1i h2i hL).mono ?_
  rintro e w2 ⟨⟨vl, rfl, hown⟩, hB2⟩
  obtain ⟨al, cl, hvl⟩ : ∃ a c, vl = .slice a L.length c := by obtain ⟨_, a, c, h, _⟩ := Rd.of_own hown; exact ⟨a, c, h⟩
  subst hvl
  obtain ⟨ll, hll⟩ : ∃ ll, ll = L.length := ⟨_, rfl⟩
  rw [← hll] at hown hlen ⊢
  have hL2 : zl = 0 ∨ ∃ g cur, av = some ⟨g, 0, none⟩ ∧ Loose (w.heap.size + 1) xb w2 g zl cur := by
    rcases HX.out.2.2 with h | ⟨g, cur, h3, h4⟩
    · exact .inl h
    · exact .inr ⟨g, cur, h3, h4.keep (fun b hb => hB2.block b (by omega))⟩
  have hbx2 := (hB2.block xb (by omega)).trans HX.out.2.1
  have hBw2 : Below w.heap.size w w2 := HX.out.1.trans (hB2.mono HX.out.1.size)
  have H2 := Lib.hid (And.intro hown (And.intro hL2 (And.intro hbx2 hBw2)))
  have hs2 : xb < w2.heap.size := by have := hB2.size; omega
  have HLL := Lib.hid hll
  clear hown hB2 hL2 hbx2 hBw2 hll
  go_wp2_with (fail)
  go_loopw [11] (fun i wr => ∃ k : Nat, i = .int .i64 k ∧ k ≤ zl ∧ Hid (Below w.heap.size w wr) ∧ Hid (wr.heap[xb]? = some (.cells #[.int .i64 (d : Nat), .slice av zl cv] 24 (0, 0))) ∧ Hid (w2.heap.size ≤ wr.heap.size ∧ ∀ b, xb ≤ b → wr.heap[b]? = w2.heap[b]?) ∧ Hid (zl = 0 ∨ ∃ g cur, av = some ⟨g, 0, none⟩ ∧ Loose (w.heap.size + 1) xb wr g zl cur)) (fun i _ => zl - (intOf i).toNat)
  case atStart => exact ⟨0, rfl, by omega, H2.out.2.2.2, H2.out.2.2.1, ⟨Nat.le_refl _, fun _ _ => rfl⟩, H2.out.2.1⟩
  case round =>
    obtain ⟨k, rfl, hk, HB, HBX, HK, HL⟩ := hrel
    have x1 := cell_blk (o := 1) HBX.out rfl
    by_cases hlt : k < zl
    · have hd1 : decide (k < zl) = true := by simpa using hlt
      obtain ⟨g, cur, rfl, hLo⟩ : ∃ g cur, av = some ⟨g, 0, none⟩ ∧ Loose (w.heap.size + 1) xb wr g zl cur := by
        rcases HL.out with h | h
        · omega
        · exact h
      obtain ⟨a, m, c, e1, e2, e3⟩ := hLo.2.2.2.2 k hlt
      have HLo := Lib.hid hLo
      have HE := Lib.hid (And.intro e1 e3)
      clear hLo e1 e3 HL
      go_wp2_with (fail)
      go_loopw [12] (fun i wr => ∃ q : Nat, i = .int .i64 q ∧ q ≤ m ∧ Hid (Below w.heap.size w wr) ∧ Hid (wr.heap[xb]? = some (.cells #[.int .i64 (d : Nat), .slice (some ⟨g, 0, none⟩) zl cv] 24 (0, 0))) ∧ Hid (w2.heap.size ≤ wr.heap.size ∧ ∀ b, xb ≤ b → wr.heap[b]? = w2.heap[b]?) ∧ Hid (Loose (w.heap.size + 1) xb wr g zl cur)) (fun i _ => m - (intOf i).toNat)
      case atStart => exact ⟨0, rfl, by omega, HB.out, HBX.out, HK.out, HLo.out⟩
      case round =>
        obtain ⟨q, rfl, hq, HB', HBX', HK', HL'⟩ := hrel
        have x1 := cell_blk (o := 1) HBX'.out rfl
        have x2 := cell_blk (o := k * 3 + 2) HL'.out.1 (by rw [Array.getElem?_toList]; exact HE.out.1)
        by_cases hqm : q < m
        · obtain ⟨gj, curj, rfl, f2, f3, f4, f5, f6⟩ : ∃ gj curj, a = some ⟨gj, 0, none⟩ ∧ gj ≠ g ∧ w.heap.size + 1 ≤ gj ∧ gj < xb ∧ wr.heap[gj]? = some (.cells curj 3 (0, 0)) ∧ m ≤ curj.size := by
            obtain ⟨a', m', c', i1, i2, i3⟩ := HL'.out.2.2.2.2 k hlt
            rw [HE.out.1] at i1
            injection i1 with i1
            injection i1 with i11 i12 i13
            subst i11 i12 i13
            rcases i3 with h | h
            · omega
            · exact h
          have z1 : wr.frozen? ⟨gj, q, none⟩ = false := frozen_blk f5
          obtain ⟨u, z2⟩ : ∃ u, wr.cell? ⟨gj, q, none⟩ = some u := ⟨_, cell_blk f5 (by rw [Array.getElem?_toList]; exact Array.getElem?_eq_getElem (show q < curj.size by omega))⟩
          have HJ := Lib.hid (And.intro f2 (And.intro f3 (And.intro f4 (And.intro f5 f6))))
          have hd2 : decide (q < m) = true := by simpa using hqm
          clear f2 f3 f4 f5 f6
          go_wp2_with (fail)
          go_roundw
          case rel =>
            obtain ⟨f2, f3, f4, f5, f6⟩ := HJ.out
            refine ⟨q + 1, by go_num, by omega, HB'.out.setCell (by show w.heap.size ≤ gj; omega) _, ?_, ?_, HL'.out.store f2 f5⟩
            · show (World.setCell _ _ _).heap[xb]? = _
              rw [heap_setCell_other _ _ _ _ (by show xb ≠ gj; omega)]; exact HBX'.out
            · refine ⟨by have := HK'.out.1; simpa [World.setCell] using this, fun b hb => ?_⟩
              rw [heap_setCell_other _ _ _ _ (by show b ≠ gj; omega)]; exact HK'.out.2 b hb
          case measure => simp [intOf]; omega
        · obtain rfl : q = m := by omega
          have hgc : k * 3 + 2 < cur.size := by have := HL'.out.2.2.2.1; omega
          obtain ⟨u0, z0⟩ : ∃ u, wr.cell? ⟨g, k * 3, none⟩ = some u := ⟨_, cell_blk HL'.out.1 (by rw [Array.getElem?_toList]; exact Array.getElem?_eq_getElem (show k * 3 < cur.size by omega))⟩
          obtain ⟨u1, z1⟩ : ∃ u, wr.cell? ⟨g, k * 3 + 1, none⟩ = some u := ⟨_, cell_blk HL'.out.1 (by rw [Array.getElem?_toList]; exact Array.getElem?_eq_getElem (show k * 3 + 1 < cur.size by omega))⟩
          have y0 : wr.frozen? ⟨g, k * 3, none⟩ = false := frozen_blk HL'.out.1
          have y1 : wr.frozen? ⟨g, k * 3 + 1, none⟩ = false := frozen_blk HL'.out.1
          have y2 : wr.frozen? ⟨g, k * 3 + 2, none⟩ = false := frozen_blk HL'.out.1
          go_wp2_with (fail)
          go_roundw
          case rel =>
            obtain ⟨cur', hc'⟩ := HL'.out.clear hlt
            have hg1 := HL'.out.2.1
            have hg2 := HL'.out.2.2.1
            refine ⟨k + 1, by go_num, by omega, ?_, ?_, ?_, .inr ⟨g, cur', rfl, hc'⟩⟩
            · exact ((HB'.out.setCell (by show w.heap.size ≤ g; omega) _).setCell (by show w.heap.size ≤ g; omega) _).setCell (by show w.heap.size ≤ g; omega) _
            · show (World.setCell _ _ _).heap[xb]? = _
              rw [heap_setCell_other _ _ _ _ (by show xb ≠ g; omega), heap_setCell_other _ _ _ _ (by show xb ≠ g; omega), heap_setCell_other _ _ _ _ (by show xb ≠ g; omega)]; exact HBX'.out
            · refine ⟨by have := HK'.out.1; simpa [World.setCell] using this, fun b hb => ?_⟩
              rw [heap_setCell_other _ _ _ _ (by show b ≠ g; omega), heap_setCell_other _ _ _ _ (by show b ≠ g; omega), heap_setCell_other _ _ _ _ (by show b ≠ g; omega)]; exact HK'.out.2 b hb
          case measure => simp [intOf]; omega
    · obtain rfl : k = zl := by omega
      have hrow : ll = 0 ∨ ∃ gl cur, al = some ⟨gl, 0, none⟩ ∧ w.heap.size ≤ gl ∧ wr.heap[gl]? = some (.cells cur 41 (0, 0)) ∧ ll * 2 ≤ cur.size := by
        have hsx' := HSX.out
        have hb1 := H2.out.1
        rcases hb1.2 with ⟨b1, b2⟩ | ⟨gl, cpl, cur, b1, b2, b3, b4, b5, b6, b7⟩
        · exact .inl b2
        · injection b1 with b11 b12 b13
          exact .inr ⟨gl, cur, b11, by omega, (HK.out.2 gl (by omega)).trans b3, by rw [b6]; exact Nat.mul_le_mul_right _ b4⟩
      have HRow := Lib.hid hrow
      have hd1 : decide (k < k) = false := by simp
      clear hrow
      go_wp2_with (fail)
      go_loopw [13] (fun i wx => ∃ q : Nat, i = .int .i64 q ∧ q ≤ ll ∧ Hid (Below w.heap.size w wx) ∧ Hid (ll = 0 ∨ ∃ gl cur, al = some ⟨gl, 0, none⟩ ∧ w.heap.size ≤ gl ∧ wx.heap[gl]? = some (.cells cur 41 (0, 0)) ∧ ll * 2 ≤ cur.size)) (fun i _ => ll - (intOf i).toNat)
      case atStart => exact ⟨0, rfl, by omega, HB.out, HRow.out⟩
      case round =>
        obtain ⟨q, rfl, hq, HB', HR'⟩ := hrel
        by_cases hql : q < ll
        · obtain ⟨gl, cur, rfl, f1, f2, f3⟩ : ∃ gl cur, al = some ⟨gl, 0, none⟩ ∧ w.heap.size ≤ gl ∧ wr.heap[gl]? = some (.cells cur 41 (0, 0)) ∧ ll * 2 ≤ cur.size := by
            rcases HR'.out with h | h
            · omega
            · exact h
          obtain ⟨u0, z0⟩ : ∃ u, wr.cell? ⟨gl, q * 2, none⟩ = some u := ⟨_, cell_blk f2 (by rw [Array.getElem?_toList]; exact Array.getElem?_eq_getElem (show q * 2 < cur.size by omega))⟩
          obtain ⟨u1, z1⟩ : ∃ u, wr.cell? ⟨gl, q * 2 + 1, none⟩ = some u := ⟨_, cell_blk f2 (by rw [Array.getElem?_toList]; exact Array.getElem?_eq_getElem (show q * 2 + 1 < cur.size by omega))⟩
          have y0 : wr.frozen? ⟨gl, q * 2, none⟩ = false := frozen_blk f2
          have y1 : wr.frozen? ⟨gl, q * 2 + 1, none⟩ = false := frozen_blk f2
          have HJ := Lib.hid (And.intro f1 (And.intro f2 f3))
          have hd2 : decide (q < ll) = true := by simpa using hql
          clear f1 f2 f3
          go_wp2_with (fail)
          go_roundw
          case rel =>
            obtain ⟨f1, f2, f3⟩ := HJ.out
            have g1 := heap_setCell_same wr _ (q * 2) _ _ (.int .i64 0) f2
            have g2 := heap_setCell_same _ _ (q * 2 + 1) _ _ (.int .i64 0) g1
            exact ⟨q + 1, by go_num, by omega, (HB'.out.setCell f1 _).setCell f1 _, .inr ⟨gl, _, rfl, f1, g2, by simpa using f3⟩⟩
          case measure => simp [intOf]; omega
        · obtain rfl : q = ll := by omega
          have hd2 : decide (q < q) = false := by simp
          have HW5 := HB'
          clear HR' HB' HL HK HBX HRow H2 HX HWX x1
          go_wp2_with (fail)
          refine (Decide_any N _ h1 h2).mono ?_
          rintro e w4 ⟨⟨d4, vx, Z4, rfl, hR⟩, hB4⟩
          obtain ⟨a4, c4, hv⟩ := hR.out.rde.lenv
          subst hv
          obtain ⟨C, hC⟩ : ∃ C, C = Z4.map EntE.E := ⟨_, rfl⟩
          rw [← hC]
          have hrde : RdE w4 (.slice a4 C.length c4) C := by rw [hC]; exact hR.out.rde
          have hok : Hid (∀ E ∈ C, EntOk E) := by show ∀ E ∈ _, _; rw [hC]; exact hR.ok
          have HT : Hid (rightP (N : Int) (d4 : Int) C = true) := by show _ = _; rw [hC]; exact hR.right
          have HCL : Hid (C.length ≤ 1000000) := by show _ ≤ _; rw [hC, List.length_map]; have := hR.len; omega
          have hdn := hR.le
          have hdw : (Lit.int .i64 (d4 : Int)).wf = true := WalkArith.wf_i64 (by omega)
          have hV : verdict (d4 : Nat) (.slice a4 C.length c4) 0 = .tuple #[.agg #[.int .i64 (d4 : Nat), .slice a4 C.length c4], .int .i64 0] := rfl
          have hV2 : verV (d4 : Nat) (.slice a4 C.length c4) = .agg #[.int .i64 (d4 : Nat), .slice a4 C.length c4] := rfl
          rw [hV]
          obtain ⟨wy, hwy⟩ : ∃ wy, wy = w4.alloc (.cells #[.int .i64 (d4 : Nat), .slice a4 C.length c4] 24) := ⟨_, rfl⟩
          have hsy : wy.heap.size = w4.heap.size + 1 := by rw [hwy]; exact World.size_alloc _ _
          have hBy : Below w4.heap.size w4 wy := by rw [hwy]; exact (Below.refl _ _).alloc (Nat.le_refl _) _
          have hby : wy.heap[w4.heap.size]? = some (.cells #[.int .i64 (d4 : Nat), .slice a4 C.length c4] 24 (0, 0)) := by rw [hwy]; exact heap_alloc_new _ _
          have hWy : Below w.heap.size w wy := HW5.out.trans ((hB4.trans (hBy.mono hB4.size)).mono HW5.out.size)
          have HY : Hid (∀ w', Below wy.heap.size wy w' → w'.cell? ⟨w4.heap.size, 0, none⟩ = some (.int .i64 (d4 : Nat)) ∧ w'.cell? ⟨w4.heap.size, 1, none⟩ = some (.slice a4 C.length c4)) := fun w' h => by
            have hb := (h.block w4.heap.size (by omega)).trans hby
            exact ⟨cell_blk (o := 0) hb rfl, cell_blk (o := 1) hb rfl⟩
          have HRight : Hid (∀ W, Below wy.heap.size wy W → Calls Try.prog 10 #[.int .i64 (N : Int), .agg #[.int .i64 (d4 : Nat), .slice a4 C.length c4]] W fun x w' => x = .returned (.bool true) ∧ Below W.heap.size W w') := fun W hW => by
            rw [← hV2]; exact Right_is N d4 _ C true W h1i h2i hdw ((hrde.below hBy).below hW) HCL.out hok HT
          obtain ⟨cl4, hcl4⟩ : ∃ cl, cl = C.length := ⟨_, rfl⟩
          rw [← hcl4] at hwy HY HRight ⊢
          have HWY := Lib.hid hwy
          have HBW := Lib.hid hWy
          have HSY := Lib.hid hsy
          clear hR hC hrde hV hV2 hB4 hBy hby hWy hsy hwy hcl4
          go_upto_region 17 with fail
          rw [← HWY.out]
          go_wp2_with (fail)
          refine (Factor_yes N L _ h1i h2i hL).mono ?_
          rintro e w5 ⟨⟨vl, rfl, hown⟩, hB5⟩
          obtain ⟨al5, cl5, hvl⟩ : ∃ a c, vl = .slice a L.length c := by obtain ⟨_, a, c, h, _⟩ := Rd.of_own hown; exact ⟨a, c, h⟩
          subst hvl
          rw [← HLL.out]
          obtain ⟨k0, k1⟩ := HY.out w5 hB5
          have HB5 := Lib.hid hB5
          clear hown hB5
          go_upto_region 21 with (first
            | (go_at_call 10; refine (HRight.out _ HB5.out).mono ?_; rintro e w6 ⟨rfl, hB6⟩; have HB6 := Lib.hid hB6; clear hB6)
            | (go_at_call 15; refine (refFactor_any N L _ h1i h2i hL).mono ?_; rintro e w7 ⟨⟨vl7, rfl, hown7⟩, hB7⟩; obtain ⟨al7, cl7, hvl7⟩ : ∃ a c, vl7 = .slice a L.length c := (by obtain ⟨_, a, c, h, _⟩ := Rd.of_own hown7; exact ⟨a, c, h⟩); subst hvl7; rw [← HLL.out]; have HB7 := Lib.hid hB7; clear hown7 hB7))
          have hW7 : Below w.heap.size w w7 := HBW.out.trans (((HB5.out.trans (HB6.out.mono HB5.out.size)).trans (HB7.out.mono (HB5.out.trans (HB6.out.mono HB5.out.size)).size)).mono HBW.out.size)
          have HA7 : Hid (ArgI w7 vr R) := hr.out.below hW7
          have HQ7 : Hid (ArgI w7 vq Q) := hq0.out.below hW7
          have HW7 := Lib.hid hW7
          clear hW7 HB5 HB6 HB7 HBW HSY HY HRight HWY k0 k1 hok HT HCL
          obtain ⟨R6, hR6⟩ : ∃ R6, R6 = R.take 6 := ⟨_, rfl⟩
          obtain ⟨Q6, hQ6⟩ : ∃ Q6, Q6 = Q.take 6 := ⟨_, rfl⟩
          have HR6 := Lib.hid hR6
          have HQ6 := Lib.hid hQ6
          clear hR6 hQ6
          go_upto_region 21 with fail
          go_cut [18] (fun v wx => ∃ (W : World) (a : Option Addr) (cap : Nat), W = wx ∧ v = .slice a R6.length cap ∧ Hid (wx.ownsRow w7.heap.size 3 1 v R6.length (intsZ R6)) ∧ Hid (Below w7.heap.size w7 wx))
          case first =>
            obtain ⟨hlen, hnil | ⟨a, cap, rfl, hc1, hc2, hcell⟩⟩ := HA7.out
            · obtain ⟨rfl, rfl⟩ := hnil
              clear hlen
              go_wp2_with (at_builtin; refine wpList_append_own_none rfl _ _ 34 rfl w7.heap.size 3 i0 1 Try.underlying34 hi _ 0 [] rfl (World.ownsRow_nil _ _ _ _) rfl ?_)
              go_meet
              have h0 : R6 = [] := by rw [HR6.out]; rfl
              rw [h0]
              exact ⟨_, none, 0, rfl, rfl, World.ownsRow_nil _ _ _ _, Below.refl _ _⟩
            · have HCELL := Lib.hid hcell
              clear hcell
              have hr6l : R6.length = min R.length 6 := by rw [HR6.out, List.length_take]; omega
              obtain ⟨r6, hr6⟩ : ∃ r6, r6 = R6.length := ⟨_, rfl⟩
              have HR6L := Lib.hid hr6
              rw [← hr6] at hr6l
              have hmin : min (R.length : Int) 6 = (r6 : Int) := by omega
              have hle6 : r6 ≤ 6 := by omega
              have hrr : r6 ≤ R.length := by omega
              have hcr : r6 ≤ cap := by omega
              have hcr2 : (r6 : Int) ≤ (cap : Int) := by omega
              have HX6 := Lib.hid hr6l
              clear hr6 hr6l
              have hn1 : Hid (∀ j u, (intsZ R6)[j]? = some u → w7.cell? (a.add j) = some u) := by
                intro j u hj
                have hjl : j < R6.length := by have := (List.getElem?_eq_some_iff.1 hj).1; simpa [intsZ] using this
                rw [intsZ_get R6 j hjl] at hj
                cases hj
                have e1 : R6[j] = R[j]'(by rw [← HR6L.out] at hjl; omega) := by
                  have := HR6.out
                  subst this
                  rw [List.getElem_take]
                rw [e1]
                exact HCELL.out j _
              have hn2 : Hid (∀ u ∈ intsZ R6, u.oneCell' = true) := by
                intro u hu; unfold intsZ at hu; obtain ⟨z, _, rfl⟩ := List.mem_map.1 hu; rfl
              have hn3 : Hid ((intsZ R6).length = r6 * 1) := by show _ = _; rw [HR6L.out]; simp [intsZ]
              go_wp2_with (at_builtin; refine wpList_append_own _ rfl _ _ 34 rfl w7.heap.size 3 i0 (.int .i64 0) 1 8 Try.underlying34 hi hz0 hz1 hz2 rfl (by decide) (.slice none 0 0) 0 [] rfl (World.ownsRow_nil _ _ _ _) a r6 cap (intsZ R6) rfl hn3.out hn1.out hn2.out (by unfold maxLen; omega) (by omega) (Nat.le_refl _) ?_; intro v' w1 hown hgrow _; have HOG := Lib.hid (And.intro hown hgrow); clear hown hgrow)
              go_meet
              obtain ⟨hown, hgrow⟩ := HOG.out
              simp only [Nat.zero_add, List.nil_append] at hown
              rw [HR6L.out] at hown
              obtain ⟨_, a', cap', hv, _⟩ := Rd.of_own hown
              exact ⟨_, a', cap', rfl, hv, hown, (Below.refl _ _).grown hgrow (Nat.le_refl _) (fun b hb => by simp [Value.ownBlock] at hb)⟩
          case rest =>
            obtain ⟨w8, aA, cA, rfl, rfl, HOA, HB8⟩ := hcut
            have HQ8 : Hid (ArgI w8 vq Q) := HQ7.out.below HB8.out
            go_upto_region 22 with fail
            go_cut [19] (fun v wx => ∃ (W : World) (a : Option Addr) (cap : Nat), W = wx ∧ v = .slice a Q6.length cap ∧ Hid (wx.ownsRow w8.heap.size 3 1 v Q6.length (intsZ Q6)) ∧ Hid (Below w8.heap.size w8 wx))
            case first =>
              obtain ⟨hlen, hnil | ⟨a, cap, rfl, hc1, hc2, hcell⟩⟩ := HQ8.out
              · obtain ⟨rfl, rfl⟩ := hnil
                clear hlen
                go_wp2_with (at_builtin; refine wpList_append_own_none rfl _ _ 34 rfl w8.heap.size 3 i0 1 Try.underlying34 hi _ 0 [] rfl (World.ownsRow_nil _ _ _ _) rfl ?_)
                go_meet
                have h0 : Q6 = [] := by rw [HQ6.out]; rfl
                rw [h0]
                exact ⟨_, none, 0, rfl, rfl, World.ownsRow_nil _ _ _ _, Below.refl _ _⟩
              · have HCELL := Lib.hid hcell
                clear hcell
                have hr6l : Q6.length = min Q.length 6 := by rw [HQ6.out, List.length_take]; omega
                obtain ⟨r6, hr6⟩ : ∃ r6, r6 = Q6.length := ⟨_, rfl⟩
                have HR6L := Lib.hid hr6
                rw [← hr6] at hr6l
                have hmin : min (Q.length : Int) 6 = (r6 : Int) := by omega
                have hle6 : r6 ≤ 6 := by omega
                have hrr : r6 ≤ Q.length := by omega
                have hcr : r6 ≤ cap := by omega
                have hcr2 : (r6 : Int) ≤ (cap : Int) := by omega
                have HX6 := Lib.hid hr6l
                clear hr6 hr6l
                have hn1 : Hid (∀ j u, (intsZ Q6)[j]? = some u → w8.cell? (a.add j) = some u) := by
                  intro j u hj
                  have hjl : j < Q6.length := by have := (List.getElem?_eq_some_iff.1 hj).1; simpa [intsZ] using this
                  rw [intsZ_get Q6 j hjl] at hj
                  cases hj
                  have e1 : Q6[j] = Q[j]'(by rw [← HR6L.out] at hjl; omega) := by
                    have := HQ6.out
                    subst this
                    rw [List.getElem_take]
                  rw [e1]
                  exact HCELL.out j _
                have hn2 : Hid (∀ u ∈ intsZ Q6, u.oneCell' = true) := by
                  intro u hu; unfold intsZ at hu; obtain ⟨z, _, rfl⟩ := List.mem_map.1 hu; rfl
                have hn3 : Hid ((intsZ Q6).length = r6 * 1) := by show _ = _; rw [HR6L.out]; simp [intsZ]
                go_wp2_with (at_builtin; refine wpList_append_own _ rfl _ _ 34 rfl w8.heap.size 3 i0 (.int .i64 0) 1 8 Try.underlying34 hi hz0 hz1 hz2 rfl (by decide) (.slice none 0 0) 0 [] rfl (World.ownsRow_nil _ _ _ _) a r6 cap (intsZ Q6) rfl hn3.out hn1.out hn2.out (by unfold maxLen; omega) (by omega) (Nat.le_refl _) ?_; intro v' w1 hown hgrow _; have HOG := Lib.hid (And.intro hown hgrow); clear hown hgrow)
                go_meet
                obtain ⟨hown, hgrow⟩ := HOG.out
                simp only [Nat.zero_add, List.nil_append] at hown
                rw [HR6L.out] at hown
                obtain ⟨_, a', cap', hv, _⟩ := Rd.of_own hown
                exact ⟨_, a', cap', rfl, hv, hown, (Below.refl _ _).grown hgrow (Nat.le_refl _) (fun b hb => by simp [Value.ownBlock] at hb)⟩
            case rest =>
              obtain ⟨w9, aB, cB, rfl, rfl, HOB, HB9⟩ := hcut
              have HLR : Hid (R6.length ≤ 6) := by show _ ≤ _; rw [HR6.out, List.length_take]; omega
              have HLQ : Hid (Q6.length ≤ 6) := by show _ ≤ _; rw [HQ6.out, List.length_take]; omega
              have HOA9 : Hid (w9.ownsRow w7.heap.size 3 1 (.slice aA R6.length cA) R6.length (intsZ R6)) := own_at HOA.out (fun g _ hg => HB9.out.block g hg)
              clear HR6 HQ6 hr hq0 HA7 HQ7 HQ8
              go_upto_region 23 with fail
              go_cut [18, 20] (fun x v wx => ∃ (W : World) (a : Option Addr) (cap : Nat), W = wx ∧ x = .slice aA R6.length cA ∧ v = .slice a R6.length cap ∧ Hid (wx.ownsRow w9.heap.size 3 1 v R6.length (intsZ R6)) ∧ Hid (Below w9.heap.size w9 wx))
              case first =>
                have hn2 : Hid (∀ u ∈ intsZ R6, u.oneCell' = true) := by
                  intro u hu; unfold intsZ at hu; obtain ⟨z, _, rfl⟩ := List.mem_map.1 hu; rfl
                have hn3 : Hid ((intsZ R6).length = R6.length * 1) := by show _ = _; simp [intsZ]
                have hl6 := HLR.out
                rcases HOA9.out.2 with ⟨b1, b2⟩ | ⟨g, cp, cur, b1, b2, b3, b4, b5, b6, b7⟩
                · injection b1 with b11 b12 b13
                  subst b11 b13
                  have h0 : R6 = [] := List.length_eq_zero_iff.1 b12
                  have H0 := Lib.hid h0
                  have hz0' : ((R6.length : Nat) : Int) = 0 := by omega
                  clear b2 h0
                  rw [b12]
                  clear b12
                  go_wp2_with (at_builtin; refine wpList_append_own_none rfl _ _ 34 rfl w9.heap.size 3 i0 1 Try.underlying34 hi _ 0 [] rfl (World.ownsRow_nil _ _ _ _) rfl ?_)
                  go_meet
                  rw [H0.out]
                  exact ⟨_, none, 0, rfl, rfl, rfl, World.ownsRow_nil _ _ _ _, Below.refl _ _⟩
                · injection b1 with b11 b12 b13
                  subst b11 b13
                  have hn1 : Hid (∀ j u, (intsZ R6)[j]? = some u → w9.cell? ((⟨g, 0, none⟩ : Addr).add j) = some u) := by
                    obtain ⟨_, a', cp', hv', _, hcl'⟩ := Rd.of_own HOA9.out
                    injection hv' with hv1 hv2 hv3
                    intro j u hj
                    have hadd : (⟨g, 0, none⟩ : Addr).add j = ⟨g, j, none⟩ := by rw [Go.WideShapes.add_plain, Nat.zero_add]
                    rw [hadd]
                    rcases hcl' with h | ⟨b, h4, h5, h6⟩
                    · rw [List.length_eq_zero_iff.1 h] at hj; simp [intsZ] at hj
                    · rw [h4] at hv1
                      injection hv1 with hv1
                      injection hv1 with hv1
                      rw [hv1]; exact h6 j u hj
                  clear b2 b3 b4 b5 b6 b7
                  go_wp2_with (at_builtin; refine wpList_append_own _ rfl _ _ 34 rfl w9.heap.size 3 i0 (.int .i64 0) 1 8 Try.underlying34 hi hz0 hz1 hz2 rfl (by decide) (.slice none 0 0) 0 [] rfl (World.ownsRow_nil _ _ _ _) ⟨g, 0, none⟩ R6.length cA (intsZ R6) rfl hn3.out hn1.out hn2.out (by unfold maxLen; omega) (by omega) (Nat.le_refl _) ?_; intro v' w1 hown hgrow _; have HOG := Lib.hid (And.intro hown hgrow); clear hown hgrow)
                  go_meet
                  obtain ⟨hown, hgrow⟩ := HOG.out
                  simp only [Nat.zero_add, List.nil_append] at hown
                  obtain ⟨_, a', cap', hv, _⟩ := Rd.of_own hown
                  exact ⟨_, a', cap', rfl, rfl, hv, hown, (Below.refl _ _).grown hgrow (Nat.le_refl _) (fun b hb => by simp [Value.ownBlock] at hb)⟩
              case rest =>
                obtain ⟨w10, aC, cC, rfl, rfl, rfl, HOC, HB10⟩ := hcut
                have HOB10 : Hid (w10.ownsRow w8.heap.size 3 1 (.slice aB Q6.length cB) Q6.length (intsZ Q6)) := own_at HOB.out (fun g _ hg => HB10.out.block g hg)
                go_upto_region 24 with fail
                go_cut [19, 21] (fun x v wx => ∃ (W : World) (a : Option Addr) (cap : Nat), W = wx ∧ x = .slice aB Q6.length cB ∧ v = .slice a Q6.length cap ∧ Hid (wx.ownsRow w10.heap.size 3 1 v Q6.length (intsZ Q6)) ∧ Hid (Below w10.heap.size w10 wx))
                case first =>
                  have hn2 : Hid (∀ u ∈ intsZ Q6, u.oneCell' = true) := by
                    intro u hu; unfold intsZ at hu; obtain ⟨z, _, rfl⟩ := List.mem_map.1 hu; rfl
                  have hn3 : Hid ((intsZ Q6).length = Q6.length * 1) := by show _ = _; simp [intsZ]
                  have hl6 := HLQ.out
                  rcases HOB10.out.2 with ⟨b1, b2⟩ | ⟨g, cp, cur, b1, b2, b3, b4, b5, b6, b7⟩
                  · injection b1 with b11 b12 b13
                    subst b11 b13
                    have h0 : Q6 = [] := List.length_eq_zero_iff.1 b12
                    have H0 := Lib.hid h0
                    have hz0' : ((Q6.length : Nat) : Int) = 0 := by omega
                    clear b2 h0
                    rw [b12]
                    clear b12
                    go_wp2_with (at_builtin; refine wpList_append_own_none rfl _ _ 34 rfl w10.heap.size 3 i0 1 Try.underlying34 hi _ 0 [] rfl (World.ownsRow_nil _ _ _ _) rfl ?_)
                    go_meet
                    rw [H0.out]
                    exact ⟨_, none, 0, rfl, rfl, rfl, World.ownsRow_nil _ _ _ _, Below.refl _ _⟩
                  · injection b1 with b11 b12 b13
                    subst b11 b13
                    have hn1 : Hid (∀ j u, (intsZ Q6)[j]? = some u → w10.cell? ((⟨g, 0, none⟩ : Addr).add j) = some u) := by
                      obtain ⟨_, a', cp', hv', _, hcl'⟩ := Rd.of_own HOB10.out
                      injection hv' with hv1 hv2 hv3
                      intro j u hj
                      have hadd : (⟨g, 0, none⟩ : Addr).add j = ⟨g, j, none⟩ := by rw [Go.WideShapes.add_plain, Nat.zero_add]
                      rw [hadd]
                      rcases hcl' with h | ⟨b, h4, h5, h6⟩
                      · rw [List.length_eq_zero_iff.1 h] at hj; simp [intsZ] at hj
                      · rw [h4] at hv1
                        injection hv1 with hv1
                        injection hv1 with hv1
                        rw [hv1]; exact h6 j u hj
                    clear b2 b3 b4 b5 b6 b7
                    go_wp2_with (at_builtin; refine wpList_append_own _ rfl _ _ 34 rfl w10.heap.size 3 i0 (.int .i64 0) 1 8 Try.underlying34 hi hz0 hz1 hz2 rfl (by decide) (.slice none 0 0) 0 [] rfl (World.ownsRow_nil _ _ _ _) ⟨g, 0, none⟩ Q6.length cB (intsZ Q6) rfl hn3.out hn1.out hn2.out (by unfold maxLen; omega) (by omega) (Nat.le_refl _) ?_; intro v' w1 hown hgrow _; have HOG := Lib.hid (And.intro hown hgrow); clear hown hgrow)
                    go_meet
                    obtain ⟨hown, hgrow⟩ := HOG.out
                    simp only [Nat.zero_add, List.nil_append] at hown
                    obtain ⟨_, a', cap', hv, _⟩ := Rd.of_own hown
                    exact ⟨_, a', cap', rfl, rfl, hv, hown, (Below.refl _ _).grown hgrow (Nat.le_refl _) (fun b hb => by simp [Value.ownBlock] at hb)⟩
                case rest =>
                  obtain ⟨w11, aD, cD, rfl, rfl, rfl, HOD, HB11⟩ := hcut
                  have hrA : Hid (Rd w11 (.slice aA R6.length cA) 1 R6.length (intsZ R6)) := (Rd.of_own HOA9.out).below (HB10.out.trans (HB11.out.mono HB10.out.size)) (Nat.le_refl _)
                  have hrB : Hid (Rd w11 (.slice aB Q6.length cB) 1 Q6.length (intsZ Q6)) := (Rd.of_own HOB10.out).below HB11.out (Nat.le_refl _)
                  have hrC : Hid (Rd w11 (.slice aC R6.length cC) 1 R6.length (intsZ R6)) := (Rd.of_own HOC.out).below HB11.out (Nat.le_refl _)
                  have hrD : Hid (Rd w11 (.slice aD Q6.length cD) 1 Q6.length (intsZ Q6)) := Rd.of_own HOD.out
                  have HW11 : Hid (Below w.heap.size w w11) := HW7.out.trans ((HB8.out.trans ((HB9.out.trans ((HB10.out.trans (HB11.out.mono HB10.out.size)).mono HB9.out.size)).mono HB8.out.size)).mono HW7.out.size)
                  clear HOA HOB HOC HOD HOA9 HOB10 HB8 HB9 HB10 HB11 HW7 HW5
                  go_wp2_with (go_at_call 16; refine (Common_any R6 Q6 _ _ _ hrA hrB (by have := HLQ.out; omega)).mono ?_; rintro e w' ⟨⟨u, rfl⟩, n1, rfl⟩)
                  have hlz22 := HLR.out
                  go_loopw [22] (fun i wx => ∃ (k m : Nat), i = .int .i64 k ∧ k ≤ R6.length ∧ wx = w11.drewN m) (fun i _ => R6.length - (intOf i).toNat)
                  case atStart => exact ⟨0, n1, rfl, by omega, rfl⟩
                  case round =>
                    obtain ⟨k, m, rfl, hk, rfl⟩ := hrel
                    by_cases hlt : k < R6.length
                    · obtain ⟨x, hx⟩ : ∃ x, x = R6[k] := ⟨_, rfl⟩
                      obtain ⟨gX, hgX, cellX⟩ : ∃ g, aA = some ⟨g, 0, none⟩ ∧ w11.cell? ⟨g, k, none⟩ = some (.int .i64 x) := by
                        obtain ⟨_, a, c, h1, _, h3⟩ := hrA.out
                        rcases h3 with h3 | ⟨b, h4, h5, h6⟩
                        · omega
                        · injection h1 with h1
                          exact ⟨b, h1.trans h4, h6 k _ (by rw [intsZ_get R6 k hlt, hx])⟩
                      obtain ⟨gY, hgY, cellY⟩ : ∃ g, aC = some ⟨g, 0, none⟩ ∧ w11.cell? ⟨g, k, none⟩ = some (.int .i64 x) := by
                        obtain ⟨_, a, c, h1, _, h3⟩ := hrC.out
                        rcases h3 with h3 | ⟨b, h4, h5, h6⟩
                        · omega
                        · injection h1 with h1
                          exact ⟨b, h1.trans h4, h6 k _ (by rw [intsZ_get R6 k hlt, hx])⟩
                      subst hgX hgY
                      clear hx
                      go_wp2_with (fail)
                      go_quiet (fail)
                      go_wp2_with (fail)
                      go_roundw
                      case rel => exact ⟨k + 1, _, by go_num, by omega, rfl⟩
                      case measure => simp [intOf]; omega
                    · obtain rfl : k = R6.length := by omega
                      go_wp2_with (fail)
                      have hlz23 := HLQ.out
                      go_loopw [23] (fun i wx => ∃ (k m : Nat), i = .int .i64 k ∧ k ≤ Q6.length ∧ wx = w11.drewN m) (fun i _ => Q6.length - (intOf i).toNat)
                      case atStart => exact ⟨0, m, rfl, by omega, rfl⟩
                      case round =>
                        obtain ⟨k, m, rfl, hk, rfl⟩ := hrel
                        by_cases hlt : k < Q6.length
                        · obtain ⟨x, hx⟩ : ∃ x, x = Q6[k] := ⟨_, rfl⟩
                          obtain ⟨gX, hgX, cellX⟩ : ∃ g, aB = some ⟨g, 0, none⟩ ∧ w11.cell? ⟨g, k, none⟩ = some (.int .i64 x) := by
                            obtain ⟨_, a, c, h1, _, h3⟩ := hrB.out
                            rcases h3 with h3 | ⟨b, h4, h5, h6⟩
                            · omega
                            · injection h1 with h1
                              exact ⟨b, h1.trans h4, h6 k _ (by rw [intsZ_get Q6 k hlt, hx])⟩
                          obtain ⟨gY, hgY, cellY⟩ : ∃ g, aD = some ⟨g, 0, none⟩ ∧ w11.cell? ⟨g, k, none⟩ = some (.int .i64 x) := by
                            obtain ⟨_, a, c, h1, _, h3⟩ := hrD.out
                            rcases h3 with h3 | ⟨b, h4, h5, h6⟩
                            · omega
                            · injection h1 with h1
                              exact ⟨b, h1.trans h4, h6 k _ (by rw [intsZ_get Q6 k hlt, hx])⟩
                          subst hgX hgY
                          clear hx
                          go_wp2_with (fail)
                          go_quiet (fail)
                          go_wp2_with (fail)
                          go_roundw
                          case rel => exact ⟨k + 1, _, by go_num, by omega, rfl⟩
                          case measure => simp [intOf]; omega
                        · obtain rfl : k = Q6.length := by omega
                          go_wp2_with (fail)
                          try (go_at_call 9)
                          refine (awake_is _).mono ?_
                          rintro e w20 ⟨rfl, hB20⟩
                          have HB20 := Lib.hid hB20
                          clear hB20
                          go_wp2_with (fail)
                          go_ret
                          have h20 := below_drewN HW11.out m
                          exact ⟨rfl, h20.trans (HB20.out.mono h20.size)⟩

set_option maxRecDepth 100000 in
theorem lifted (os : Os) (started : os.Started) (H : Type) (enc : TypeId × Value → H) :
    ReturnsInHanded {} Try.checked os 5 .any (Rows.primeOwnSpec.pre6 enc Try.prog Try.f5 Rows.primeOwnRow.domain false) (Rows.primeOwnSpec.post enc Try.prog Try.f5 false true false false) := by
  refine returnsInHanded_of_change (C := Try.checked) own started (by kernel_rfl) Try.func5
    (ChangeSpec.witness6 (enc := enc) (C := Try.checked) false ⟨#[], #[.int .i64 0, .slice none 0 0, .slice none 0 0], []⟩ 8 (by kernel_rfl) (by kernel_rfl) (by kernel_rfl) (by kernel_rfl)) ?_
  intro W base args ds gs before hval0 hW hcnd _
  have hval : ∀ (j : Nat) t v, Try.f5.params[j]? = some t → args[j]? = some v → Value.okWide Try.prog W .any base t v := hval0
  have hW' := hW
  obtain ⟨p, q, hA0, hV, rfl, hfz, hnd⟩ := hW
  have hA : DataW.TrodAll enc Try.prog W 0 (fun _ => true) true Try.f5.params.toList args.toList ds p := hA0
  rw [Try.params5] at hA hval
  obtain ⟨v0, vs0, d0, ds0, p0, q0, hargs, rfl, rfl, h0, r0⟩ := trodAll_cons hA
  obtain ⟨v1, vs1, d1, ds1, p1, q1, rfl, rfl, rfl, h1, r1⟩ := trodAll_cons r0
  obtain ⟨v2, vs2, d2, ds2, p2, q2, rfl, rfl, rfl, h2, r2⟩ := trodAll_cons r1
  obtain ⟨rfl, rfl, rfl⟩ := trodAll_nil r2
  obtain rfl : args = #[v0, v1, v2] := by cases args; simp_all
  obtain ⟨rfl, rfl⟩ := trodVars_none hV
  have hlt := hW'.lt
  obtain ⟨a0, rfl, rfl, rfl, w0⟩ := open_int Try.underlying3 (hval 0 3 v0 rfl rfl) h0
  obtain ⟨Z1, hZ1⟩ := argI_of (hval 1 34 v1 rfl rfl) h1
  obtain ⟨Z2, hZ2⟩ := argI_of (hval 2 34 v2 rfl rfl) h2
  clear hA0 hval0
  simp only [List.append_nil] at hW'
  refine (walk a0 _ _ Z1 Z2 W hZ1 hZ2).mono fun e W' ⟨he, hg⟩ => ?_
  subst he
  exact ⟨_, rfl, _, _, _, [], [] ++ (p1 ++ (p2 ++ ([]))), [], hW', trodAll_cons_mk (shut_bool Try.underlying4 _) trodAll_mk0, trodAll_cons_mk (shut_int Try.underlying3 w0) (trodAll_cons_mk (Below.trod (by kernel_rfl) (by kernel_rfl) (by decide +kernel) h1 hg (fun x hx => hlt x (by simp [hx]))) (trodAll_cons_mk (Below.trod (by kernel_rfl) (by kernel_rfl) (by decide +kernel) h2 hg (fun x hx => hlt x (by simp [hx]))) trodAll_mk0)), rfl, hg.frame _, fun h => by cases h⟩

theorem over : Rows.primeOwnRow.holds Try.pinned (OpenSpec.ofChange Rows.primeOwnSpec) :=
  OpenClaim.holds_of_wide 5 Try.f5 rfl rfl rfl rfl rfl rfl rfl ⟨rfl, rfl, rfl, rfl, rfl⟩ rfl rfl rfl rfl rfl (by kernel_rfl) Try.func5 (by kernel_rfl)
    (of_decide_eq_true (by kernel_rfl)) (by unfold Func.isWrapper; first | (rw [if_pos (by decide +kernel)]; kernel_rfl) | (rw [if_neg (by decide +kernel)]; exact ⟨rfl, rfl⟩))
    (fun os started H enc _ => lifted os started H enc)

theorem proved : Rows.PrimeOwnSaid := over

end Go.Proofs.Ytldfbadcigdbkaa.primeOwn
