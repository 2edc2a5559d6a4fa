/- A polynomial that is a product of different linear factors has exactly these roots, and Factor returns the linear factors. No condition. -/
import Derived.Test.YtgnpohapmijfiaaG15
import Derived.Test.YtgnpohapmijfiaaG13
import Derived.Test.YtgnpohapmijfiaaG11
import Derived.Test.YtgnpohapmijfiaaG16
import Derived.ProofKit
import Derived.OpenShut
namespace Go.Proofs.Ytgnpohapmijfiaa.polyRoots
open Go.ChangeShapes Go.WideShapes Go.ChangeAt Go.RowKit

theorem own : ownKnob Try.prog.godebug = none := by kernel_rfl


def DedY (x : Nat) (rs : List Nat) (y : Int) (k : Nat) : Prop := (y = (x : Int) ∧ ∀ j, j < k → rs.getD j 0 ≠ x) ∨ (y = -1 ∧ x ∈ rs)
set_option maxRecDepth 100000 in
set_option maxHeartbeats 8000000 in
theorem walk (p : Int) (v : Value) (Z : List Int) (w : World) (hv : Hid (ArgI w v Z)) :
    Calls Try.prog 14 #[.int .i64 p, v] w fun e w' => e = .returned (.bool true) ∧ Below w.heap.size w w' := by
  obtain ⟨a1, len, cap1, hv1, hlen, hcapl, HC1⟩ : ∃ (a1 : Option Addr) (len cap1 : Nat), v = .slice a1 len cap1 ∧ len = Z.length ∧ len ≤ cap1 ∧ Hid (∀ i (hi : i < Z.length), ∃ b off, a1 = some ⟨b, off, none⟩ ∧ b < w.heap.size ∧ w.cell? ⟨b, off + i, none⟩ = some (.int .i64 Z[i])) := by
    rcases hv.out.plain with ⟨rfl, a, cap, h⟩ | ⟨b, off, cap, h1, h2, h3, h4⟩
    · exact ⟨a, 0, cap, h, rfl, Nat.zero_le _, fun i hi => by simp at hi⟩
    · exact ⟨_, _, _, h1, rfl, h2, fun i hi => ⟨b, off, rfl, h3, h4 i hi⟩⟩
  subst hv1
  have hmaxl : len ≤ 9223372036854775807 := by rw [hlen]; exact hv.out.1
  clear hv
  have HLEN := Lib.hid hlen
  clear hlen
  obtain ⟨i0, hi0, hz0, hz1, hz2⟩ := info_parts Try.infoZ
  have HN0 : Hid (NewL w (w.alloc (.cells #[.int .i64 1] 3)) (.slice (some ⟨w.heap.size, 0, none⟩) 1 1) [1]) := lit1_own w 1
  have HB0 : Hid (Below w.heap.size w (w.alloc (.cells #[.int .i64 1] 3))) := (Below.refl _ _).alloc (Nat.le_refl _) _
  go_enter Try.func14, Try.ntmps14
  go_wp2_with (fail)
  refine (field_is p w).mono ?_
  rintro e wz ⟨⟨q, rfl, hP0, hq⟩, hw⟩
  subst hw
  have HP := Lib.hid hP0
  have hp2 : 2 ≤ q := hP0.1
  clear hP0
  go_wp2_with (fail)
  go_loopw [5, 6, 7] (fun fv rv iv wx => ∃ (i m cp1 cp2 fb : Nat) (b : Option Addr) (rs : List Nat) (r : Nat), fv = .slice (some ⟨fb, 0, none⟩) m cp1 ∧ rv = .slice b r cp2 ∧ iv = .int .i64 i ∧ i ≤ len ∧ r ≤ 12 ∧ Hid (r = rs.length) ∧ Hid (m = (Q.rootF q rs).length) ∧ Hid (NewL w wx (.slice (some ⟨fb, 0, none⟩) m cp1) (Q.rootF q rs)) ∧ Hid (NewL w wx (.slice b r cp2) rs) ∧ Hid (Below w.heap.size w wx) ∧ Hid ((Value.slice b r cp2).ownBlock ≠ some fb) ∧ Hid (rs.Nodup ∧ ∀ y ∈ rs, y < q)) (fun _ _ iv _ => len - (intOf iv).toNat)
  case atStart => exact ⟨0, 1, 1, 0, _, none, [], 0, rfl, rfl, rfl, by omega, by omega, rfl, rfl, HN0, NewL.nil _ _, HB0, fun e => by simp [Value.ownBlock] at e, ⟨List.nodup_nil, fun y hy => by simp at hy⟩⟩
  case round =>
    obtain ⟨i, m, cp1, cp2, fb, b, rs, r, rfl, rfl, rfl, hi, hr, HR, HM, HNF, HNR, HB, HNE, HND⟩ := hrel
    by_cases hlt : i < len
    · by_cases hr12 : r < 12
      · obtain ⟨zb, off, hza, hzb, hzc⟩ := HC1.out i (by have := HLEN.out; omega)
        subst hza
        have c1' : wr.cell? ⟨zb, off + i, none⟩ = some (.int .i64 (Z[i]'(by have := HLEN.out; omega))) := by rw [HB.out.cell (p := ⟨zb, off + i, none⟩) hzb]; exact hzc
        obtain ⟨zi, hzi⟩ : ∃ zi, zi = Z[i]'(by have := HLEN.out; omega) := ⟨_, rfl⟩
        rw [← hzi] at c1'
        have hbd := modv_bd zi q (by omega)
        obtain ⟨x, hx⟩ := Int.eq_ofNat_of_zero_le hbd.1
        rw [hx] at hbd
        have hxq : x < q := by omega
        have HXM := Lib.hid hx
        have hge : decide ((0 : Int) ≤ (x : Int)) = true := by simp
        have HY0 : Hid (DedY x rs x 0) := .inl ⟨rfl, fun j hj => by omega⟩
        clear hzc hzi hx hbd
        go_wp2_with (fail)
        refine (mod_is zi q _ (by omega) (by omega)).mono ?_
        rintro e w' ⟨rfl, rfl⟩
        rw [HXM.out]
        go_wp2_with (fail)
        go_loop [8, 9] (fun xv kv => ∃ (k : Nat) (y : Int), xv = .int .i64 y ∧ kv = .int .i64 k ∧ k ≤ r ∧ Hid (DedY x rs y k)) (fun _ kv => r - (intOf kv).toNat)
        case atStart => exact ⟨0, x, rfl, rfl, by omega, HY0⟩
        case round =>
          obtain ⟨k, y, rfl, rfl, hk, HY⟩ := hrel
          rcases HY.out with ⟨hyx, hne⟩ | ⟨hyx, hin⟩
          · subst hyx
            by_cases hkr : k < r
            · have hkl : k < rs.length := by have := HR.out; omega
              obtain ⟨bb, hbb, _, hcell⟩ := HNR.out.rd.at k hkl
              subst hbb
              obtain ⟨y, hy⟩ : ∃ y, y = rs.getD k 0 := ⟨_, rfl⟩
              rw [← hy] at hcell
              have HNEE := Lib.hid hne
              have hym : y ∈ rs := by rw [hy, Q.getD_get hkl]; exact List.getElem_mem hkl
              by_cases hyx : y = x
              · have ht : ((y : Int) == (x : Int)) = true := by simp [hyx]
                have HY2 : Hid (DedY x rs (-1) (k + 1)) := .inr ⟨rfl, hyx ▸ hym⟩
                clear hyx hy hym hne HY hkl
                go_wp2_with (fail)
                go_round
                case rel => exact ⟨k + 1, -1, rfl, by go_num, by omega, HY2⟩
                case measure => simp [intOf]; omega
              · have ht : ((y : Int) == (x : Int)) = false := by simp; omega
                have HY2 : Hid (DedY x rs x (k + 1)) := .inl ⟨rfl, fun j hj => by
                  by_cases e : j = k
                  · rw [e, ← hy]; exact hyx
                  · exact HNEE.out j (by omega)⟩
                clear hyx hy hym hne HY hkl
                go_wp2_with (fail)
                go_round
                case rel => exact ⟨k + 1, x, rfl, by go_num, by omega, HY2⟩
                case measure => simp [intOf]; omega
            · have hkr2 : k = r := by omega
              subst hkr2
              obtain ⟨r, hrk⟩ : ∃ r, r = k := ⟨_, rfl⟩
              subst hrk
              have HNIN : Hid (x ∉ rs) := fun hin => by
                obtain ⟨j, hj, e⟩ := List.getElem_of_mem hin
                exact hne j (by have := HR.out; omega) (by rw [Q.getD_get hj]; exact e)
              clear hne HY
              have HOWN : Hid (wr.ownsRow w.heap.size 3 1 (.slice b r cp2) r (nats rs)) := by show World.ownsRow _ _ _ _ _ _ _; have h := HNR.out; unfold NewL at h; rw [← HR.out] at h; exact h
              have hneg : decide ((x : Int) < 0) = false := by rw [decide_eq_false_iff_not]; omega
              obtain ⟨z, hz⟩ : ∃ z, z = (q - x) % q := ⟨_, rfl⟩
              have hsub : ((q : Int) - (x : Int)) % (q : Int) = (z : Int) := by
                have h : (q : Int) - (x : Int) = ((q - x : Nat) : Int) := by omega
                rw [h, hz]; rfl
              have HZ := Lib.hid hz
              have HLIN : Hid (Q.lin q x = [z, 1]) := by show _ = _; rw [Q.lin, hz]
              have hzq : ((q : Int) == 0) = false := by simp; omega
              have hcpr := own_form HOWN.out
              have hr11 : r ≤ 11 := by omega
              clear hz hcpr
              go_wp2_with (at_builtin; refine wpList_append_own _ rfl _ _ 22 rfl w.heap.size 3 i0 (.int .i64 0) 1 8 Try.underlying22 hi0 hz0 hz1 hz2 rfl (by decide) _ _ _ rfl (HOWN.out.alloc _) ⟨wr.heap.size, 0, none⟩ 1 1 [.int .i64 x] rfl rfl ?c1 ?c2 ?c3 ?c4 ?c5 ?_)
              try (case c1 => exact cell_one_new _ _ _)
              try (case c2 => first | (intro u hu; simp at hu; rw [hu]; rfl) | rfl | simp [Value.oneCell'])
              try (case c3 => first | (unfold maxLen; omega) | omega)
              try (case c4 => omega)
              try (case c5 => have := HB.out.size; simp; omega)
              intro v' w3 hown3 hgrow3 _
              have HS4 : Hid (LSt w w3 v' (rs ++ [x])) := LSt.push ⟨HNR.out, HB.out⟩ (by rw [HR.out]) hown3 hgrow3
              have hBa : Below wr.heap.size wr (wr.alloc (.cells #[.int .i64 (x : Int)] 3)) := (Below.refl _ _).alloc (Nat.le_refl _) _
              have HF3 : Hid (NewL w w3 (.slice (some ⟨fb, 0, none⟩) m cp1) (Q.rootF q rs)) := World.ownsRow.kept (own_kept HNF.out hBa) hgrow3 (.inr fun e => HNE.out e.symm)
              obtain ⟨f, hf⟩ : ∃ f, f = Q.rootF q rs := ⟨_, rfl⟩
              rw [← hf] at HF3
              have HRI : Hid (Q.RootsIs q rs f) := by rw [hf]; exact Q.rootF_is HP.out rs
              have HPF : Hid (Q.Pol q f) := HRI.out.pol
              have hfl : f.length ≤ 12 := by rw [HRI.out.len, ← HR.out]; omega
              have hf0 : f.length ≠ 0 := HRI.out.mon.1
              have HPL : Hid (Q.Pol q [z, 1]) := by show Q.Pol _ _; rw [← HLIN.out]; exact Q.pol_lin (by omega) x
              have HFE := Lib.hid hf
              obtain ⟨b4, cap4, hv4, _⟩ := HS4.out.shape
              rw [List.length_append, ← HR.out, show ([x] : List Nat).length = 1 from rfl] at hv4
              subst hv4
              have hBl : Below w3.heap.size w3 (w3.alloc (.cells #[.int .i64 (z : Int), .int .i64 1] 3)) := (Below.refl _ _).alloc (Nat.le_refl _) _
              have HBL := Lib.hid hBl
              have HRF3 : Hid (Rd (w3.alloc (.cells #[.int .i64 (z : Int), .int .i64 1] 3)) (.slice (some ⟨fb, 0, none⟩) m cp1) 1 f.length (nats f)) := HF3.out.rd.below hBl (Nat.le_refl _)
              have HRL3 : Hid (Rd (w3.alloc (.cells #[.int .i64 (z : Int), .int .i64 1] 3)) (.slice (some ⟨w3.heap.size, 0, none⟩) 2 2) 1 [z, 1].length (nats [z, 1])) := lit2 w3 z 1 3
              clear hown3 hgrow3 hBa hf HNF HNR HOWN HM hBl HNE
              go_wp2_with (fail)
              refine (Mul_ok q f [z, 1] _ _ _ HP hq HRF3 HRL3 HPF HPL (by omega) (by simp) (by rw [Q.prod_length hf0 (by simp)]; simp; omega)).mono ?_
              rintro e w5 ⟨⟨v5, rfl, hN5⟩, hB5⟩
              have hpe : Q.prodP' q f [z, 1] = Q.rootF q (rs ++ [x]) := by rw [Q.rootF_push, HLIN.out, HFE.out]
              rw [hpe] at hN5
              have HB35 : Hid (Below w3.heap.size w3 w5) := HBL.out.trans (hB5.mono HBL.out.size)
              have HBW5 : Hid (Below w.heap.size w w5) := HS4.out.2.trans (HB35.out.mono HS4.out.2.size)
              have HNF5 : Hid (NewL w w5 v5 (Q.rootF q (rs ++ [x]))) := hN5.from (Nat.le_trans HS4.out.2.size HBL.out.size)
              have HNR5 : Hid (NewL w w5 (.slice b4 (r + 1) cap4) (rs ++ [x])) := HS4.out.1.keep HB35.out
              obtain ⟨a5, cp5, hv5⟩ := hN5.rd.shape
              subst hv5
              obtain ⟨m5, hm5⟩ : ∃ m5, m5 = (Q.rootF q (rs ++ [x])).length := ⟨_, rfl⟩
              rw [← hm5] at HNF5 hN5 ⊢
              have hm50 : 0 < m5 := by rw [hm5, (Q.rootF_is HP.out (rs ++ [x])).len]; omega
              obtain ⟨g, hg, hg1, _⟩ := own_cells (L := Q.rootF q (rs ++ [x])) (by have h := hN5; unfold NewL at h; rw [← hm5] at h; exact h) hm50
              subst hg
              have HNE5 : Hid ((Value.slice b4 (r + 1) cap4).ownBlock ≠ some g) := fun e => by
                have h1 := (World.ownsRow.lt HS4.out.1 g e).2
                have h2 := HBL.out.size
                have h3 : w3.heap.size ≤ (w3.alloc (.cells #[.int .i64 (z : Int), .int .i64 1] 3)).heap.size := h2
                omega
              have HR5 : Hid (r + 1 = (rs ++ [x]).length) := by show _ = _; rw [List.length_append, ← HR.out]; rfl
              have HND5 : Hid ((rs ++ [x]).Nodup ∧ ∀ y ∈ rs ++ [x], y < q) := by
                refine ⟨List.nodup_append.2 ⟨HND.out.1, by simp, fun a ha c hc e => ?_⟩, fun y hy => ?_⟩
                · simp at hc; subst hc; subst e; exact HNIN.out ha
                · rcases List.mem_append.1 hy with h | h
                  · exact HND.out.2 y h
                  · simp at h; omega
              have HM5 := Lib.hid hm5
              clear hN5 hB5 hpe hm5 hm50
              go_wp2_with (fail)
              go_roundw
              case rel => exact ⟨i + 1, m5, cp5, cap4, g, b4, rs ++ [x], r + 1, rfl, by first | rfl | go_num, by go_num, by omega, by omega, HR5, HM5, HNF5, HNR5, HBW5, HNE5, HND5⟩
              case measure => simp [intOf]; omega
          · subst hyx
            clear HY
            by_cases hkr : k < r
            · go_wp2_with (fail)
              go_roundw
              case rel => exact ⟨i + 1, m, cp1, cp2, fb, b, rs, r, rfl, rfl, by go_num, by omega, by omega, HR, HM, HNF, HNR, HB, HNE, HND⟩
              case measure => simp [intOf]; omega
            · go_wp2_with (fail)
              go_roundw
              case rel => exact ⟨i + 1, m, cp1, cp2, fb, b, rs, r, rfl, rfl, by go_num, by omega, by omega, HR, HM, HNF, HNR, HB, HNE, HND⟩
              case measure => simp [intOf]; omega
      · have hr12' : ¬ ((r : Int) < 12) := by omega
        obtain ⟨f, hf⟩ : ∃ f, f = Q.rootF q rs := ⟨_, rfl⟩
        rw [← hf] at HNF HM
        have HRI : Hid (Q.RootsIs q rs f) := by rw [hf]; exact Q.rootF_is HP.out rs
        have HPF : Hid (Q.Pol q f) := HRI.out.pol
        have hfl : f.length ≤ 13 := by rw [HRI.out.len, ← HR.out]; omega
        have hf0 : f.length ≠ 0 := HRI.out.mon.1
        have HRF : Hid (Rd wr (.slice (some ⟨fb, 0, none⟩) m cp1) 1 f.length (nats f)) := HNF.out.rd
        have HRR : Hid (Rd wr (.slice b r cp2) 1 rs.length (nats rs)) := HNR.out.rd
        have HC1 : Hid (f.getD (f.length - 1) 0 = 1) := HRI.out.mon.2
        clear hf HNF HNR HNE HM
        go_wp2_with (fail)
        refine (Factor_ok q f _ _ HP hq HRF HPF (by omega) hf0).mono ?_
        rintro e w1 ⟨v1, L, fin, rfl, hF, hfin, hperm, hs⟩
        rw [HC1.out]
        have HB1 := Lib.hid (HB.out.trans (hF.below.mono HB.out.size))
        have HRF1 : Hid (Rd w1 (.slice (some ⟨fb, 0, none⟩) m cp1) 1 f.length (nats f)) := HRF.out.below hF.below (Nat.le_refl _)
        have HRR1 : Hid (Rd w1 (.slice b r cp2) 1 rs.length (nats rs)) := HRR.out.below hF.below (Nat.le_refl _)
        obtain ⟨l, hl⟩ := Q.facL_of HP.out HPF.out hf0 (by omega) hfin hperm hs
        have hfac := HRI.out.fac HP.out HND.out.1 HND.out.2 hl
        rw [strip_len] at hfac
        have hr1 := RdFac.of hF
        obtain ⟨bl, dl, hvl, hdl⟩ := hr1.shape
        subst hvl
        have hLr : L.length = r := by rw [hfac.1]; exact HR.out.symm
        have HLR := Lib.hid hLr
        rw [hLr] at hr1 hdl ⊢
        have HFL := Lib.hid hr1
        have HX : Hid (∀ k (h : k < L.length), L[k].2.1.length = 2 ∧ L[k].2.2 = 1) := fun k h => by
          have := hfac.2 _ (List.getElem_mem (show k < (strip L).length by rw [strip_len]; exact h))
          rw [strip_get L k h] at this; exact this
        clear hF hfin hperm hs hl hfac hr1 hLr HRF HRR
        go_wp2_with (fail)
        go_loop [15] (fun iv => ∃ (k : Nat), iv = .int .i64 k ∧ k ≤ r) (fun iv => r - (intOf iv).toNat)
        case atStart => exact ⟨0, rfl, by omega⟩
        case round =>
          obtain ⟨k, rfl, hk⟩ := hrel
          by_cases hkr : k < r
          · have hkL : k < L.length := by have := HLR.out; omega
            obtain ⟨bb, xx, cx, hh⟩ := HFL.out.at k hkL
            obtain rfl := hh.eq
            have c0 := hh.c0
            have c1 := hh.c1
            rw [(HX.out k hkL).1] at c0
            rw [(HX.out k hkL).2] at c1
            clear hh
            go_wp2_with (fail)
            go_round
            case rel => exact ⟨k + 1, by go_num, by omega⟩
            case measure => simp [intOf]; omega
          · obtain rfl : k = r := by omega
            go_wp2_with (fail)
            go_loopw [16] (fun iv wx => ∃ (j : Nat), iv = .int .i64 j ∧ j ≤ k ∧ Hid (Below w1.heap.size w1 wx)) (fun iv _ => k - (intOf iv).toNat)
            case atStart => exact ⟨0, rfl, by omega, Below.refl _ _⟩
            case round =>
              obtain ⟨j, rfl, hj, HBj⟩ := hrel
              have HBZ := Lib.hid (HB1.out.trans (HBj.out.mono HB1.out.size))
              by_cases hjk : j < k
              · have hjr : j < rs.length := by have := HR.out; omega
                have HRF2 : Hid (Rd wr (.slice (some ⟨fb, 0, none⟩) m cp1) 1 f.length (nats f)) := HRF1.out.below HBj.out (Nat.le_refl _)
                have hrr := HRR1.out.below HBj.out (Nat.le_refl _)
                obtain ⟨bb, hbb, _, hcell⟩ := hrr.at j hjr
                subst hbb
                obtain ⟨y, hy⟩ : ∃ y, y = rs.getD j 0 := ⟨_, rfl⟩
                rw [← hy] at hcell
                have hym : y ∈ rs := by rw [hy, Q.getD_get hjr]; exact List.getElem_mem hjr
                have hyq : y < q := HND.out.2 y hym
                have HV0 : Hid (Q.valP q f y = 0) := HRI.out.zero HP.out hym hyq
                clear hrr hy hym hjr
                go_wp2_with (fail)
                refine (Value_ok q y f _ _ HP hq hyq HRF2 HPF (by omega)).mono ?_
                rintro e w3 ⟨rfl, hB⟩
                rw [HV0.out]
                have HB3 := Lib.hid (HBj.out.trans (hB.mono HBj.out.size))
                clear hB
                go_wp2_with (fail)
                go_roundw
                case rel => exact ⟨j + 1, by go_num, by omega, HB3⟩
                case measure => simp [intOf]; omega
              · obtain rfl : j = k := by omega
                go_wp2_with (fail)
                refine (awake_is _).mono ?_
                rintro e w9 ⟨rfl, hB⟩
                have HB99 := Lib.hid (HBZ.out.trans (hB.mono HBZ.out.size))
                clear hB
                go_wp2_with (fail)
                go_ret
                exact ⟨rfl, HB99.out⟩
    · have hlt' : ¬ ((i : Int) < (len : Int)) := by omega
      obtain ⟨f, hf⟩ : ∃ f, f = Q.rootF q rs := ⟨_, rfl⟩
      rw [← hf] at HNF HM
      have HRI : Hid (Q.RootsIs q rs f) := by rw [hf]; exact Q.rootF_is HP.out rs
      have HPF : Hid (Q.Pol q f) := HRI.out.pol
      have hfl : f.length ≤ 13 := by rw [HRI.out.len, ← HR.out]; omega
      have hf0 : f.length ≠ 0 := HRI.out.mon.1
      have HRF : Hid (Rd wr (.slice (some ⟨fb, 0, none⟩) m cp1) 1 f.length (nats f)) := HNF.out.rd
      have HRR : Hid (Rd wr (.slice b r cp2) 1 rs.length (nats rs)) := HNR.out.rd
      have HC1 : Hid (f.getD (f.length - 1) 0 = 1) := HRI.out.mon.2
      clear hf HNF HNR HNE HM
      go_wp2_with (fail)
      refine (Factor_ok q f _ _ HP hq HRF HPF (by omega) hf0).mono ?_
      rintro e w1 ⟨v1, L, fin, rfl, hF, hfin, hperm, hs⟩
      rw [HC1.out]
      have HB1 := Lib.hid (HB.out.trans (hF.below.mono HB.out.size))
      have HRF1 : Hid (Rd w1 (.slice (some ⟨fb, 0, none⟩) m cp1) 1 f.length (nats f)) := HRF.out.below hF.below (Nat.le_refl _)
      have HRR1 : Hid (Rd w1 (.slice b r cp2) 1 rs.length (nats rs)) := HRR.out.below hF.below (Nat.le_refl _)
      obtain ⟨l, hl⟩ := Q.facL_of HP.out HPF.out hf0 (by omega) hfin hperm hs
      have hfac := HRI.out.fac HP.out HND.out.1 HND.out.2 hl
      rw [strip_len] at hfac
      have hr1 := RdFac.of hF
      obtain ⟨bl, dl, hvl, hdl⟩ := hr1.shape
      subst hvl
      have hLr : L.length = r := by rw [hfac.1]; exact HR.out.symm
      have HLR := Lib.hid hLr
      rw [hLr] at hr1 hdl ⊢
      have HFL := Lib.hid hr1
      have HX : Hid (∀ k (h : k < L.length), L[k].2.1.length = 2 ∧ L[k].2.2 = 1) := fun k h => by
        have := hfac.2 _ (List.getElem_mem (show k < (strip L).length by rw [strip_len]; exact h))
        rw [strip_get L k h] at this; exact this
      clear hF hfin hperm hs hl hfac hr1 hLr HRF HRR
      go_wp2_with (fail)
      go_loop [15] (fun iv => ∃ (k : Nat), iv = .int .i64 k ∧ k ≤ r) (fun iv => r - (intOf iv).toNat)
      case atStart => exact ⟨0, rfl, by omega⟩
      case round =>
        obtain ⟨k, rfl, hk⟩ := hrel
        by_cases hkr : k < r
        · have hkL : k < L.length := by have := HLR.out; omega
          obtain ⟨bb, xx, cx, hh⟩ := HFL.out.at k hkL
          obtain rfl := hh.eq
          have c0 := hh.c0
          have c1 := hh.c1
          rw [(HX.out k hkL).1] at c0
          rw [(HX.out k hkL).2] at c1
          clear hh
          go_wp2_with (fail)
          go_round
          case rel => exact ⟨k + 1, by go_num, by omega⟩
          case measure => simp [intOf]; omega
        · obtain rfl : k = r := by omega
          go_wp2_with (fail)
          go_loopw [16] (fun iv wx => ∃ (j : Nat), iv = .int .i64 j ∧ j ≤ k ∧ Hid (Below w1.heap.size w1 wx)) (fun iv _ => k - (intOf iv).toNat)
          case atStart => exact ⟨0, rfl, by omega, Below.refl _ _⟩
          case round =>
            obtain ⟨j, rfl, hj, HBj⟩ := hrel
            have HBZ := Lib.hid (HB1.out.trans (HBj.out.mono HB1.out.size))
            by_cases hjk : j < k
            · have hjr : j < rs.length := by have := HR.out; omega
              have HRF2 : Hid (Rd wr (.slice (some ⟨fb, 0, none⟩) m cp1) 1 f.length (nats f)) := HRF1.out.below HBj.out (Nat.le_refl _)
              have hrr := HRR1.out.below HBj.out (Nat.le_refl _)
              obtain ⟨bb, hbb, _, hcell⟩ := hrr.at j hjr
              subst hbb
              obtain ⟨y, hy⟩ : ∃ y, y = rs.getD j 0 := ⟨_, rfl⟩
              rw [← hy] at hcell
              have hym : y ∈ rs := by rw [hy, Q.getD_get hjr]; exact List.getElem_mem hjr
              have hyq : y < q := HND.out.2 y hym
              have HV0 : Hid (Q.valP q f y = 0) := HRI.out.zero HP.out hym hyq
              clear hrr hy hym hjr
              go_wp2_with (fail)
              refine (Value_ok q y f _ _ HP hq hyq HRF2 HPF (by omega)).mono ?_
              rintro e w3 ⟨rfl, hB⟩
              rw [HV0.out]
              have HB3 := Lib.hid (HBj.out.trans (hB.mono HBj.out.size))
              clear hB
              go_wp2_with (fail)
              go_roundw
              case rel => exact ⟨j + 1, by go_num, by omega, HB3⟩
              case measure => simp [intOf]; omega
            · obtain rfl : j = k := by omega
              go_wp2_with (fail)
              refine (awake_is _).mono ?_
              rintro e w9 ⟨rfl, hB⟩
              have HB99 := Lib.hid (HBZ.out.trans (hB.mono HBZ.out.size))
              clear hB
              go_wp2_with (fail)
              go_ret
              exact ⟨rfl, HB99.out⟩


set_option maxRecDepth 100000 in
theorem lifted (os : Os) (started : os.Started) (H : Type) (enc : TypeId × Value → H) :
    ReturnsInHanded {} Try.checked os 14 .any (Rows.polyRootsSpec.pre6 enc Try.prog Try.f14 Rows.polyRootsRow.domain false) (Rows.polyRootsSpec.post enc Try.prog Try.f14 false true false false) := by
  refine returnsInHanded_of_change (C := Try.checked) own started (by kernel_rfl) Try.func14
    (ChangeSpec.witness6 (enc := enc) (C := Try.checked) false ⟨#[], #[.int .i64 0, .slice none 0 0], []⟩ 8 (by kernel_rfl) (by kernel_rfl) (by kernel_rfl) (by kernel_rfl)) ?_
  intro W base args ds gs before hval0 hW hcnd _
  have hval : ∀ (j : Nat) t v, Try.f14.params[j]? = some t → args[j]? = some v → Value.okWide Try.prog W .any base t v := hval0
  have hW' := hW
  obtain ⟨p, q, hA0, hV, rfl, hfz, hnd⟩ := hW
  have hA : DataW.TrodAll enc Try.prog W 0 (fun _ => true) true Try.f14.params.toList args.toList ds p := hA0
  rw [Try.params14] at hA hval
  obtain ⟨v0, vs0, d0, ds0, p0, q0, hargs, rfl, rfl, h0, r0⟩ := trodAll_cons hA
  obtain ⟨v1, vs1, d1, ds1, p1, q1, rfl, rfl, rfl, h1, r1⟩ := trodAll_cons r0
  obtain ⟨rfl, rfl, rfl⟩ := trodAll_nil r1
  obtain rfl : args = #[v0, v1] := by cases args; simp_all
  obtain ⟨rfl, rfl⟩ := trodVars_none hV
  have hlt := hW'.lt
  obtain ⟨a0, rfl, rfl, rfl, w0⟩ := open_int Try.underlying3 (hval 0 3 v0 rfl rfl) h0
  obtain ⟨Z1, hZ1⟩ := argI_of (hval 1 22 v1 rfl rfl) h1
  clear hA0 hval0
  simp only [List.append_nil] at hW'
  refine (walk a0 v1 Z1 W hZ1).mono fun e W' ⟨he, hg⟩ => ?_
  subst he
  exact ⟨_, rfl, _, _, _, [], [] ++ (p1 ++ ([])), [], hW', trodAll_cons_mk (shut_bool Try.underlying4 _) trodAll_mk0, trodAll_cons_mk (shut_int Try.underlying3 w0) (trodAll_cons_mk (Below.trod (by kernel_rfl) (by kernel_rfl) (by decide +kernel) h1 hg (fun x hx => hlt x (by simp [hx]))) trodAll_mk0), rfl, hg.frame _, fun h => by cases h⟩

theorem over : Rows.polyRootsRow.holds Try.pinned (OpenSpec.ofChange Rows.polyRootsSpec) :=
  OpenClaim.holds_of_wide 14 Try.f14 rfl rfl rfl rfl rfl rfl rfl ⟨rfl, rfl, rfl, rfl, rfl⟩ rfl rfl rfl rfl rfl (by kernel_rfl) Try.func14 (by kernel_rfl)
    (of_decide_eq_true (by kernel_rfl)) (by unfold Func.isWrapper; first | (rw [if_pos (by decide +kernel)]; kernel_rfl) | (rw [if_neg (by decide +kernel)]; exact ⟨rfl, rfl⟩))
    (fun os started H enc _ => lifted os started H enc)

theorem proved : Rows.PolyRootsSaid := over

end Go.Proofs.Ytgnpohapmijfiaa.polyRoots
