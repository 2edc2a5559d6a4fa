/- For any game, Turn swaps the players and increases all ranks by 1, or returns ErrArg. No condition. -/
import Derived.Test.YtahhkbdodgjaeaaRows
import Derived.Test.YtahhkbdodgjaeaaChecked
import Derived.Test.YtahhkbdodgjaeaaPj
import Derived.Test.YtahhkbdodgjaeaaAwake
import Derived.ProofKit
import Derived.OpenShut
namespace Go.Proofs.Ytahhkbdodgjaeaa.parityTurns
open Go.ChangeShapes Go.WideShapes Go.ChangeAt Go.RowKit

theorem own : ownKnob Try.prog.godebug = none := by kernel_rfl

set_option maxRecDepth 100000 in
set_option maxHeartbeats 4000000 in
theorem walk (vo vr vn : Value) (O0 R0 : List Int) (N0 : List (List Int)) (w : World) (ho : Hid (ArgI w vo O0)) (hr : Hid (ArgI w vr R0)) (hn : Hid (ArgZ w vn N0)) :
    Calls Try.prog 8 #[.agg #[vo, vr, vn]] w fun e w' => e = .returned (.bool true) ∧ Below w.heap.size w w' := by
  obtain ⟨xa, na, ca, hsa⟩ := ho.out.form
  obtain ⟨xb, nb, cb, hsb⟩ := hr.out.form
  obtain ⟨xn, cn, hsn, _⟩ := hn.out
  subst hsa hsb hsn
  obtain ⟨b, hb⟩ : ∃ b, b = w.heap.size := ⟨_, rfl⟩
  obtain ⟨X, hX⟩ : ∃ X, X = w.alloc (.cells #[.slice xa na ca, .slice xb nb cb, .slice xn N0.length cn] 25) := ⟨_, rfl⟩
  have HA : Hid (Below w.heap.size w X) := by rw [hX]; exact (Below.refl _ _).alloc (Nat.le_refl _) _
  have hca : X.cell? ⟨b, 0, none⟩ = some (.slice xa na ca) := by rw [hX, hb]; simp
  have hcb : X.cell? ⟨b, 1, none⟩ = some (.slice xb nb cb) := by rw [hX, hb]; simp
  have hcn : X.cell? ⟨b, 2, none⟩ = some (.slice xn N0.length cn) := by rw [hX, hb]; simp
  obtain ⟨O, hO⟩ : ∃ O, O = O0.take 30 := ⟨_, rfl⟩
  obtain ⟨R, hR⟩ : ∃ R, R = R0.take 30 := ⟨_, rfl⟩
  obtain ⟨N, hN⟩ : ∃ N, N = cutN N0 := ⟨_, rfl⟩
  have hsm : Hid (Small O R N) := by rw [hO, hR, hN]; exact small_cut O0 R0 N0
  have HGA := Lib.hid (game_is O0 R0 N0 _ _ _ X (ho.out.below HA.out) (hr.out.below HA.out) (hn.out.below HA.out))
  rw [← hO, ← hR, show (N0.take 30).map (fun l => l.take 30) = N from hN.symm] at HGA
  clear ho hr hn hO hR hN
  go_enter Try.func8, Try.ntmps8
  go_upto_region 1 with fail
  rw [← hb, ← hX]
  clear hX hb
  go_wp2_with (fail)
  refine HGA.out.mono ?_
  rintro e w1 ⟨⟨v1, v2, v3, vs, rfl, h1, h2, h3⟩, hB⟩
  obtain ⟨a1, d1, hv1, _⟩ := own_form h1
  obtain ⟨a2, d2, hv2, _⟩ := own_form h2
  obtain ⟨a3, d3, hv3, _⟩ := own_form h3.own
  subst hv1 hv2 hv3
  have HB1 : Hid (Below w.heap.size w w1) := below_step HA.out hB
  have HR1 : Hid (RdG w1 (.slice a1 O.length d1) (.slice a2 R.length d2) (.slice a3 N.length d3) O R N) := ⟨Rd.of_own h1, Rd.of_own h2, h3.rd⟩
  obtain ⟨p, hp⟩ : ∃ p, p = w1.heap.size := ⟨_, rfl⟩
  obtain ⟨w2, hw2⟩ : ∃ w2, w2 = w1.alloc (.cells #[.slice a1 O.length d1, .slice a2 R.length d2, .slice a3 N.length d3] 25) := ⟨_, rfl⟩
  have HP2 : Hid (w2.heap[p]? = some (.cells #[.slice a1 O.length d1, .slice a2 R.length d2, .slice a3 N.length d3] 25 (0, 0))) := by
    show _ = _
    rw [hw2, hp]; exact heap_alloc_new _ _
  have hB12 : Below w1.heap.size w1 w2 := by rw [hw2]; exact (Below.refl _ _).alloc (Nat.le_refl _) _
  have HB2 : Hid (Below w.heap.size w w2) := below_step HB1.out hB12
  have HR2 : Hid (RdG w2 (.slice a1 O.length d1) (.slice a2 R.length d2) (.slice a3 N.length d3) O R N) := HR1.out.below hB12
  have hps : p < w2.heap.size := (Array.getElem?_eq_some_iff.1 HP2.out).1
  have HPS := Lib.hid hps
  obtain ⟨c0, c1, c2⟩ := cell3 HP2.out
  clear h1 h2 h3 hB hB12 HGA hca hcb hcn hps
  go_upto_region 2 with fail
  rw [← hp, ← hw2]
  clear hp hw2
  go_wp2_with (fail)
  refine (Turn_is O R N _ _ _ w2 HR2 hsm).mono ?_
  rintro e w3 ⟨⟨t1, t2, t3, ts, er, TA, TB, TC, rfl, hOwn, hAl⟩, hB⟩
  obtain ⟨x1, y1, hv1, _⟩ := own_form hOwn.a
  obtain ⟨x2, y2, hv2, _⟩ := own_form hOwn.b
  obtain ⟨x3, y3, hv3, _⟩ := own_form hOwn.c
  subst hv1 hv2 hv3
  have HAL := Lib.hid hAl
  have hP3 : w3.heap[p]? = some (.cells #[.slice a1 O.length d1, .slice a2 R.length d2, .slice a3 N.length d3] 25 (0, 0)) := by rw [hB.block p HPS.out]; exact HP2.out
  have hps3 : p < w3.heap.size := Nat.lt_of_lt_of_le HPS.out hB.size
  obtain ⟨q, hq⟩ : ∃ q, q = w3.heap.size := ⟨_, rfl⟩
  obtain ⟨w4, hw4⟩ : ∃ w4, w4 = w3.alloc (.cells #[.slice x1 TA.length y1, .slice x2 TB.length y2, .slice x3 TC.length y3] 25) := ⟨_, rfl⟩
  have hB34 : Below w3.heap.size w3 w4 := by rw [hw4]; exact (Below.refl _ _).alloc (Nat.le_refl _) _
  have HP4 : Hid (w4.heap[p]? = some (.cells #[.slice a1 O.length d1, .slice a2 R.length d2, .slice a3 N.length d3] 25 (0, 0)) ∧ w4.heap[q]? = some (.cells #[.slice x1 TA.length y1, .slice x2 TB.length y2, .slice x3 TC.length y3] 25 (0, 0))) := by
    refine ⟨by rw [hB34.block p hps3]; exact hP3, ?_⟩
    rw [hw4, hq]; exact heap_alloc_new _ _
  have HB4 : Hid (Below w.heap.size w w4) := below_step (below_step HB2.out hB) hB34
  have HR4 : Hid (RdG w4 (.slice a1 O.length d1) (.slice a2 R.length d2) (.slice a3 N.length d3) O R N) := (HR2.out.below hB).below hB34
  have HT4 : Hid (RdG w4 (.slice x1 TA.length y1) (.slice x2 TB.length y2) (.slice x3 TC.length y3) TA TB TC) := (hOwn.keep hB34).rd
  have HPQ : Hid (p < w4.heap.size ∧ q < w4.heap.size) := ⟨(Array.getElem?_eq_some_iff.1 HP4.out.1).1, (Array.getElem?_eq_some_iff.1 HP4.out.2).1⟩
  clear hOwn hAl hB hB34 hP3 hps3 c0 c1 c2
  go_upto_region 3 with fail
  rw [← hq, ← hw4]
  clear hq hw4
  obtain ⟨c0, c1, c2⟩ := cell3 HP4.out.1
  obtain ⟨tg, htg⟩ : ∃ tg : Bool, (GameZ O R N ↔ tg = true) := by
    by_cases h : GameZ O R N
    · exact ⟨true, fun _ => rfl, fun _ => h⟩
    · exact ⟨false, fun h' => absurd h' h, fun h => (by cases h)⟩
  have HTG := Lib.hid htg
  clear htg
  go_wp2_with (fail)
  refine (rGame_is O R N _ _ _ tg w4 HR4 hsm HTG).mono ?_
  rintro e w5 ⟨rfl, hB⟩
  have HP5 : Hid (w5.heap[p]? = some (.cells #[.slice a1 O.length d1, .slice a2 R.length d2, .slice a3 N.length d3] 25 (0, 0)) ∧ w5.heap[q]? = some (.cells #[.slice x1 TA.length y1, .slice x2 TB.length y2, .slice x3 TC.length y3] 25 (0, 0))) :=
    ⟨by rw [hB.block p HPQ.out.1]; exact HP4.out.1, by rw [hB.block q HPQ.out.2]; exact HP4.out.2⟩
  have HB5 : Hid (Below w.heap.size w w5) := below_step HB4.out hB
  have HR5 : Hid (RdG w5 (.slice a1 O.length d1) (.slice a2 R.length d2) (.slice a3 N.length d3) O R N) := HR4.out.below hB
  have HT5 : Hid (RdG w5 (.slice x1 TA.length y1) (.slice x2 TB.length y2) (.slice x3 TC.length y3) TA TB TC) := HT4.out.below hB
  clear hB c0 c1 c2
  obtain ⟨c0, c1, c2⟩ := cell3 HP5.out.1
  obtain ⟨e0, e1, e2⟩ := cell3 HP5.out.2
  obtain ⟨m2, hm2⟩ : ∃ m, m = R.length := ⟨_, rfl⟩
  have HM2 := Lib.hid hm2
  have HR52 : Hid (Rd w5 (.slice a2 m2 d2) 1 R.length (zs R)) := by show Rd _ _ _ _ _; rw [hm2]; exact HR5.out.r
  rw [← hm2] at c1
  have hml2 : m2 ≤ 30 := by rw [hm2]; exact hsm.out.r
  clear hm2
  go_wp2_with (fail)
  go_loopw [6, 7] (fun bv iv wx => ∃ (i : Nat) (t : Bool), bv = .bool t ∧ iv = .int .i64 i ∧ i ≤ m2 ∧ wx = w5 ∧ Hid (t = true ↔ (¬ GameZ O R N ∨ ∃ j, j < i ∧ R.getD j 0 = 9))) (fun _ iv _ => m2 - (intOf iv).toNat)
  case atStart =>
    refine ⟨0, !tg, rfl, rfl, by omega, rfl, ?_⟩
    show _ ↔ _
    have h9 := HTG.out
    constructor
    · intro h; left; intro g; rw [h9.1 g] at h; cases h
    · rintro (h | ⟨j, h, _⟩)
      · cases tg with
        | true => exact absurd (h9.2 rfl) h
        | false => rfl
      · omega
  case round =>
    obtain ⟨i, t, rfl, rfl, him, rfl, HT⟩ := hrel
    by_cases hin : i < m2
    · have hin1 : (i : Int) < (m2 : Int) := by omega
      cases t with
      | true =>
        have HTN : Hid (true = true ↔ (¬ GameZ O R N ∨ ∃ j, j < i + 1 ∧ R.getD j 0 = 9)) := ⟨fun _ => by
          rcases HT.out.1 rfl with h | ⟨j, h1, h2⟩
          · exact .inl h
          · exact .inr ⟨j, by omega, h2⟩, fun _ => rfl⟩
        clear hin
        go_wp2_with (fail)
        go_roundw
        case rel => exact ⟨i + 1, true, by first | rfl | trivial, by first | rfl | go_num, by omega, by first | rfl | trivial, HTN⟩
        case measure => simp [intOf]; omega
      | false =>
        obtain ⟨br, er', _, cr⟩ := zat HR52.out i (by rw [← HM2.out]; exact hin)
        subst er'
        obtain ⟨x, hx⟩ : ∃ x, x = R.getD i 0 := ⟨_, rfl⟩
        rw [← hx] at cr
        by_cases h9 : x = 9
        · have hd : (x == 9) = true := by simpa using h9
          have HTN : Hid (true = true ↔ (¬ GameZ O R N ∨ ∃ j, j < i + 1 ∧ R.getD j 0 = 9)) := ⟨fun _ => .inr ⟨i, by omega, by rw [← hx]; exact h9⟩, fun _ => rfl⟩
          clear hin hx h9
          go_wp2_with (fail)
          go_roundw
          case rel => exact ⟨i + 1, true, by first | rfl | simp [hd], by first | rfl | go_num, by omega, by first | rfl | trivial, HTN⟩
          case measure => simp [intOf]; omega
        · have hd : (x == 9) = false := by simpa using h9
          have HTN : Hid (false = true ↔ (¬ GameZ O R N ∨ ∃ j, j < i + 1 ∧ R.getD j 0 = 9)) := ⟨fun h => (by cases h), fun h => by
            rcases h with h | ⟨j, h1, h2⟩
            · exact HT.out.2 (.inl h)
            · by_cases e : j = i
              · rw [e, ← hx] at h2; exact absurd h2 h9
              · exact HT.out.2 (.inr ⟨j, by omega, h2⟩)⟩
          clear hin hx h9
          go_wp2_with (fail)
          go_roundw
          case rel => exact ⟨i + 1, false, by first | rfl | simp [hd], by first | rfl | go_num, by omega, by first | rfl | trivial, HTN⟩
          case measure => simp [intOf]; omega
    · obtain rfl : m2 = i := by omega
      have hmem : (∃ j, j < m2 ∧ R.getD j 0 = 9) ↔ (9 : Int) ∈ R := by
        constructor
        · rintro ⟨j, h1, h2⟩
          have h3 : j < R.length := by rw [← HM2.out]; exact h1
          rw [← h2]; simp [List.getD, h3]
        · intro h
          obtain ⟨j, h1, h2⟩ := List.getElem_of_mem h
          exact ⟨j, by rw [HM2.out]; exact h1, by simp [List.getD, h1, h2]⟩
      cases t with
      | true =>
        have hbad : ¬ (GameZ O R N ∧ ¬ (9 : Int) ∈ R) := fun h => by
          rcases HT.out.1 rfl with g | g
          · exact g h.1
          · exact h.2 (hmem.1 g)
        obtain ⟨h1, h2, h3, h4⟩ := HAL.out.2 hbad
        subst h1 h2 h3 h4
        clear hbad hmem hin
        go_wp2_with (fail)
        refine (awake_is _).mono ?_
        rintro e w6 ⟨rfl, hB⟩
        have HB6 : Hid (Below w.heap.size w w6) := below_step HB5.out hB
        clear hB
        go_wp2_with (fail)
        go_ret
        exact ⟨rfl, HB6.out⟩
      | false =>
        have hgood : GameZ O R N ∧ ¬ (9 : Int) ∈ R := by
          refine ⟨Classical.byContradiction fun h => ?_, fun h => ?_⟩
          · have := HT.out.2 (.inl h); cases this
          · have := HT.out.2 (.inr (hmem.2 h)); cases this
        obtain ⟨h1, h2, h3, h4⟩ := HAL.out.1 hgood
        have h4 := h4.symm
        subst h1 h2 h3 h4
        obtain ⟨_, g2, g3, g4, g5⟩ := hgood.1
        obtain ⟨m, hm⟩ : ∃ m, m = O.length := ⟨_, rfl⟩
        have hl1 : (O.map (1 - ·)).length = m := by rw [List.length_map, hm]
        have hl2 : (R.map (· + 1)).length = m := by rw [List.length_map, hm, g3]
        have hl3 : N.length = m := by rw [hm, g4]
        have hl4 : m2 = m := by rw [HM2.out, hm, g3]
        have hm24 : m ≤ 24 := by omega
        subst hl4
        have HM := Lib.hid hm
        rw [hl3] at c2
        rw [hl1] at e0
        rw [hl2] at e1
        rw [hl3] at e2
        rw [← hm] at c0
        have HOK : Hid (∀ i, i < m2 → okAt O R N i) := by rw [hm]; exact g5
        have HNL := Lib.hid hl3
        have hs3 := HR5.out
        have ht3 := HT5.out
        rw [hl3, ← hm] at hs3
        rw [hl1, hl2, hl3] at ht3
        have HS3 : Hid (Rd wr (.slice a1 m2 d1) 1 O.length (zs O)) := hs3.o
        have HS4 : Hid (RdZ wr (.slice a3 m2 d3) N) := hs3.n
        have HT1 : Hid (Rd wr (.slice x1 m2 y1) 1 (O.map (1 - ·)).length (zs (O.map (1 - ·)))) := ht3.o
        have HT2 : Hid (Rd wr (.slice x2 m2 y2) 1 (R.map (· + 1)).length (zs (R.map (· + 1)))) := ht3.r
        have HT3 : Hid (RdZ wr (.slice x3 m2 y3) N) := ht3.n
        have hq1 : ((m2 : Int) != (m2 : Int)) = false := by simp
        have HL1 := Lib.hid (And.intro hl1 hl2)
        clear hgood hmem hin g2 g3 g4 g5 hm hl1 hl2 hl3 hs3 ht3
        go_wp2_with (fail)
        go_loopw [8] (fun iv wx => ∃ (i n : Nat), iv = .int .i64 i ∧ i ≤ m2 ∧ wx = wr.drewN n) (fun iv _ => m2 - (intOf iv).toNat)
        case atStart => exact ⟨0, 0, rfl, by omega, by first | rfl | trivial | simp⟩
        case round =>
          obtain ⟨i, n, rfl, him, rfl⟩ := hrel
          by_cases hin : i < m2
          · have hin1 : (i : Int) < (m2 : Int) := by omega
            have hBn : ∀ k, Below wr.heap.size wr (wr.drewN k) := fun k => below_drewN (Below.refl _ _) k
            obtain ⟨bo, eo, _, co1⟩ := zat HS3.out i (by rw [← HM.out]; exact hin)
            subst eo
            obtain ⟨br, er1, _, cr1⟩ := zat HR52.out i (by rw [← HM2.out]; exact hin)
            subst er1
            obtain ⟨b1, eb1, _, ct1⟩ := zat HT1.out i (by rw [HL1.out.1]; exact hin)
            subst eb1
            obtain ⟨b2, eb2, _, ct2⟩ := zat HT2.out i (by rw [HL1.out.2]; exact hin)
            subst eb2
            obtain ⟨bn, xn', yn, en, _, cn1, cn2, rn⟩ := HS4.out.rowAt i (by rw [HNL.out]; exact hin)
            subst en
            obtain ⟨b3, xm, ym, em, _, cm1, cm2, rm⟩ := HT3.out.rowAt i (by rw [HNL.out]; exact hin)
            subst em
            have hk := HOK.out i hin
            unfold okAt at hk
            have hLl := hsm.out.at i
            obtain ⟨x, hx⟩ : ∃ x, x = O.getD i 0 := ⟨_, rfl⟩
            obtain ⟨y, hy⟩ : ∃ y, y = R.getD i 0 := ⟨_, rfl⟩
            obtain ⟨L, hL⟩ : ∃ L, L = N.getD i [] := ⟨_, rfl⟩
            have hgo : (O.map (1 - ·)).getD i 0 = 1 - x := by rw [hx]; simp [List.getD, show i < O.length by rw [← HM.out]; exact hin]
            have hgr : (R.map (· + 1)).getD i 0 = y + 1 := by rw [hy]; simp [List.getD, show i < R.length by rw [← HM2.out]; exact hin]
            rw [hgo] at ct1
            rw [hgr] at ct2
            rw [← hx] at co1
            rw [← hy] at cr1
            rw [← hL] at cn1 cn2 rn cm1 cm2 rm hLl
            rw [← hx, ← hy] at hk
            obtain ⟨g1, g2, g3, _, _⟩ := hk
            have HRN : Hid (∀ k, Rd (wr.drewN k) (.slice xn' L.length yn) 1 L.length (zs L)) := fun k => rn.below (hBn k) (Nat.le_refl _)
            have HRM : Hid (∀ k, Rd (wr.drewN k) (.slice xm L.length ym) 1 L.length (zs L)) := fun k => rm.below (hBn k) (Nat.le_refl _)
            have hz0 : ((1 - x : Int) != (1 - x : Int)) = false := by simp
            have hz1 : ((y + 1 : Int) != (y + 1 : Int)) = false := by simp
            have HLL := Lib.hid hLl
            clear hx hy hL hgo hgr rn rm hBn hLl
            go_wp2_with (fail)
            go_quiet ((go_at_call 22; exact still_draw _ _ (intsZ_is L L _ _ true _ (HRM.out _) (HRN.out _) (by have := HLL.out; omega) (by have := HLL.out; omega) ⟨fun _ => rfl, fun _ => rfl⟩)))
            go_wp2_with (fail)
            go_roundw
            case rel => exact ⟨i + 1, _, by first | rfl | go_num, by omega, by first | rfl | exact World.drewN_drewN _ _ _⟩
            case measure => simp [intOf]; omega
          · obtain rfl : m2 = i := by omega
            have HB5n : Hid (Below w.heap.size w (wr.drewN n)) := below_drewN HB5.out n
            clear hin
            go_wp2_with (fail)
            refine (awake_is _).mono ?_
            rintro e w6 ⟨rfl, hB⟩
            have HB6 : Hid (Below w.heap.size w w6) := below_step HB5n.out hB
            clear hB
            go_wp2_with (fail)
            go_ret
            exact ⟨rfl, HB6.out⟩

set_option maxRecDepth 100000 in
theorem lifted (os : Os) (started : os.Started) (H : Type) (enc : TypeId × Value → H) :
    ReturnsInHanded {} Try.checked os 8 .any (Rows.parityTurnsSpec.pre6 enc Try.prog Try.f8 Rows.parityTurnsRow.domain false) (Rows.parityTurnsSpec.post enc Try.prog Try.f8 false true false false) := by
  refine returnsInHanded_of_change (C := Try.checked) own started (by kernel_rfl) Try.func8
    (ChangeSpec.witness6 (enc := enc) (C := Try.checked) false ⟨#[], #[.agg #[.slice none 0 0, .slice none 0 0, .slice none 0 0]], []⟩ 8 (by kernel_rfl) (by kernel_rfl) (by kernel_rfl) (by kernel_rfl)) ?_
  intro W base args ds gs before hval0 hW hcnd _
  have hval : ∀ (j : Nat) t v, Try.f8.params[j]? = some t → args[j]? = some v → Value.okWide Try.prog W .any base t v := hval0
  have hW' := hW
  obtain ⟨p, q, hA0, hV, rfl, hfz, hnd⟩ := hW
  have hA : DataW.TrodAll enc Try.prog W 0 (fun _ => true) true Try.f8.params.toList args.toList ds p := hA0
  rw [Try.params8] at hA hval
  obtain ⟨v1, vs1, d1, ds1, p1, q1, hargs, rfl, rfl, h1, r1⟩ := trodAll_cons hA
  obtain ⟨rfl, rfl, rfl⟩ := trodAll_nil r1
  obtain rfl : args = #[v1] := by cases args; simp_all
  obtain ⟨rfl, rfl⟩ := trodVars_none hV
  have hlt := hW'.lt
  obtain ⟨vo, vr, vn, O, R, N, rfl, hZ1, hZ2, hZ3⟩ := argG_of (hval 0 25 v1 rfl rfl) h1
  clear hA0 hval0
  simp only [List.append_nil] at hW'
  refine (walk vo vr vn O R N W hZ1 hZ2 hZ3).mono fun e W' ⟨he, hg⟩ => ?_
  subst he
  exact ⟨_, rfl, _, _, _, [], p1 ++ ([]), [], hW', trodAll_cons_mk (shut_bool Try.underlying4 _) trodAll_mk0, trodAll_cons_mk (Below.trod (by kernel_rfl) (by kernel_rfl) (by decide +kernel) h1 hg (fun x hx => hlt x (by simp [hx]))) trodAll_mk0, rfl, hg.frame _, fun h => by cases h⟩

theorem over : Rows.parityTurnsRow.holds Try.pinned (OpenSpec.ofChange Rows.parityTurnsSpec) :=
  OpenClaim.holds_of_wide 8 Try.f8 rfl rfl rfl rfl rfl rfl rfl ⟨rfl, rfl, rfl, rfl, rfl⟩ rfl rfl rfl rfl rfl (by kernel_rfl) Try.func8 (by kernel_rfl)
    (of_decide_eq_true (by kernel_rfl)) (by unfold Func.isWrapper; first | (rw [if_pos (by decide +kernel)]; kernel_rfl) | (rw [if_neg (by decide +kernel)]; exact ⟨rfl, rfl⟩))
    (fun os started H enc _ => lifted os started H enc)

theorem proved : Rows.ParityTurnsSaid := over

end Go.Proofs.Ytahhkbdodgjaeaa.parityTurns
