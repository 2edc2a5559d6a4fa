/- The walk over Play. -/
import Derived.Test.YtahhkbdodgjaeaaPn
namespace Go.Proofs.Ytahhkbdodgjaeaa
open Go.RowKit

theorem zget (L : List Int) {j : Nat} (h : j < L.length) : L.getD j 0 = L[j] := by simp [List.getD, h]
def PlanA (O : List Int) (N : List (List Int)) (P : List Int) : Prop := P.length = O.length ∧ ∀ i, i < O.length → P.getD i 0 ∈ N.getD i []

set_option maxRecDepth 100000 in
set_option maxHeartbeats 4000000 in
theorem Play_none (O R : List Int) (N : List (List Int)) (P : List Int) (fr : Int) (vo vr vn vp : Value) (w : World) (h : Hid (RdG w vo vr vn O R N)) (hs : Hid (Small O R N)) (hp : Hid (Rd w vp 1 P.length (zs P))) (hpl : P.length ≤ 30) (hg : Hid (¬ GameZ O R N)) :
    Calls Try.prog 28 #[.agg #[vo, vr, vn], .int .i64 fr, vp] w fun e w' => e = .returned (.tuple #[.slice none 0 0, .slice none 0 0, .int .i64 0, .int .i64 2]) ∧ Below w.heap.size w w' := by
  obtain ⟨ao, co, ho⟩ := h.out.o.shape
  obtain ⟨ar, cr, hr⟩ := h.out.r.shape
  obtain ⟨an, cn, hn, _⟩ := h.out.n.shape
  subst ho hr hn
  obtain ⟨m, hm⟩ : ∃ m, m = O.length := ⟨_, rfl⟩
  obtain ⟨m2, hm2⟩ : ∃ m, m = R.length := ⟨_, rfl⟩
  obtain ⟨m3, hm3⟩ : ∃ m, m = N.length := ⟨_, rfl⟩
  obtain ⟨b, hb⟩ : ∃ b, b = w.heap.size := ⟨_, rfl⟩
  rw [← hm, ← hm2, ← hm3] at h ⊢
  obtain ⟨X, hX⟩ : ∃ X, X = w.alloc (.cells #[.slice ao m co, .slice ar m2 cr, .slice an m3 cn] 25) := ⟨_, rfl⟩
  have HA : Hid (Below w.heap.size w X) := by rw [hX]; exact (Below.refl _ _).alloc (Nat.le_refl _) _
  have HRG : Hid (RdG X (.slice ao m co) (.slice ar m2 cr) (.slice an m3 cn) O R N) := h.out.below HA.out
  have hca : X.cell? ⟨b, 0, none⟩ = some (.slice ao m co) := by rw [hX, hb]; simp
  have hcb : X.cell? ⟨b, 1, none⟩ = some (.slice ar m2 cr) := by rw [hX, hb]; simp
  have hcn : X.cell? ⟨b, 2, none⟩ = some (.slice an m3 cn) := by rw [hX, hb]; simp
  have HM := Lib.hid (And.intro hm (And.intro hm2 hm3))
  have hml : m ≤ 30 := by rw [hm]; exact hs.out.o
  obtain ⟨ap, cp, hvp⟩ := hp.out.shape
  subst hvp
  obtain ⟨k, hk⟩ : ∃ k, k = P.length := ⟨_, rfl⟩
  have HK := Lib.hid hk
  have HP : Hid (Rd X (.slice ap k cp) 1 P.length (zs P)) := by
    have h9 := hp.out.below HA.out (Nat.le_refl _)
    show Rd _ _ _ _ _
    rw [hk]; exact h9
  rw [← hk] at hpl ⊢
  have HGO := Lib.hid (gameOf_is O R N _ _ _ false X HRG hs ⟨fun h => absurd h hg.out, fun h => (by cases h)⟩ (.tuple #[.agg #[.slice none 0 0, .slice none 0 0, .slice none 0 0], .bool false]) ⟨fun h => (by cases h), fun _ => rfl⟩)
  clear h hm hm2 hm3 hp hk
  go_enter Try.func28, Try.ntmps28
  go_upto_region 1 with fail
  rw [← hb, ← hX]
  clear hX hb
  go_wp2_with (fail)
  refine HGO.out.mono ?_
  rintro e w1 ⟨rfl, hB⟩
  obtain ⟨w2, hw2⟩ : ∃ w2, w2 = w1.alloc (.cells #[.slice none 0 0, .slice none 0 0, .slice none 0 0] 56) := ⟨_, rfl⟩
  have HB2 : Hid (Below X.heap.size X w2) := by rw [hw2]; exact hB.alloc hB.size _
  have HQ : Hid (w2.heap[w1.heap.size]? = some (.cells #[.slice none 0 0, .slice none 0 0, .slice none 0 0] 56 (0, 0))) := by rw [hw2]; exact heap_alloc_new _ _
  obtain ⟨p, hp⟩ : ∃ p, p = w1.heap.size := ⟨_, rfl⟩
  rw [← hp] at HQ
  obtain ⟨c0, c1, c2⟩ := cell3 HQ.out
  have HG2 : Hid (RdG w2 (.slice ao m co) (.slice ar m2 cr) (.slice an m3 cn) O R N) := HRG.out.below HB2.out
  have HP2 : Hid (Rd w2 (.slice ap k cp) 1 P.length (zs P)) := HP.out.below HB2.out (Nat.le_refl _)
  have HBW : Hid (Below w.heap.size w w2) := HA.out.trans (HB2.out.mono HA.out.size)
  have HPS : Hid (p < w2.heap.size) := (Array.getElem?_eq_some_iff.1 HQ.out).1
  clear hB
  go_upto_region 2 with fail
  rw [← hp, ← hw2]
  clear hw2 hp
  go_wp2_with (fail)
  refine bodyPost_ret (v := .tuple #[.slice none 0 0, .slice none 0 0, .int .i64 0, .int .i64 2]) (by simp [results, Try.results28, go_sem]) rfl ?_
  exact ⟨rfl, HBW.out⟩

set_option maxRecDepth 100000 in
set_option maxHeartbeats 4000000 in
theorem Play_from (O R : List Int) (N : List (List Int)) (P : List Int) (fr : Int) (vo vr vn vp : Value) (w : World) (h : Hid (RdG w vo vr vn O R N)) (hs : Hid (Small O R N)) (hp : Hid (Rd w vp 1 P.length (zs P))) (hpl : P.length ≤ 30) (hg : Hid (GameZ O R N)) (hf : fr < 0 ∨ (O.length : Int) ≤ fr) :
    Calls Try.prog 28 #[.agg #[vo, vr, vn], .int .i64 fr, vp] w fun e w' => e = .returned (.tuple #[.slice none 0 0, .slice none 0 0, .int .i64 0, .int .i64 2]) ∧ Below w.heap.size w w' := by
  obtain ⟨ao, co, ho⟩ := h.out.o.shape
  obtain ⟨ar, cr, hr⟩ := h.out.r.shape
  obtain ⟨an, cn, hn, _⟩ := h.out.n.shape
  subst ho hr hn
  obtain ⟨m, hm⟩ : ∃ m, m = O.length := ⟨_, rfl⟩
  obtain ⟨m2, hm2⟩ : ∃ m, m = R.length := ⟨_, rfl⟩
  obtain ⟨m3, hm3⟩ : ∃ m, m = N.length := ⟨_, rfl⟩
  obtain ⟨b, hb⟩ : ∃ b, b = w.heap.size := ⟨_, rfl⟩
  rw [← hm, ← hm2, ← hm3] at h ⊢
  obtain ⟨X, hX⟩ : ∃ X, X = w.alloc (.cells #[.slice ao m co, .slice ar m2 cr, .slice an m3 cn] 25) := ⟨_, rfl⟩
  have HA : Hid (Below w.heap.size w X) := by rw [hX]; exact (Below.refl _ _).alloc (Nat.le_refl _) _
  have HRG : Hid (RdG X (.slice ao m co) (.slice ar m2 cr) (.slice an m3 cn) O R N) := h.out.below HA.out
  have hca : X.cell? ⟨b, 0, none⟩ = some (.slice ao m co) := by rw [hX, hb]; simp
  have hcb : X.cell? ⟨b, 1, none⟩ = some (.slice ar m2 cr) := by rw [hX, hb]; simp
  have hcn : X.cell? ⟨b, 2, none⟩ = some (.slice an m3 cn) := by rw [hX, hb]; simp
  have HM := Lib.hid (And.intro hm (And.intro hm2 hm3))
  have hml : m ≤ 30 := by rw [hm]; exact hs.out.o
  obtain ⟨ap, cp, hvp⟩ := hp.out.shape
  subst hvp
  obtain ⟨k, hk⟩ : ∃ k, k = P.length := ⟨_, rfl⟩
  have HK := Lib.hid hk
  have HP : Hid (Rd X (.slice ap k cp) 1 P.length (zs P)) := by
    have h9 := hp.out.below HA.out (Nat.le_refl _)
    show Rd _ _ _ _ _
    rw [hk]; exact h9
  rw [← hk] at hpl ⊢
  rw [← hm] at hf
  have HGO := Lib.hid (gameOf_is O R N _ _ _ true X HRG hs ⟨fun _ => rfl, fun _ => hg.out⟩ (.tuple #[.agg #[.slice ao m co, .slice ar m2 cr, .slice an m3 cn], .bool true]) ⟨fun _ => rfl, fun h => (by cases h)⟩)
  clear h hm hm2 hm3 hp hk
  go_enter Try.func28, Try.ntmps28
  go_upto_region 1 with fail
  rw [← hb, ← hX]
  clear hX hb
  go_wp2_with (fail)
  refine HGO.out.mono ?_
  rintro e w1 ⟨rfl, hB⟩
  obtain ⟨w2, hw2⟩ : ∃ w2, w2 = w1.alloc (.cells #[.slice ao m co, .slice ar m2 cr, .slice an m3 cn] 56) := ⟨_, rfl⟩
  have HB2 : Hid (Below X.heap.size X w2) := by rw [hw2]; exact hB.alloc hB.size _
  have HQ : Hid (w2.heap[w1.heap.size]? = some (.cells #[.slice ao m co, .slice ar m2 cr, .slice an m3 cn] 56 (0, 0))) := by rw [hw2]; exact heap_alloc_new _ _
  obtain ⟨p, hp⟩ : ∃ p, p = w1.heap.size := ⟨_, rfl⟩
  rw [← hp] at HQ
  obtain ⟨c0, c1, c2⟩ := cell3 HQ.out
  have HG2 : Hid (RdG w2 (.slice ao m co) (.slice ar m2 cr) (.slice an m3 cn) O R N) := HRG.out.below HB2.out
  have HP2 : Hid (Rd w2 (.slice ap k cp) 1 P.length (zs P)) := HP.out.below HB2.out (Nat.le_refl _)
  have HBW : Hid (Below w.heap.size w w2) := HA.out.trans (HB2.out.mono HA.out.size)
  have HPS : Hid (p < w2.heap.size) := (Array.getElem?_eq_some_iff.1 HQ.out).1
  clear hB
  go_upto_region 2 with fail
  rw [← hp, ← hw2]
  clear hw2 hp
  by_cases h0 : fr < 0
  · have hd : decide (fr < 0) = true := by simpa using h0
    clear h0 hf
    go_wp2_with (fail)
    refine bodyPost_ret (v := .tuple #[.slice none 0 0, .slice none 0 0, .int .i64 0, .int .i64 2]) (by simp [results, Try.results28, go_sem]) rfl ?_
    exact ⟨rfl, HBW.out⟩
  · have hd : decide (fr < 0) = false := by simpa using h0
    have h1 : (m : Int) ≤ fr := by omega
    have hd1 : decide ((m : Int) ≤ fr) = true := by simpa using h1
    have HSZ := Lib.hid (size_is O R N _ _ _ w2 HG2)
    rw [← HM.out.1] at HSZ
    clear h0 hf h1
    go_wp2_with (fail)
    refine HSZ.out.mono ?_
    rintro e w3 ⟨rfl, hB⟩
    have HB3 : Hid (Below w2.heap.size w2 w3) := hB
    clear hB

    go_wp2_with (fail)
    refine bodyPost_ret (v := .tuple #[.slice none 0 0, .slice none 0 0, .int .i64 0, .int .i64 2]) (by simp [results, Try.results28, go_sem]) rfl ?_
    exact ⟨rfl, below_step HBW.out HB3.out⟩

set_option maxRecDepth 100000 in
set_option maxHeartbeats 4000000 in
theorem Play_plan (O R : List Int) (N : List (List Int)) (P : List Int) (fr : Int) (vo vr vn vp : Value) (w : World) (h : Hid (RdG w vo vr vn O R N)) (hs : Hid (Small O R N)) (hp : Hid (Rd w vp 1 P.length (zs P))) (hpl : P.length ≤ 30) (hg : Hid (GameZ O R N)) (hf1 : 0 ≤ fr) (hf2 : fr < (O.length : Int)) (hq : Hid (¬ PlanA O N P)) :
    Calls Try.prog 28 #[.agg #[vo, vr, vn], .int .i64 fr, vp] w fun e w' => e = .returned (.tuple #[.slice none 0 0, .slice none 0 0, .int .i64 0, .int .i64 2]) ∧ Below w.heap.size w w' := by
  obtain ⟨ao, co, ho⟩ := h.out.o.shape
  obtain ⟨ar, cr, hr⟩ := h.out.r.shape
  obtain ⟨an, cn, hn, _⟩ := h.out.n.shape
  subst ho hr hn
  obtain ⟨m, hm⟩ : ∃ m, m = O.length := ⟨_, rfl⟩
  obtain ⟨m2, hm2⟩ : ∃ m, m = R.length := ⟨_, rfl⟩
  obtain ⟨m3, hm3⟩ : ∃ m, m = N.length := ⟨_, rfl⟩
  obtain ⟨b, hb⟩ : ∃ b, b = w.heap.size := ⟨_, rfl⟩
  rw [← hm, ← hm2, ← hm3] at h ⊢
  obtain ⟨X, hX⟩ : ∃ X, X = w.alloc (.cells #[.slice ao m co, .slice ar m2 cr, .slice an m3 cn] 25) := ⟨_, rfl⟩
  have HA : Hid (Below w.heap.size w X) := by rw [hX]; exact (Below.refl _ _).alloc (Nat.le_refl _) _
  have HRG : Hid (RdG X (.slice ao m co) (.slice ar m2 cr) (.slice an m3 cn) O R N) := h.out.below HA.out
  have hca : X.cell? ⟨b, 0, none⟩ = some (.slice ao m co) := by rw [hX, hb]; simp
  have hcb : X.cell? ⟨b, 1, none⟩ = some (.slice ar m2 cr) := by rw [hX, hb]; simp
  have hcn : X.cell? ⟨b, 2, none⟩ = some (.slice an m3 cn) := by rw [hX, hb]; simp
  have HM := Lib.hid (And.intro hm (And.intro hm2 hm3))
  have hml : m ≤ 30 := by rw [hm]; exact hs.out.o
  obtain ⟨ap, cp, hvp⟩ := hp.out.shape
  subst hvp
  obtain ⟨k, hk⟩ : ∃ k, k = P.length := ⟨_, rfl⟩
  have HK := Lib.hid hk
  have HP : Hid (Rd X (.slice ap k cp) 1 P.length (zs P)) := by
    have h9 := hp.out.below HA.out (Nat.le_refl _)
    show Rd _ _ _ _ _
    rw [hk]; exact h9
  rw [← hk] at hpl ⊢
  rw [← hm] at hf2
  have hNO : N.length = O.length := hg.out.2.2.2.1
  have HGO := Lib.hid (gameOf_is O R N _ _ _ true X HRG hs ⟨fun _ => rfl, fun _ => hg.out⟩ (.tuple #[.agg #[.slice ao m co, .slice ar m2 cr, .slice an m3 cn], .bool true]) ⟨fun _ => rfl, fun h => (by cases h)⟩)
  clear h hm hm2 hm3 hp hk
  go_enter Try.func28, Try.ntmps28
  go_upto_region 1 with fail
  rw [← hb, ← hX]
  clear hX hb
  go_wp2_with (fail)
  refine HGO.out.mono ?_
  rintro e w1 ⟨rfl, hB⟩
  obtain ⟨w2, hw2⟩ : ∃ w2, w2 = w1.alloc (.cells #[.slice ao m co, .slice ar m2 cr, .slice an m3 cn] 56) := ⟨_, rfl⟩
  have HB2 : Hid (Below X.heap.size X w2) := by rw [hw2]; exact hB.alloc hB.size _
  have HQ : Hid (w2.heap[w1.heap.size]? = some (.cells #[.slice ao m co, .slice ar m2 cr, .slice an m3 cn] 56 (0, 0))) := by rw [hw2]; exact heap_alloc_new _ _
  obtain ⟨p, hp⟩ : ∃ p, p = w1.heap.size := ⟨_, rfl⟩
  rw [← hp] at HQ
  obtain ⟨c0, c1, c2⟩ := cell3 HQ.out
  have HG2 : Hid (RdG w2 (.slice ao m co) (.slice ar m2 cr) (.slice an m3 cn) O R N) := HRG.out.below HB2.out
  have HP2 : Hid (Rd w2 (.slice ap k cp) 1 P.length (zs P)) := HP.out.below HB2.out (Nat.le_refl _)
  have HBW : Hid (Below w.heap.size w w2) := HA.out.trans (HB2.out.mono HA.out.size)
  have HPS : Hid (p < w2.heap.size) := (Array.getElem?_eq_some_iff.1 HQ.out).1
  clear hB
  go_upto_region 2 with fail
  rw [← hp, ← hw2]
  clear hw2 hp
  have hd : decide (fr < 0) = false := by rw [decide_eq_false_iff_not]; omega
  have hd1 : decide ((m : Int) ≤ fr) = false := by rw [decide_eq_false_iff_not]; omega
  have HSZ := Lib.hid (size_is O R N _ _ _ w2 HG2)
  rw [← HM.out.1] at HSZ

  go_wp2_with (fail)
  refine HSZ.out.mono ?_
  rintro e w3 ⟨rfl, hB⟩
  have HB3 : Hid (Below w2.heap.size w2 w3) := hB
  clear hB

  have HG3 : Hid (RdG w3 (.slice ao m co) (.slice ar m2 cr) (.slice an m3 cn) O R N) := HG2.out.below HB3.out
  have HP3 : Hid (Rd w3 (.slice ap k cp) 1 P.length (zs P)) := HP2.out.below HB3.out (Nat.le_refl _)
  have HQ3 : Hid (w3.heap[p]? = some (.cells #[.slice ao m co, .slice ar m2 cr, .slice an m3 cn] 56 (0, 0))) := by
    show _ = _
    rw [HB3.out.block p HPS.out]; exact HQ.out
  have HBW3 : Hid (Below w.heap.size w w3) := below_step HBW.out HB3.out
  have HPS3 : Hid (p < w3.heap.size) := Nat.lt_of_lt_of_le HPS.out HB3.out.size
  clear c0 c1 c2
  obtain ⟨c0, c1, c2⟩ := cell3 HQ3.out
  have HIP := Lib.hid (isPlan_always O R N P _ _ _ _ (fun _ => true) false w3 HG3 hs hNO HP3 (by rw [← HK.out]; exact hpl) (fun i _ W _ => (always_is (i : Int) W).mono fun e w' h => ⟨h.1, by rw [h.2]; exact Below.refl _ _⟩) ⟨fun h => absurd ⟨h.1, fun i hi => h.2 i hi rfl⟩ hq.out, fun h => (by cases h)⟩)
  go_wp2_with (fail)
  refine HIP.out.mono ?_
  rintro e w4 ⟨rfl, hB⟩
  have HB4 : Hid (Below w3.heap.size w3 w4) := hB
  clear hB
  go_wp2_with (fail)
  refine bodyPost_ret (v := .tuple #[.slice none 0 0, .slice none 0 0, .int .i64 0, .int .i64 2]) (by simp [results, Try.results28, go_sem]) rfl ?_
  exact ⟨rfl, below_step HBW3.out HB4.out⟩

set_option maxRecDepth 100000 in
set_option maxHeartbeats 4000000 in
theorem Play_ok (O R : List Int) (N : List (List Int)) (P : List Int) (fr : Int) (vo vr vn vp : Value) (w : World) (h : Hid (RdG w vo vr vn O R N)) (hs : Hid (Small O R N)) (hp : Hid (Rd w vp 1 P.length (zs P))) (hpl : P.length ≤ 30) (hg : Hid (GameZ O R N)) (v n K J : Nat) (F : List Nat) (hfr : fr = (v : Nat)) (hv : v < n) (hnO : n = O.length) (hPF : P = up F) (hq : Hid (PlanA O N P)) (hK : K ≤ n) (ha : Hid (Pl.Again (fun i => F.getD i 0) v K J)) :
    Calls Try.prog 28 #[.agg #[vo, vr, vn], .int .i64 fr, vp] w fun e w' => (∃ v1 v2, e = .returned (.tuple #[v1, v2, .int .i64 (Pl.topR R ((Pl.orb (fun i => F.getD i 0) v K).drop J) % 2), .int .i64 0]) ∧ NewL w w' v1 ((Pl.orb (fun i => F.getD i 0) v K).take J) ∧ NewL w w' v2 ((Pl.orb (fun i => F.getD i 0) v K).drop J)) ∧ Below w.heap.size w w' := by
  obtain ⟨ao, co, ho⟩ := h.out.o.shape
  obtain ⟨ar, cr, hr⟩ := h.out.r.shape
  obtain ⟨an, cn, hn, _⟩ := h.out.n.shape
  subst ho hr hn
  obtain ⟨m, hm⟩ : ∃ m, m = O.length := ⟨_, rfl⟩
  obtain ⟨m2, hm2⟩ : ∃ m, m = R.length := ⟨_, rfl⟩
  obtain ⟨m3, hm3⟩ : ∃ m, m = N.length := ⟨_, rfl⟩
  obtain ⟨b, hb⟩ : ∃ b, b = w.heap.size := ⟨_, rfl⟩
  rw [← hm, ← hm2, ← hm3] at h ⊢
  obtain ⟨X, hX⟩ : ∃ X, X = w.alloc (.cells #[.slice ao m co, .slice ar m2 cr, .slice an m3 cn] 25) := ⟨_, rfl⟩
  have HA : Hid (Below w.heap.size w X) := by rw [hX]; exact (Below.refl _ _).alloc (Nat.le_refl _) _
  have HRG : Hid (RdG X (.slice ao m co) (.slice ar m2 cr) (.slice an m3 cn) O R N) := h.out.below HA.out
  have hca : X.cell? ⟨b, 0, none⟩ = some (.slice ao m co) := by rw [hX, hb]; simp
  have hcb : X.cell? ⟨b, 1, none⟩ = some (.slice ar m2 cr) := by rw [hX, hb]; simp
  have hcn : X.cell? ⟨b, 2, none⟩ = some (.slice an m3 cn) := by rw [hX, hb]; simp
  have HM := Lib.hid (And.intro hm (And.intro hm2 hm3))
  have hml : m ≤ 30 := by rw [hm]; exact hs.out.o
  obtain ⟨ap, cp, hvp⟩ := hp.out.shape
  subst hvp
  obtain ⟨k, hk⟩ : ∃ k, k = P.length := ⟨_, rfl⟩
  have HK := Lib.hid hk
  have HP : Hid (Rd X (.slice ap k cp) 1 P.length (zs P)) := by
    have h9 := hp.out.below HA.out (Nat.le_refl _)
    show Rd _ _ _ _ _
    rw [hk]; exact h9
  rw [← hk] at hpl ⊢
  subst hfr
  have hNO : N.length = O.length := hg.out.2.2.2.1
  have hnm : n = m := by omega
  subst hnm
  have hFl : F.length = n := by have h9 := hq.out.1; rw [hPF, up_length] at h9; omega
  have hFlt : Hid (∀ i, i < n → F.getD i 0 < n) := fun i hi => by
    have h9 := hq.out.2 i (by omega)
    rw [hPF, up_getD] at h9
    obtain ⟨j, hj, e⟩ := List.getElem_of_mem h9
    have h8 := (hg.out.2.2.2.2 i (by omega)).2.2.2.2 j hj
    have h7 := h8.2.1
    rw [zget _ hj, e] at h7; omega
  have hn24 : n ≤ 24 := by have := hg.out.2.1; omega
  have hv2 : (v : Int) < (n : Int) := by omega
  clear hnO
  have HGO := Lib.hid (gameOf_is O R N _ _ _ true X HRG hs ⟨fun _ => rfl, fun _ => hg.out⟩ (.tuple #[.agg #[.slice ao n co, .slice ar m2 cr, .slice an m3 cn], .bool true]) ⟨fun _ => rfl, fun h => (by cases h)⟩)
  clear h hm hm2 hm3 hp hk
  go_enter Try.func28, Try.ntmps28
  go_upto_region 1 with fail
  rw [← hb, ← hX]
  clear hX hb
  go_wp2_with (fail)
  refine HGO.out.mono ?_
  rintro e w1 ⟨rfl, hB⟩
  obtain ⟨w2, hw2⟩ : ∃ w2, w2 = w1.alloc (.cells #[.slice ao n co, .slice ar m2 cr, .slice an m3 cn] 56) := ⟨_, rfl⟩
  have HB2 : Hid (Below X.heap.size X w2) := by rw [hw2]; exact hB.alloc hB.size _
  have HQ : Hid (w2.heap[w1.heap.size]? = some (.cells #[.slice ao n co, .slice ar m2 cr, .slice an m3 cn] 56 (0, 0))) := by rw [hw2]; exact heap_alloc_new _ _
  obtain ⟨p, hp⟩ : ∃ p, p = w1.heap.size := ⟨_, rfl⟩
  rw [← hp] at HQ
  obtain ⟨c0, c1, c2⟩ := cell3 HQ.out
  have HG2 : Hid (RdG w2 (.slice ao n co) (.slice ar m2 cr) (.slice an m3 cn) O R N) := HRG.out.below HB2.out
  have HP2 : Hid (Rd w2 (.slice ap k cp) 1 P.length (zs P)) := HP.out.below HB2.out (Nat.le_refl _)
  have HBW : Hid (Below w.heap.size w w2) := HA.out.trans (HB2.out.mono HA.out.size)
  have HPS : Hid (p < w2.heap.size) := (Array.getElem?_eq_some_iff.1 HQ.out).1
  clear hB
  go_upto_region 2 with fail
  rw [← hp, ← hw2]
  clear hw2 hp
  have hd : decide ((v : Int) < 0) = false := by rw [decide_eq_false_iff_not]; omega
  have hd1 : decide ((n : Int) ≤ (v : Int)) = false := by rw [decide_eq_false_iff_not]; omega
  have HSZ := Lib.hid (size_is O R N _ _ _ w2 HG2)
  rw [← HM.out.1] at HSZ

  go_wp2_with (fail)
  refine HSZ.out.mono ?_
  rintro e w3 ⟨rfl, hB⟩
  have HB3 : Hid (Below w2.heap.size w2 w3) := hB
  clear hB

  have HG3 : Hid (RdG w3 (.slice ao n co) (.slice ar m2 cr) (.slice an m3 cn) O R N) := HG2.out.below HB3.out
  have HP3 : Hid (Rd w3 (.slice ap k cp) 1 P.length (zs P)) := HP2.out.below HB3.out (Nat.le_refl _)
  have HQ3 : Hid (w3.heap[p]? = some (.cells #[.slice ao n co, .slice ar m2 cr, .slice an m3 cn] 56 (0, 0))) := by
    show _ = _
    rw [HB3.out.block p HPS.out]; exact HQ.out
  have HBW3 : Hid (Below w.heap.size w w3) := below_step HBW.out HB3.out
  have HPS3 : Hid (p < w3.heap.size) := Nat.lt_of_lt_of_le HPS.out HB3.out.size
  clear c0 c1 c2
  obtain ⟨c0, c1, c2⟩ := cell3 HQ3.out
  have HIP := Lib.hid (isPlan_always O R N P _ _ _ _ (fun _ => true) true w3 HG3 hs hNO HP3 (by rw [← HK.out]; exact hpl) (fun i _ W _ => (always_is (i : Int) W).mono fun e w' h => ⟨h.1, by rw [h.2]; exact Below.refl _ _⟩) ⟨fun _ => rfl, fun _ => ⟨hq.out.1, fun i hi _ => hq.out.2 i hi⟩⟩)
  go_wp2_with (fail)
  refine HIP.out.mono ?_
  rintro e w4 ⟨rfl, hB⟩
  have HB4 : Hid (Below w3.heap.size w3 w4) := hB
  clear hB
  have HQ4 : Hid (w4.heap[p]? = some (.cells #[.slice ao n co, .slice ar m2 cr, .slice an m3 cn] 56 (0, 0))) := by
    show _ = _
    rw [HB4.out.block p HPS3.out]; exact HQ3.out
  have HG4 : Hid (RdG w4 (.slice ao n co) (.slice ar m2 cr) (.slice an m3 cn) O R N) := HG3.out.below HB4.out
  have HF4 : Hid (Rd w4 (.slice ap k cp) 1 F.length (nats F)) := by
    have h9 := HP3.out.below HB4.out (Nat.le_refl _)
    show Rd _ _ _ _ _
    rw [hPF, zs_up, up_length] at h9; exact h9
  have HBW4 : Hid (Below w.heap.size w w4) := below_step HBW3.out HB4.out
  have HPS4 : Hid (p < w4.heap.size) := Nat.lt_of_lt_of_le HPS3.out HB4.out.size
  have HPL := Lib.hid (play_is F v n K J _ w4 HF4 hFl.symm hn24 hv hFlt hK ha)
  have HJ := ha.out.lt
  have HORB : Hid (∀ x ∈ (Pl.orb (fun i => F.getD i 0) v K).drop J, x < R.length ∧ 0 ≤ R.getD x 0 ∧ R.getD x 0 ≤ 9) := fun x hx => by
    obtain ⟨i, hi, rfl⟩ := (Pl.mem_orb _ _ _ _).1 (List.mem_of_mem_drop hx)
    have h9 := Pl.it_lt hv hFlt.out i
    have h6 := HM.out.1
    have h8 := hg.out.2.2.2.2 (Pl.it (fun i => F.getD i 0) v i) (by omega)
    have h7 := hg.out.2.2.1
    exact ⟨by omega, h8.2.1, h8.2.2.1⟩
  obtain ⟨L1, hL1⟩ : ∃ L, L = (Pl.orb (fun i => F.getD i 0) v K).take J := ⟨_, rfl⟩
  obtain ⟨L2, hL2⟩ : ∃ L, L = (Pl.orb (fun i => F.getD i 0) v K).drop J := ⟨_, rfl⟩
  have hL2l : L2.length ≤ 1000000 := by rw [hL2, List.length_drop, Pl.orb_length]; omega
  rw [← hL1, ← hL2] at HPL
  have HLE := Lib.hid (And.intro hL1 hL2)
  rw [← hL2] at HORB
  have htop := Pl.topR_bd R L2 fun l hl => (HORB.out l hl).2
  obtain ⟨z, hz⟩ : ∃ z, z = Pl.topR R L2 := ⟨_, rfl⟩
  have HZ := Lib.hid hz
  rw [← hz] at htop
  clear c0 c1 c2 hL1 hL2 hFl hPF hz
  go_wp2_with (fail)
  refine HPL.out.mono ?_
  rintro e w5 ⟨⟨v1, v2, rfl, hN1, hN2⟩, hB⟩
  obtain ⟨x1, y1, hv1, _⟩ := own_form hN1
  obtain ⟨x2, y2, hv2', _⟩ := own_form hN2
  subst hv1 hv2'
  have HN1 := Lib.hid hN1
  have HN2 := Lib.hid hN2
  have HB5 : Hid (Below w4.heap.size w4 w5) := hB
  have HQ5 : Hid (w5.heap[p]? = some (.cells #[.slice ao n co, .slice ar m2 cr, .slice an m3 cn] 56 (0, 0))) := by
    show _ = _
    rw [hB.block p HPS4.out]; exact HQ4.out
  have HG5 : Hid (RdG w5 (.slice ao n co) (.slice ar m2 cr) (.slice an m3 cn) O R N) := HG4.out.below hB
  have HL5 : Hid (Rd w5 (.slice x2 L2.length y2) 1 L2.length (nats L2)) := hN2.rd
  have HGR := Lib.hid (greatestRank_is O R N L2 _ _ _ _ w5 HG5 hs HL5 hL2l HORB)
  rw [← HZ.out] at HGR
  obtain ⟨c0, c1, c2⟩ := cell3 HQ5.out
  have hz2 : (z : Int).tmod 2 = z % 2 := Int.tmod_eq_emod_of_nonneg htop.1
  obtain ⟨hz0, hz9⟩ := htop
  clear hN1 hN2 hB
  go_wp2_with (fail)
  refine HGR.out.mono ?_
  rintro e w6 ⟨rfl, hB⟩
  have HRES : Hid ((NewL w w6 (.slice x1 L1.length y1) L1 ∧ NewL w w6 (.slice x2 L2.length y2) L2) ∧ Below w.heap.size w w6) := ⟨⟨(HN1.out.keep hB).from HBW4.out.size, (HN2.out.keep hB).from HBW4.out.size⟩, below_step (below_step HBW4.out HB5.out) hB⟩
  clear hB HN1 HN2
  go_wp2_with (fail)
  rw [← HLE.out.1, ← HLE.out.2, ← HZ.out]
  refine bodyPost_ret (v := .tuple #[.slice x1 L1.length y1, .slice x2 L2.length y2, .int .i64 (z % 2), .int .i64 0]) (by simp [results, Try.results28, go_sem, hz2]) rfl ?_
  exact ⟨⟨_, _, rfl, HRES.out.1.1, HRES.out.1.2⟩, HRES.out.2⟩

end Go.Proofs.Ytahhkbdodgjaeaa
