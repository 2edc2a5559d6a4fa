/- The walk over Turn. -/
import Derived.Test.YtahhkbdodgjaeaaPh
namespace Go.Proofs.Ytahhkbdodgjaeaa
open Go.RowKit

set_option maxRecDepth 100000 in
set_option maxHeartbeats 4000000 in
theorem Turn_none (O R : List Int) (N : List (List Int)) (vo vr vn : Value) (w : World) (h : Hid (RdG w vo vr vn O R N)) (hs : Hid (Small O R N)) (hg : Hid (¬ GameZ O R N)) :
    Calls Try.prog 33 #[.agg #[vo, vr, vn]] w fun e w' => e = .returned (.tuple #[.agg #[.slice none 0 0, .slice none 0 0, .slice none 0 0], .int .i64 2]) ∧ Below w.heap.size w w' := by
  obtain ⟨ao, co, ho⟩ := h.out.o.shape
  obtain ⟨ar, cr, hr⟩ := h.out.r.shape
  obtain ⟨an, cn, hn, _⟩ := h.out.n.shape
  subst ho hr hn
  obtain ⟨m, hm⟩ : ∃ m, m = O.length := ⟨_, rfl⟩
  obtain ⟨m2, hm2⟩ : ∃ m, m = R.length := ⟨_, rfl⟩
  obtain ⟨m3, hm3⟩ : ∃ m, m = N.length := ⟨_, rfl⟩
  obtain ⟨b, hb⟩ : ∃ b, b = w.heap.size := ⟨_, rfl⟩
  rw [← hm, ← hm2, ← hm3] at h ⊢
  obtain ⟨X, hX⟩ : ∃ X, X = (w.alloc (.cells #[.slice ao m co, .slice ar m2 cr, .slice an m3 cn] 25)).alloc (.cells #[.slice none 0 0, .slice none 0 0, .slice none 0 0] 25) := ⟨_, rfl⟩
  have hXs : X.heap.size = b + 2 := by rw [hX, hb]; simp
  have HA : Hid (Below w.heap.size w X) := by rw [hX]; exact ((Below.refl _ _).alloc (Nat.le_refl _) _).alloc (by simp) _
  have HRG : Hid (RdG X (.slice ao m co) (.slice ar m2 cr) (.slice an m3 cn) O R N) := h.out.below HA.out
  have hca : X.cell? ⟨b, 0, none⟩ = some (.slice ao m co) := by rw [hX, hb]; simp
  have hcb : X.cell? ⟨b, 1, none⟩ = some (.slice ar m2 cr) := by rw [hX, hb]; simp
  have hcn : X.cell? ⟨b, 2, none⟩ = some (.slice an m3 cn) := by rw [hX, hb]; simp
  have HRB : Hid (X.heap[b + 1]? = some (.cells #[.slice none 0 0, .slice none 0 0, .slice none 0 0] 25 (0, 0))) := by
    show _ = _
    rw [hX, hb]
    have h9 := heap_alloc_new (w.alloc (.cells #[.slice ao m co, .slice ar m2 cr, .slice an m3 cn] 25)) (.cells #[.slice none 0 0, .slice none 0 0, .slice none 0 0] 25)
    rw [show (w.alloc (.cells #[.slice ao m co, .slice ar m2 cr, .slice an m3 cn] 25)).heap.size = w.heap.size + 1 by simp] at h9
    exact h9
  have HXS := Lib.hid hXs
  have HBE := Lib.hid hb
  have HM := Lib.hid (And.intro hm (And.intro hm2 hm3))
  have hml2 : m2 ≤ 30 := by rw [hm2]; exact hs.out.r
  have HGO := Lib.hid (gameOf_is O R N _ _ _ false X HRG hs ⟨fun h => absurd h hg.out, fun h => (by cases h)⟩ (.tuple #[.agg #[.slice none 0 0, .slice none 0 0, .slice none 0 0], .bool false]) ⟨fun h => (by cases h), fun _ => rfl⟩)
  clear h hm hm2 hm3 hXs
  go_enter Try.func33, Try.ntmps33
  go_upto_region 1 with fail
  rw [← hb, ← hX]
  clear hX hb
  go_wp2_with (fail)
  refine HGO.out.mono ?_
  rintro e w1 ⟨rfl, hB⟩
  obtain ⟨w2, hw2⟩ : ∃ w2, w2 = w1.alloc (.cells #[.slice none 0 0, .slice none 0 0, .slice none 0 0] 56) := ⟨_, rfl⟩
  have HB1 : Hid (Below X.heap.size X w1) := hB
  have HB2 : Hid (Below X.heap.size X w2) := by rw [hw2]; exact hB.alloc hB.size _
  have HP : Hid (w2.heap[w1.heap.size]? = some (.cells #[.slice none 0 0, .slice none 0 0, .slice none 0 0] 56 (0, 0))) := by rw [hw2]; exact heap_alloc_new _ _
  obtain ⟨p, hp⟩ : ∃ p, p = w1.heap.size := ⟨_, rfl⟩
  rw [← hp] at HP
  obtain ⟨c0, c1, c2⟩ := cell3 HP.out
  have HR2 : Hid (w2.heap[b + 1]? = some (.cells #[.slice none 0 0, .slice none 0 0, .slice none 0 0] 25 (0, 0))) := by
    show _ = _
    rw [HB2.out.block (b + 1) (by have := HXS.out; omega)]; exact HRB.out
  have HG2 : Hid (RdG w2 (.slice ao m co) (.slice ar m2 cr) (.slice an m3 cn) O R N) := HRG.out.below HB2.out
  clear hB
  go_upto_region 2 with fail
  rw [← hp, ← hw2]
  clear hw2 hp
  obtain ⟨e0, e1, e2⟩ := cell3 HR2.out
  have f0 := froz3 HR2.out 0
  have f1 := froz3 HR2.out 1
  have f2 := froz3 HR2.out 2
  go_wp2_with (fail)
  have hE := heap_set3 HR2.out (.slice none 0 0) (.slice none 0 0) (.slice none 0 0)
  obtain ⟨k0, k1, k2⟩ := cell3 hE
  have hbw : w.heap.size ≤ b + 1 := by have := HBE.out; omega
  have hBB := HA.out.trans (HB2.out.mono HA.out.size)
  refine bodyPost_ret (v := .tuple #[.agg #[.slice none 0 0, .slice none 0 0, .slice none 0 0], .int .i64 2]) (by simp [results, Try.results33, go_sem, k0, k1, k2]) rfl ?_
  exact ⟨rfl, ((hBB.setCell (p := ⟨b + 1, 0, none⟩) hbw _).setCell (p := ⟨b + 1, 1, none⟩) hbw _).setCell (p := ⟨b + 1, 2, none⟩) hbw _⟩

set_option maxRecDepth 100000 in
set_option maxHeartbeats 4000000 in
theorem Turn_max (O R : List Int) (N : List (List Int)) (vo vr vn : Value) (w : World) (h : Hid (RdG w vo vr vn O R N)) (hs : Hid (Small O R N)) (hg : Hid (GameZ O R N)) (h9 : Hid ((9 : Int) ∈ R)) :
    Calls Try.prog 33 #[.agg #[vo, vr, vn]] w fun e w' => e = .returned (.tuple #[.agg #[.slice none 0 0, .slice none 0 0, .slice none 0 0], .int .i64 2]) ∧ Below w.heap.size w w' := by
  obtain ⟨ao, co, ho⟩ := h.out.o.shape
  obtain ⟨ar, cr, hr⟩ := h.out.r.shape
  obtain ⟨an, cn, hn, _⟩ := h.out.n.shape
  subst ho hr hn
  obtain ⟨m, hm⟩ : ∃ m, m = O.length := ⟨_, rfl⟩
  obtain ⟨m2, hm2⟩ : ∃ m, m = R.length := ⟨_, rfl⟩
  obtain ⟨m3, hm3⟩ : ∃ m, m = N.length := ⟨_, rfl⟩
  obtain ⟨b, hb⟩ : ∃ b, b = w.heap.size := ⟨_, rfl⟩
  rw [← hm, ← hm2, ← hm3] at h ⊢
  obtain ⟨X, hX⟩ : ∃ X, X = (w.alloc (.cells #[.slice ao m co, .slice ar m2 cr, .slice an m3 cn] 25)).alloc (.cells #[.slice none 0 0, .slice none 0 0, .slice none 0 0] 25) := ⟨_, rfl⟩
  have hXs : X.heap.size = b + 2 := by rw [hX, hb]; simp
  have HA : Hid (Below w.heap.size w X) := by rw [hX]; exact ((Below.refl _ _).alloc (Nat.le_refl _) _).alloc (by simp) _
  have HRG : Hid (RdG X (.slice ao m co) (.slice ar m2 cr) (.slice an m3 cn) O R N) := h.out.below HA.out
  have hca : X.cell? ⟨b, 0, none⟩ = some (.slice ao m co) := by rw [hX, hb]; simp
  have hcb : X.cell? ⟨b, 1, none⟩ = some (.slice ar m2 cr) := by rw [hX, hb]; simp
  have hcn : X.cell? ⟨b, 2, none⟩ = some (.slice an m3 cn) := by rw [hX, hb]; simp
  have HRB : Hid (X.heap[b + 1]? = some (.cells #[.slice none 0 0, .slice none 0 0, .slice none 0 0] 25 (0, 0))) := by
    show _ = _
    rw [hX, hb]
    have h9 := heap_alloc_new (w.alloc (.cells #[.slice ao m co, .slice ar m2 cr, .slice an m3 cn] 25)) (.cells #[.slice none 0 0, .slice none 0 0, .slice none 0 0] 25)
    rw [show (w.alloc (.cells #[.slice ao m co, .slice ar m2 cr, .slice an m3 cn] 25)).heap.size = w.heap.size + 1 by simp] at h9
    exact h9
  have HXS := Lib.hid hXs
  have HBE := Lib.hid hb
  have HM := Lib.hid (And.intro hm (And.intro hm2 hm3))
  have hml2 : m2 ≤ 30 := by rw [hm2]; exact hs.out.r
  have HGO := Lib.hid (gameOf_is O R N _ _ _ true X HRG hs ⟨fun _ => rfl, fun _ => hg.out⟩ (.tuple #[.agg #[.slice ao m co, .slice ar m2 cr, .slice an m3 cn], .bool true]) ⟨fun _ => rfl, fun h => (by cases h)⟩)
  clear h hm hm2 hm3 hXs
  go_enter Try.func33, Try.ntmps33
  go_upto_region 1 with fail
  rw [← hb, ← hX]
  clear hX hb
  go_wp2_with (fail)
  refine HGO.out.mono ?_
  rintro e w1 ⟨rfl, hB⟩
  obtain ⟨w2, hw2⟩ : ∃ w2, w2 = w1.alloc (.cells #[.slice ao m co, .slice ar m2 cr, .slice an m3 cn] 56) := ⟨_, rfl⟩
  have HB1 : Hid (Below X.heap.size X w1) := hB
  have HB2 : Hid (Below X.heap.size X w2) := by rw [hw2]; exact hB.alloc hB.size _
  have HP : Hid (w2.heap[w1.heap.size]? = some (.cells #[.slice ao m co, .slice ar m2 cr, .slice an m3 cn] 56 (0, 0))) := by rw [hw2]; exact heap_alloc_new _ _
  obtain ⟨p, hp⟩ : ∃ p, p = w1.heap.size := ⟨_, rfl⟩
  rw [← hp] at HP
  obtain ⟨c0, c1, c2⟩ := cell3 HP.out
  have HR2 : Hid (w2.heap[b + 1]? = some (.cells #[.slice none 0 0, .slice none 0 0, .slice none 0 0] 25 (0, 0))) := by
    show _ = _
    rw [HB2.out.block (b + 1) (by have := HXS.out; omega)]; exact HRB.out
  have HG2 : Hid (RdG w2 (.slice ao m co) (.slice ar m2 cr) (.slice an m3 cn) O R N) := HRG.out.below HB2.out
  clear hB
  go_upto_region 2 with fail
  rw [← hp, ← hw2]
  clear hw2 hp
  have HRR : Hid (Rd w2 (.slice ar m2 cr) 1 R.length (zs R)) := HG2.out.r
  have HCT := Lib.hid (contains_is R 9 true _ w2 HRR (by have := HM.out; omega) ⟨fun _ => rfl, fun _ => h9.out⟩)
  go_wp2_with (fail)
  refine HCT.out.mono ?_
  rintro e w3 ⟨rfl, rfl⟩
  obtain ⟨e0, e1, e2⟩ := cell3 HR2.out
  have f0 := froz3 HR2.out 0
  have f1 := froz3 HR2.out 1
  have f2 := froz3 HR2.out 2
  go_wp2_with (fail)
  have hE := heap_set3 HR2.out (.slice none 0 0) (.slice none 0 0) (.slice none 0 0)
  obtain ⟨k0, k1, k2⟩ := cell3 hE
  have hbw : w.heap.size ≤ b + 1 := by have := HBE.out; omega
  have hBB := HA.out.trans (HB2.out.mono HA.out.size)
  refine bodyPost_ret (v := .tuple #[.agg #[.slice none 0 0, .slice none 0 0, .slice none 0 0], .int .i64 2]) (by simp [results, Try.results33, go_sem, k0, k1, k2]) rfl ?_
  exact ⟨rfl, ((hBB.setCell (p := ⟨b + 1, 0, none⟩) hbw _).setCell (p := ⟨b + 1, 1, none⟩) hbw _).setCell (p := ⟨b + 1, 2, none⟩) hbw _⟩

set_option maxRecDepth 100000 in
set_option maxHeartbeats 4000000 in
theorem Turn_ok (O R : List Int) (N : List (List Int)) (vo vr vn : Value) (w : World) (h : Hid (RdG w vo vr vn O R N)) (hs : Hid (Small O R N)) (hg : Hid (GameZ O R N)) (h9 : Hid (¬ (9 : Int) ∈ R)) :
    Calls Try.prog 33 #[.agg #[vo, vr, vn]] w fun e w' => (∃ v1 v2 v3 vs, e = .returned (.tuple #[.agg #[v1, v2, v3], .int .i64 0]) ∧ OwnG w w' v1 v2 v3 vs (O.map (1 - ·)) (R.map (· + 1)) N) ∧ Below w.heap.size w w' := by
  obtain ⟨ao, co, ho⟩ := h.out.o.shape
  obtain ⟨ar, cr, hr⟩ := h.out.r.shape
  obtain ⟨an, cn, hn, _⟩ := h.out.n.shape
  subst ho hr hn
  obtain ⟨m, hm⟩ : ∃ m, m = O.length := ⟨_, rfl⟩
  obtain ⟨m2, hm2⟩ : ∃ m, m = R.length := ⟨_, rfl⟩
  obtain ⟨m3, hm3⟩ : ∃ m, m = N.length := ⟨_, rfl⟩
  obtain ⟨b, hb⟩ : ∃ b, b = w.heap.size := ⟨_, rfl⟩
  rw [← hm, ← hm2, ← hm3] at h ⊢
  obtain ⟨X, hX⟩ : ∃ X, X = (w.alloc (.cells #[.slice ao m co, .slice ar m2 cr, .slice an m3 cn] 25)).alloc (.cells #[.slice none 0 0, .slice none 0 0, .slice none 0 0] 25) := ⟨_, rfl⟩
  have hXs : X.heap.size = b + 2 := by rw [hX, hb]; simp
  have HA : Hid (Below w.heap.size w X) := by rw [hX]; exact ((Below.refl _ _).alloc (Nat.le_refl _) _).alloc (by simp) _
  have HRG : Hid (RdG X (.slice ao m co) (.slice ar m2 cr) (.slice an m3 cn) O R N) := h.out.below HA.out
  have hca : X.cell? ⟨b, 0, none⟩ = some (.slice ao m co) := by rw [hX, hb]; simp
  have hcb : X.cell? ⟨b, 1, none⟩ = some (.slice ar m2 cr) := by rw [hX, hb]; simp
  have hcn : X.cell? ⟨b, 2, none⟩ = some (.slice an m3 cn) := by rw [hX, hb]; simp
  have HRB : Hid (X.heap[b + 1]? = some (.cells #[.slice none 0 0, .slice none 0 0, .slice none 0 0] 25 (0, 0))) := by
    show _ = _
    rw [hX, hb]
    have h9 := heap_alloc_new (w.alloc (.cells #[.slice ao m co, .slice ar m2 cr, .slice an m3 cn] 25)) (.cells #[.slice none 0 0, .slice none 0 0, .slice none 0 0] 25)
    rw [show (w.alloc (.cells #[.slice ao m co, .slice ar m2 cr, .slice an m3 cn] 25)).heap.size = w.heap.size + 1 by simp] at h9
    exact h9
  have HXS := Lib.hid hXs
  have HBE := Lib.hid hb
  have HM := Lib.hid (And.intro hm (And.intro hm2 hm3))
  have hml2 : m2 ≤ 30 := by rw [hm2]; exact hs.out.r
  have HGO := Lib.hid (gameOf_is O R N _ _ _ true X HRG hs ⟨fun _ => rfl, fun _ => hg.out⟩ (.tuple #[.agg #[.slice ao m co, .slice ar m2 cr, .slice an m3 cn], .bool true]) ⟨fun _ => rfl, fun h => (by cases h)⟩)
  clear h hm hm2 hm3 hXs
  go_enter Try.func33, Try.ntmps33
  go_upto_region 1 with fail
  rw [← hb, ← hX]
  clear hX hb
  go_wp2_with (fail)
  refine HGO.out.mono ?_
  rintro e w1 ⟨rfl, hB⟩
  obtain ⟨w2, hw2⟩ : ∃ w2, w2 = w1.alloc (.cells #[.slice ao m co, .slice ar m2 cr, .slice an m3 cn] 56) := ⟨_, rfl⟩
  have HB1 : Hid (Below X.heap.size X w1) := hB
  have HB2 : Hid (Below X.heap.size X w2) := by rw [hw2]; exact hB.alloc hB.size _
  have HP : Hid (w2.heap[w1.heap.size]? = some (.cells #[.slice ao m co, .slice ar m2 cr, .slice an m3 cn] 56 (0, 0))) := by rw [hw2]; exact heap_alloc_new _ _
  obtain ⟨p, hp⟩ : ∃ p, p = w1.heap.size := ⟨_, rfl⟩
  rw [← hp] at HP
  obtain ⟨c0, c1, c2⟩ := cell3 HP.out
  have HR2 : Hid (w2.heap[b + 1]? = some (.cells #[.slice none 0 0, .slice none 0 0, .slice none 0 0] 25 (0, 0))) := by
    show _ = _
    rw [HB2.out.block (b + 1) (by have := HXS.out; omega)]; exact HRB.out
  have HG2 : Hid (RdG w2 (.slice ao m co) (.slice ar m2 cr) (.slice an m3 cn) O R N) := HRG.out.below HB2.out
  clear hB
  go_upto_region 2 with fail
  rw [← hp, ← hw2]
  clear hw2 hp
  have HRR : Hid (Rd w2 (.slice ar m2 cr) 1 R.length (zs R)) := HG2.out.r
  have HCT := Lib.hid (contains_is R 9 false _ w2 HRR (by have := HM.out; omega) ⟨fun h => absurd h h9.out, fun h => (by cases h)⟩)
  go_wp2_with (fail)
  refine HCT.out.mono ?_
  rintro e w3 ⟨rfl, rfl⟩
  go_wp2_with (fail)
  refine (turned_is O R N _ _ _ _ HG2 hs hg).mono ?_
  rintro e w4 ⟨⟨v1, v2, v3, vs, rfl, hO⟩, hB⟩
  obtain ⟨a1, d1, hv1, _⟩ := own_form hO.a
  obtain ⟨a2, d2, hv2, _⟩ := own_form hO.b
  obtain ⟨a3, d3, hv3, _⟩ := own_form hO.c
  subst hv1 hv2 hv3
  have HO := Lib.hid hO
  have hb3 : b + 1 < w3.heap.size := by have := HB2.out.size; have := HXS.out; omega
  have HR4 : Hid (w4.heap[b + 1]? = some (.cells #[.slice none 0 0, .slice none 0 0, .slice none 0 0] 25 (0, 0))) := by
    show _ = _
    rw [hB.block (b + 1) hb3]; exact HR2.out
  have HB4 : Hid (Below X.heap.size X w4) := below_step HB2.out hB
  have HB3 := Lib.hid hb3
  obtain ⟨e0, e1, e2⟩ := cell3 HR4.out
  have f0 := froz3 HR4.out 0
  have f1 := froz3 HR4.out 1
  have f2 := froz3 HR4.out 2
  obtain ⟨n1, hn1⟩ : ∃ n, n = (O.map (1 - ·)).length := ⟨_, rfl⟩
  obtain ⟨n2, hn2⟩ : ∃ n, n = (R.map (· + 1)).length := ⟨_, rfl⟩
  rw [← hn1, ← hn2] at HO ⊢
  clear hO hB hb3 hn1 hn2
  go_wp2_with (fail)
  have hE := heap_set3 HR4.out (.slice a1 n1 d1) (.slice a2 n2 d2) (.slice a3 N.length d3)
  obtain ⟨k0, k1, k2⟩ := cell3 hE
  have hbw : w.heap.size ≤ b + 1 := by have := HBE.out; omega
  have hBB := HA.out.trans (HB4.out.mono HA.out.size)
  refine bodyPost_ret (v := .tuple #[.agg #[.slice a1 n1 d1, .slice a2 n2 d2, .slice a3 N.length d3], .int .i64 0]) (by simp [results, Try.results33, go_sem, k0, k1, k2]) rfl ?_
  exact ⟨⟨_, _, _, _, rfl, (((HO.out.set HB3.out _).set HB3.out _).set HB3.out _).from (by have := HB2.out.size; have := HA.out.size; omega)⟩, ((hBB.setCell (p := ⟨b + 1, 0, none⟩) hbw _).setCell (p := ⟨b + 1, 1, none⟩) hbw _).setCell (p := ⟨b + 1, 2, none⟩) hbw _⟩

end Go.Proofs.Ytahhkbdodgjaeaa
