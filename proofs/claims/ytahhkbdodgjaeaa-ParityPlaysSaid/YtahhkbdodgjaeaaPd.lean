/- The walks over gameOf and the reference's Game. -/
import Derived.Test.YtahhkbdodgjaeaaPb
import Derived.Test.YtahhkbdodgjaeaaPc
namespace Go.Proofs.Ytahhkbdodgjaeaa
open Go.RowKit

theorem cell3 {w : World} {G : Nat} {x y z : Value} {t : TypeId} (h : w.heap[G]? = some (.cells #[x, y, z] t (0, 0))) : w.cell? ⟨G, 0, none⟩ = some x ∧ w.cell? ⟨G, 1, none⟩ = some y ∧ w.cell? ⟨G, 2, none⟩ = some z := by
  refine ⟨?_, ?_, ?_⟩ <;> (simp only [World.cell?, h]; rfl)
theorem froz3 {w : World} {G : Nat} {c : Array Value} {t : TypeId} (h : w.heap[G]? = some (.cells c t (0, 0))) (i : Nat) : w.frozen? ⟨G, i, none⟩ = false := by
  simp only [World.frozen?, h]; simp

/-- A game that is read. -/
structure RdG (w : World) (vo vr vn : Value) (O R : List Int) (N : List (List Int)) : Prop where
  o : Rd w vo 1 O.length (zs O)
  r : Rd w vr 1 R.length (zs R)
  n : RdZ w vn N
theorem RdG.below {w w' : World} {vo vr vn : Value} {O R : List Int} {N : List (List Int)} (h : RdG w vo vr vn O R N) (hB : Below w.heap.size w w') : RdG w' vo vr vn O R N :=
  ⟨h.o.below hB (Nat.le_refl _), h.r.below hB (Nat.le_refl _), h.n.below hB⟩
def okAt (O R : List Int) (N : List (List Int)) (i : Nat) : Prop := (O.getD i 0 = 0 ∨ O.getD i 0 = 1) ∧ 0 ≤ R.getD i 0 ∧ R.getD i 0 ≤ 9 ∧ (N.getD i []).length ≠ 0 ∧ AscZ O.length (N.getD i [])
def GameZ (O R : List Int) (N : List (List Int)) : Prop := 1 ≤ O.length ∧ O.length ≤ 24 ∧ R.length = O.length ∧ N.length = O.length ∧ ∀ i, i < O.length → okAt O R N i
/-- Small enough. -/
structure Small (O R : List Int) (N : List (List Int)) : Prop where
  o : O.length ≤ 30
  r : R.length ≤ 30
  n : N.length ≤ 30
  l : ∀ L ∈ N, L.length ≤ 30
theorem Small.at {O R : List Int} {N : List (List Int)} (h : Small O R N) (i : Nat) : (N.getD i []).length ≤ 30 := by
  by_cases hi : i < N.length
  · exact h.l _ (by simp [List.getD, hi])
  · simp [List.getD, hi]

set_option maxRecDepth 100000 in
set_option maxHeartbeats 4000000 in
theorem gameOf_is (O R : List Int) (N : List (List Int)) (vo vr vn : Value) (t : Bool) (w : World) (h : Hid (RdG w vo vr vn O R N)) (hs : Hid (Small O R N)) (ht : Hid (GameZ O R N ↔ t = true)) (rv : Value) (hv : Hid ((t = true → rv = .tuple #[.agg #[vo, vr, vn], .bool true]) ∧ (t = false → rv = .tuple #[.agg #[.slice none 0 0, .slice none 0 0, .slice none 0 0], .bool false]))) :
    Calls Try.prog 38 #[.agg #[vo, vr, vn]] w fun e w' => e = .returned rv ∧ Below w.heap.size w w' := by
  obtain ⟨ao, co, ho⟩ := h.out.o.shape
  obtain ⟨ar, cr, hr⟩ := h.out.r.shape
  obtain ⟨an, cn, hn, _⟩ := h.out.n.shape
  subst ho hr hn
  obtain ⟨m, hm⟩ : ∃ m, m = O.length := ⟨_, rfl⟩
  obtain ⟨m2, hm2⟩ : ∃ m, m = R.length := ⟨_, rfl⟩
  obtain ⟨m3, hm3⟩ : ∃ m, m = N.length := ⟨_, rfl⟩
  have hml : m ≤ 30 := by rw [hm]; exact hs.out.o
  have hml2 : m2 ≤ 30 := by rw [hm2]; exact hs.out.r
  have hml3 : m3 ≤ 30 := by rw [hm3]; exact hs.out.n
  have HM := Lib.hid (And.intro hm (And.intro hm2 hm3))
  obtain ⟨b, hb⟩ : ∃ b, b = w.heap.size := ⟨_, rfl⟩
  obtain ⟨X, hX⟩ : ∃ X, X = (w.alloc (.cells #[.slice ao m co, .slice ar m2 cr, .slice an m3 cn] 25)).alloc (.cells #[.slice none 0 0, .slice none 0 0, .slice none 0 0] 56) := ⟨_, rfl⟩
  have HA : Hid (Below w.heap.size w X) := by rw [hX]; exact ((Below.refl _ _).alloc (Nat.le_refl _) _).alloc (by simp) _
  have HRG : Hid (RdG X (.slice ao m co) (.slice ar m2 cr) (.slice an m3 cn) O R N) := by
    have h9 := h.out.below HA.out
    show RdG _ _ _ _ _ _ _
    rw [hm, hm2, hm3]; exact h9
  have hca : X.cell? ⟨b, 0, none⟩ = some (.slice ao m co) := by rw [hX, hb]; simp
  have hcb : X.cell? ⟨b, 1, none⟩ = some (.slice ar m2 cr) := by rw [hX, hb]; simp
  have hcn : X.cell? ⟨b, 2, none⟩ = some (.slice an m3 cn) := by rw [hX, hb]; simp
  have HRB : Hid (X.heap[b + 1]? = some (.cells #[.slice none 0 0, .slice none 0 0, .slice none 0 0] 56 (0, 0))) := by
    show _ = _
    rw [hX, hb]
    have h9 := heap_alloc_new (w.alloc (.cells #[.slice ao m co, .slice ar m2 cr, .slice an m3 cn] 25)) (.cells #[.slice none 0 0, .slice none 0 0, .slice none 0 0] 56)
    rw [show (w.alloc (.cells #[.slice ao m co, .slice ar m2 cr, .slice an m3 cn] 25)).heap.size = w.heap.size + 1 by simp] at h9
    exact h9
  obtain ⟨e0, e1, e2⟩ := cell3 HRB.out
  have f0 := froz3 HRB.out 0
  have f1 := froz3 HRB.out 1
  have f2 := froz3 HRB.out 2
  have HBW : Hid (w.heap.size ≤ b + 1) := by show _ ≤ _; omega
  have hno : ¬ GameZ O R N → t = false := fun h => by
    cases t with
    | false => rfl
    | true => exact absurd (ht.out.2 rfl) h
  have HNO := Lib.hid hno
  have HX := Lib.hid hX
  rw [← hm, ← hm2, ← hm3] at hv ⊢
  clear hno h hm hm2 hm3
  go_enter Try.func38, Try.ntmps38
  go_upto_region 1 with fail
  rw [← hb, ← hX]
  clear hX hb
  by_cases h1 : m < 1
  · have HT := Lib.hid (HNO.out fun h => by have := h.1; have := HM.out.1; omega)
    have hd1 : decide (m < 1) = true := by simpa using h1
    have hd1' : (m : Int) < 1 := by omega
    go_wp2_with (fail)
    have hE := heap_set3 HRB.out (.slice none 0 0) (.slice none 0 0) (.slice none 0 0)
    obtain ⟨k0, k1, k2⟩ := cell3 hE
    refine bodyPost_ret (v := .tuple #[.agg #[.slice none 0 0, .slice none 0 0, .slice none 0 0], .bool false]) (by simp [results, Try.results38, go_sem, k0, k1, k2]) rfl ?_
    rw [hv.out.2 HT.out]
    exact ⟨rfl, ((HA.out.setCell (p := ⟨b + 1, 0, none⟩) HBW.out _).setCell (p := ⟨b + 1, 1, none⟩) HBW.out _).setCell (p := ⟨b + 1, 2, none⟩) HBW.out _⟩
  · have hd1 : decide (m < 1) = false := by simpa using h1
    have hd1' : ¬ (m : Int) < 1 := by omega
    by_cases h2 : 24 < m
    · have HT := Lib.hid (HNO.out fun h => by have := h.2.1; have := HM.out.1; omega)
      have hd2 : decide (24 < m) = true := by simpa using h2
      have hd2' : 24 < (m : Int) := by omega
      go_wp2_with (fail)
      have hE := heap_set3 HRB.out (.slice none 0 0) (.slice none 0 0) (.slice none 0 0)
      obtain ⟨k0, k1, k2⟩ := cell3 hE
      refine bodyPost_ret (v := .tuple #[.agg #[.slice none 0 0, .slice none 0 0, .slice none 0 0], .bool false]) (by simp [results, Try.results38, go_sem, k0, k1, k2]) rfl ?_
      rw [hv.out.2 HT.out]
      exact ⟨rfl, ((HA.out.setCell (p := ⟨b + 1, 0, none⟩) HBW.out _).setCell (p := ⟨b + 1, 1, none⟩) HBW.out _).setCell (p := ⟨b + 1, 2, none⟩) HBW.out _⟩
    · have hd2 : decide (24 < m) = false := by simpa using h2
      have hd2' : ¬ 24 < (m : Int) := by omega
      by_cases h3 : m2 = m
      · obtain rfl : m = m2 := h3.symm
        by_cases h4 : m3 = m
        · obtain rfl : m = m3 := h4.symm
          have hq : ((m : Int) != (m : Int)) = false := by simp
          clear h3 h4
          go_wp2_with (fail)
          go_loopw [34] (fun iv wx => ∃ (i : Nat), iv = .int .i64 i ∧ i ≤ m ∧ wx = X ∧ Hid (∀ j, j < i → okAt O R N j)) (fun iv _ => m - (intOf iv).toNat)
          case atStart => exact ⟨0, rfl, by omega, rfl, fun j hj => by omega⟩
          case round =>
            obtain ⟨i, rfl, him, rfl, HG⟩ := hrel
            by_cases hin : i < m
            · obtain ⟨bo, eo, _, co1⟩ := zat HRG.out.o i (by have := HM.out.1; omega)
              subst eo
              obtain ⟨br, er, _, cr1⟩ := zat HRG.out.r i (by have := HM.out.2.1; omega)
              subst er
              obtain ⟨bn, xn, yn, en, _, cn1, cn2, rn⟩ := HRG.out.n.rowAt i (by have := HM.out.2.2; omega)
              subst en
              have hin1 : (i : Int) < (m : Int) := by omega
              have hbad : ¬ okAt O R N i → t = false := fun h => HNO.out fun g => h (g.2.2.2.2 i (by have := HM.out.1; omega))
              have hgo : okAt O R N i → ∀ j, j < i + 1 → okAt O R N j := fun h j hj => by
                by_cases hji : j < i
                · exact HG.out j hji
                · obtain rfl : j = i := by omega
                  exact h
              have hLl := hs.out.at i
              unfold okAt at hbad
              obtain ⟨x, hx⟩ : ∃ x, x = O.getD i 0 := ⟨_, rfl⟩
              obtain ⟨y, hy⟩ : ∃ y, y = R.getD i 0 := ⟨_, rfl⟩
              obtain ⟨L, hL⟩ : ∃ L, L = N.getD i [] := ⟨_, rfl⟩
              rw [← hx, ← hy, ← hL] at hbad
              have hok : (x = 0 ∨ x = 1) ∧ 0 ≤ y ∧ y ≤ 9 ∧ L.length ≠ 0 ∧ AscZ m L → ∀ j, j < i + 1 → okAt O R N j := fun h => hgo (by unfold okAt; rw [← hx, ← hy, ← hL, ← HM.out.1]; exact h)
              rw [← hx] at co1
              rw [← hy] at cr1
              rw [← hL] at cn1 cn2 rn hLl
              have HLR := Lib.hid rn
              rw [← HM.out.1] at hbad
              clear hx hy hL rn
              by_cases g1 : x = 0 ∨ x = 1
              · have HP := Lib.hid (fun w => isPlayer_is x true w ⟨fun _ => rfl, fun _ => g1⟩)
                by_cases g2 : y < 0
                · have HT := Lib.hid (hbad fun h => by omega)
                  have hd3 : decide (y < 0) = true := by simpa using g2
                  clear hbad hgo hok g1 g2 hin
                  go_wp2_with (fail)
                  refine (HP.out _).mono ?_
                  rintro e w2 ⟨rfl, rfl⟩
                  go_wp2_with (fail)
                  have hE := heap_set3 HRB.out (.slice none 0 0) (.slice none 0 0) (.slice none 0 0)
                  obtain ⟨k0, k1, k2⟩ := cell3 hE
                  refine bodyPost_ret (v := .tuple #[.agg #[.slice none 0 0, .slice none 0 0, .slice none 0 0], .bool false]) (by simp [results, Try.results38, go_sem, k0, k1, k2]) rfl ?_
                  rw [hv.out.2 HT.out]
                  exact ⟨rfl, ((HA.out.setCell (p := ⟨b + 1, 0, none⟩) HBW.out _).setCell (p := ⟨b + 1, 1, none⟩) HBW.out _).setCell (p := ⟨b + 1, 2, none⟩) HBW.out _⟩
                · have hd3 : decide (y < 0) = false := by simpa using g2
                  by_cases g3 : 9 < y
                  · have HT := Lib.hid (hbad fun h => by omega)
                    have hd4 : decide (9 < y) = true := by simpa using g3
                    clear hbad hgo hok g1 g2 g3 hin
                    go_wp2_with (fail)
                    refine (HP.out _).mono ?_
                    rintro e w2 ⟨rfl, rfl⟩
                    go_wp2_with (fail)
                    have hE := heap_set3 HRB.out (.slice none 0 0) (.slice none 0 0) (.slice none 0 0)
                    obtain ⟨k0, k1, k2⟩ := cell3 hE
                    refine bodyPost_ret (v := .tuple #[.agg #[.slice none 0 0, .slice none 0 0, .slice none 0 0], .bool false]) (by simp [results, Try.results38, go_sem, k0, k1, k2]) rfl ?_
                    rw [hv.out.2 HT.out]
                    exact ⟨rfl, ((HA.out.setCell (p := ⟨b + 1, 0, none⟩) HBW.out _).setCell (p := ⟨b + 1, 1, none⟩) HBW.out _).setCell (p := ⟨b + 1, 2, none⟩) HBW.out _⟩
                  · have hd4 : decide (9 < y) = false := by simpa using g3
                    obtain ⟨k, hk⟩ : ∃ k, k = L.length := ⟨_, rfl⟩
                    rw [← hk] at cn1 cn2 hLl
                    have HK := Lib.hid hk
                    by_cases g4 : k = 0
                    · have HT := Lib.hid (hbad fun h => by omega)
                      have HK0 := Lib.hid g4
                      have hd5 : ((k : Int) == 0) = true := by simp [g4]
                      clear hbad hgo hok g1 g2 g3 g4 hin hk
                      go_wp2_with (fail)
                      refine (HP.out _).mono ?_
                      rintro e w2 ⟨rfl, rfl⟩
                      go_wp2_with (fail)
                      have hE := heap_set3 HRB.out (.slice none 0 0) (.slice none 0 0) (.slice none 0 0)
                      obtain ⟨k0, k1, k2⟩ := cell3 hE
                      refine bodyPost_ret (v := .tuple #[.agg #[.slice none 0 0, .slice none 0 0, .slice none 0 0], .bool false]) (by simp [results, Try.results38, go_sem, k0, k1, k2]) rfl ?_
                      rw [hv.out.2 HT.out]
                      exact ⟨rfl, ((HA.out.setCell (p := ⟨b + 1, 0, none⟩) HBW.out _).setCell (p := ⟨b + 1, 1, none⟩) HBW.out _).setCell (p := ⟨b + 1, 2, none⟩) HBW.out _⟩
                    · have hd5 : ((k : Int) == 0) = false := by rw [beq_eq_false_iff_ne]; omega
                      by_cases g5 : AscZ m L
                      · have HAS := Lib.hid (fun w hr => areAscending_is L m (.slice xn L.length yn) true w hr (by omega) (by omega) ⟨fun _ => rfl, fun _ => g5⟩)
                        rw [← hk] at HAS
                        have HGN : Hid (∀ j, j < i + 1 → okAt O R N j) := hok ⟨g1, by omega, by omega, by omega, g5⟩
                        rw [← hk] at HLR
                        clear hbad hgo hok g1 g2 g3 g4 g5 hin hk
                        go_wp2_with (fail)
                        refine (HP.out _).mono ?_
                        rintro e w2 ⟨rfl, rfl⟩
                        go_wp2_with (fail)
                        refine (HAS.out _ HLR).mono ?_
                        rintro e w2 ⟨rfl, rfl⟩
                        go_wp2_with (fail)
                        go_roundw
                        case rel => exact ⟨i + 1, by first | rfl | go_num, by omega, by first | rfl | trivial, HGN⟩
                        case measure => simp [intOf]; omega
                      · have HAS := Lib.hid (fun w hr => areAscending_is L m (.slice xn L.length yn) false w hr (by omega) (by omega) ⟨fun h => absurd h g5, fun h => by cases h⟩)
                        rw [← hk] at HAS
                        have HT := Lib.hid (hbad fun h => g5 h.2.2.2.2)
                        rw [← hk] at HLR
                        clear hbad hgo hok g1 g2 g3 g4 g5 hin hk
                        go_wp2_with (fail)
                        refine (HP.out _).mono ?_
                        rintro e w2 ⟨rfl, rfl⟩
                        go_wp2_with (fail)
                        refine (HAS.out _ HLR).mono ?_
                        rintro e w2 ⟨rfl, rfl⟩
                        go_wp2_with (fail)
                        have hE := heap_set3 HRB.out (.slice none 0 0) (.slice none 0 0) (.slice none 0 0)
                        obtain ⟨k0, k1, k2⟩ := cell3 hE
                        refine bodyPost_ret (v := .tuple #[.agg #[.slice none 0 0, .slice none 0 0, .slice none 0 0], .bool false]) (by simp [results, Try.results38, go_sem, k0, k1, k2]) rfl ?_
                        rw [hv.out.2 HT.out]
                        exact ⟨rfl, ((HA.out.setCell (p := ⟨b + 1, 0, none⟩) HBW.out _).setCell (p := ⟨b + 1, 1, none⟩) HBW.out _).setCell (p := ⟨b + 1, 2, none⟩) HBW.out _⟩
              · have HT := Lib.hid (hbad fun h => g1 h.1)
                have HP := Lib.hid (fun w => isPlayer_is x false w ⟨fun h => absurd h g1, fun h => by cases h⟩)
                clear hbad hgo hok g1 hin
                go_wp2_with (fail)
                refine (HP.out _).mono ?_
                rintro e w2 ⟨rfl, rfl⟩
                go_wp2_with (fail)
                have hE := heap_set3 HRB.out (.slice none 0 0) (.slice none 0 0) (.slice none 0 0)
                obtain ⟨k0, k1, k2⟩ := cell3 hE
                refine bodyPost_ret (v := .tuple #[.agg #[.slice none 0 0, .slice none 0 0, .slice none 0 0], .bool false]) (by simp [results, Try.results38, go_sem, k0, k1, k2]) rfl ?_
                rw [hv.out.2 HT.out]
                exact ⟨rfl, ((HA.out.setCell (p := ⟨b + 1, 0, none⟩) HBW.out _).setCell (p := ⟨b + 1, 1, none⟩) HBW.out _).setCell (p := ⟨b + 1, 2, none⟩) HBW.out _⟩
            · obtain rfl : m = i := by omega
              have HT : Hid (t = true) := ht.out.1 ⟨by have := HM.out.1; omega, by have := HM.out.1; omega, by have := HM.out; omega, by have := HM.out; omega, fun j hj => HG.out j (by have := HM.out.1; omega)⟩
              clear hin
              go_wp2_with (fail)
              have hE := heap_set3 HRB.out (.slice ao m co) (.slice ar m cr) (.slice an m cn)
              obtain ⟨k0, k1, k2⟩ := cell3 hE
              refine bodyPost_ret (v := .tuple #[.agg #[.slice ao m co, .slice ar m cr, .slice an m cn], .bool true]) (by simp [results, Try.results38, go_sem, k0, k1, k2]) rfl ?_
              rw [hv.out.1 HT.out]
              exact ⟨rfl, ((HA.out.setCell (p := ⟨b + 1, 0, none⟩) HBW.out _).setCell (p := ⟨b + 1, 1, none⟩) HBW.out _).setCell (p := ⟨b + 1, 2, none⟩) HBW.out _⟩
        · have HT := Lib.hid (HNO.out fun h => by have := h.2.2.2.1; have := HM.out; omega)
          have hd4 : ((m3 : Int) != (m : Int)) = true := by rw [bne_iff_ne]; omega
          have hq : ((m : Int) != (m : Int)) = false := by simp
          clear h3 h4
          go_wp2_with (fail)
          have hE := heap_set3 HRB.out (.slice none 0 0) (.slice none 0 0) (.slice none 0 0)
          obtain ⟨k0, k1, k2⟩ := cell3 hE
          refine bodyPost_ret (v := .tuple #[.agg #[.slice none 0 0, .slice none 0 0, .slice none 0 0], .bool false]) (by simp [results, Try.results38, go_sem, k0, k1, k2]) rfl ?_
          rw [hv.out.2 HT.out]
          exact ⟨rfl, ((HA.out.setCell (p := ⟨b + 1, 0, none⟩) HBW.out _).setCell (p := ⟨b + 1, 1, none⟩) HBW.out _).setCell (p := ⟨b + 1, 2, none⟩) HBW.out _⟩
      · have HT := Lib.hid (HNO.out fun h => by have := h.2.2.1; have := HM.out; omega)
        have hd3 : ((m2 : Int) != (m : Int)) = true := by rw [bne_iff_ne]; omega
        clear h3
        go_wp2_with (fail)
        have hE := heap_set3 HRB.out (.slice none 0 0) (.slice none 0 0) (.slice none 0 0)
        obtain ⟨k0, k1, k2⟩ := cell3 hE
        refine bodyPost_ret (v := .tuple #[.agg #[.slice none 0 0, .slice none 0 0, .slice none 0 0], .bool false]) (by simp [results, Try.results38, go_sem, k0, k1, k2]) rfl ?_
        rw [hv.out.2 HT.out]
        exact ⟨rfl, ((HA.out.setCell (p := ⟨b + 1, 0, none⟩) HBW.out _).setCell (p := ⟨b + 1, 1, none⟩) HBW.out _).setCell (p := ⟨b + 1, 2, none⟩) HBW.out _⟩

end Go.Proofs.Ytahhkbdodgjaeaa
