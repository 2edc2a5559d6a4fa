/- The walk over the reference's Game. -/
import Derived.Test.YtahhkbdodgjaeaaPd
namespace Go.Proofs.Ytahhkbdodgjaeaa
open Go.RowKit

set_option maxRecDepth 100000 in
set_option maxHeartbeats 4000000 in
theorem rGame_is (O R : List Int) (N : List (List Int)) (vo vr vn : Value) (t : Bool) (w : World) (h : Hid (RdG w vo vr vn O R N)) (hs : Hid (Small O R N)) (ht : Hid (GameZ O R N ↔ t = true)) :
    Calls Try.prog 18 #[.agg #[vo, vr, vn]] w fun e w' => e = .returned (.bool t) ∧ Below w.heap.size w w' := by
  obtain ⟨ao, co, ho⟩ := h.out.o.shape
  obtain ⟨ar, cr, hr⟩ := h.out.r.shape
  obtain ⟨an, cn, hn, _⟩ := h.out.n.shape
  subst ho hr hn
  obtain ⟨m, hm⟩ : ∃ m, m = O.length := ⟨_, rfl⟩
  obtain ⟨m2, hm2⟩ : ∃ m, m = R.length := ⟨_, rfl⟩
  obtain ⟨m3, hm3⟩ : ∃ m, m = N.length := ⟨_, rfl⟩
  have hml : m ≤ 30 := by rw [hm]; exact hs.out.o
  have hml2 : m2 ≤ 30 := by rw [hm2]; exact hs.out.r
  have hml3 : m3 ≤ 30 := by rw [hm3]; exact hs.out.n
  have HM := Lib.hid (And.intro hm (And.intro hm2 hm3))
  obtain ⟨b, hb⟩ : ∃ b, b = w.heap.size := ⟨_, rfl⟩
  obtain ⟨X, hX⟩ : ∃ X, X = w.alloc (.cells #[.slice ao m co, .slice ar m2 cr, .slice an m3 cn] 25) := ⟨_, rfl⟩
  have HA : Hid (Below w.heap.size w X) := by rw [hX]; exact (Below.refl _ _).alloc (Nat.le_refl _) _
  have HRG : Hid (RdG X (.slice ao m co) (.slice ar m2 cr) (.slice an m3 cn) O R N) := by
    have h9 := h.out.below HA.out
    show RdG _ _ _ _ _ _ _
    rw [hm, hm2, hm3]; exact h9
  have hca : X.cell? ⟨b, 0, none⟩ = some (.slice ao m co) := by rw [hX, hb]; simp
  have hcb : X.cell? ⟨b, 1, none⟩ = some (.slice ar m2 cr) := by rw [hX, hb]; simp
  have hcn : X.cell? ⟨b, 2, none⟩ = some (.slice an m3 cn) := by rw [hX, hb]; simp
  have hno : ¬ GameZ O R N → t = false := fun h => by
    cases t with
    | false => rfl
    | true => exact absurd (ht.out.2 rfl) h
  have HNO := Lib.hid hno
  rw [← hm, ← hm2, ← hm3]
  clear hno h hm hm2 hm3
  go_enter Try.func18, Try.ntmps18
  go_upto_region 1 with fail
  rw [← hb, ← hX]
  clear hX hb
  by_cases h1 : m < 1
  · have HT := Lib.hid (HNO.out fun h => by have := h.1; have := HM.out.1; omega)
    have hd1 : decide (m < 1) = true := by simpa using h1
    have hd1' : (m : Int) < 1 := by omega
    go_wp2_with (fail)
    go_ret
    exact ⟨by rw [HT.out]; rfl, HA.out⟩
  · have hd1 : decide (m < 1) = false := by simpa using h1
    have hd1' : ¬ (m : Int) < 1 := by omega
    by_cases h2 : 24 < m
    · have HT := Lib.hid (HNO.out fun h => by have := h.2.1; have := HM.out.1; omega)
      have hd2 : decide (24 < m) = true := by simpa using h2
      have hd2' : 24 < (m : Int) := by omega
      go_wp2_with (fail)
      go_ret
      exact ⟨by rw [HT.out]; rfl, HA.out⟩
    · have hd2 : decide (24 < m) = false := by simpa using h2
      have hd2' : ¬ 24 < (m : Int) := by omega
      by_cases h3 : m2 = m
      · obtain rfl : m = m2 := h3.symm
        by_cases h4 : m3 = m
        · obtain rfl : m = m3 := h4.symm
          have hq : ((m : Int) != (m : Int)) = false := by simp
          clear h3 h4
          go_wp2_with (fail)
          go_loopw [4] (fun iv wx => ∃ (i q : Nat), iv = .int .i64 i ∧ i ≤ m ∧ wx = X.drewN q ∧ Hid (∀ j, j < i → okAt O R N j)) (fun iv _ => m - (intOf iv).toNat)
          case atStart => exact ⟨0, 0, rfl, by omega, by first | rfl | trivial | simp, fun j hj => by omega⟩
          case round =>
            obtain ⟨i, q, rfl, him, rfl, HG⟩ := hrel
            by_cases hin : i < m
            · obtain ⟨bo, eo, _, co1⟩ := zat HRG.out.o i (by have := HM.out.1; omega)
              subst eo
              obtain ⟨br, er, _, cr1⟩ := zat HRG.out.r i (by have := HM.out.2.1; omega)
              subst er
              obtain ⟨bn, xn, yn, en, _, cn1, cn2, rn⟩ := HRG.out.n.rowAt i (by have := HM.out.2.2; omega)
              subst en
              have hin1 : (i : Int) < (m : Int) := by omega
              have hbad : ¬ okAt O R N i → t = false := fun h => HNO.out fun g => h (g.2.2.2.2 i (by have := HM.out.1; omega))
              have hgo : okAt O R N i → ∀ j, j < i + 1 → okAt O R N j := fun h j hj => by
                by_cases hji : j < i
                · exact HG.out j hji
                · obtain rfl : j = i := by omega
                  exact h
              have hLl := hs.out.at i
              unfold okAt at hbad
              obtain ⟨x, hx⟩ : ∃ x, x = O.getD i 0 := ⟨_, rfl⟩
              obtain ⟨y, hy⟩ : ∃ y, y = R.getD i 0 := ⟨_, rfl⟩
              obtain ⟨L, hL⟩ : ∃ L, L = N.getD i [] := ⟨_, rfl⟩
              rw [← hx, ← hy, ← hL] at hbad
              have hok : (x = 0 ∨ x = 1) ∧ 0 ≤ y ∧ y ≤ 9 ∧ L.length ≠ 0 ∧ AscZ m L → ∀ j, j < i + 1 → okAt O R N j := fun h => hgo (by unfold okAt; rw [← hx, ← hy, ← hL, ← HM.out.1]; exact h)
              rw [← hx] at co1
              rw [← hy] at cr1
              rw [← hL] at cn1 cn2 rn hLl
              have HLR : Hid (Rd (X.drewN q) (.slice xn L.length yn) 1 L.length (zs L)) := rn.below (below_drewN (Below.refl _ _) q) (Nat.le_refl _)
              rw [← HM.out.1] at hbad
              clear hx hy hL rn
              by_cases g0 : x < 0
              · have HT := Lib.hid (hbad fun h => by omega)
                have hd6 : decide (x < 0) = true := by simpa using g0
                clear hbad hgo hok g0 hin
                go_wp2_with (fail)
                go_ret
                exact ⟨by rw [HT.out]; rfl, below_drewN HA.out q⟩
              · have hd6 : decide (x < 0) = false := by simpa using g0
                by_cases g1 : 1 < x
                · have HT := Lib.hid (hbad fun h => by omega)
                  have hd7 : decide (1 < x) = true := by simpa using g1
                  clear hbad hgo hok g0 g1 hin
                  go_wp2_with (fail)
                  go_ret
                  exact ⟨by rw [HT.out]; rfl, below_drewN HA.out q⟩
                · have hd7 : decide (1 < x) = false := by simpa using g1
                  by_cases g2 : y < 0
                  · have HT := Lib.hid (hbad fun h => by omega)
                    have hd3 : decide (y < 0) = true := by simpa using g2
                    clear hbad hgo hok g0 g1 g2 hin
                    go_wp2_with (fail)
                    go_ret
                    exact ⟨by rw [HT.out]; rfl, below_drewN HA.out q⟩
                  · have hd3 : decide (y < 0) = false := by simpa using g2
                    by_cases g3 : 9 < y
                    · have HT := Lib.hid (hbad fun h => by omega)
                      have hd4 : decide (9 < y) = true := by simpa using g3
                      clear hbad hgo hok g0 g1 g2 g3 hin
                      go_wp2_with (fail)
                      go_ret
                      exact ⟨by rw [HT.out]; rfl, below_drewN HA.out q⟩
                    · have hd4 : decide (9 < y) = false := by simpa using g3
                      obtain ⟨k, hk⟩ : ∃ k, k = L.length := ⟨_, rfl⟩
                      rw [← hk] at cn1 cn2 hLl
                      have HK := Lib.hid hk
                      have hx01 : x = 0 ∨ x = 1 := by omega
                      by_cases g4 : k = 0
                      · have HT := Lib.hid (hbad fun h => by omega)
                        have HK0 := Lib.hid g4
                        have hd5 : ((k : Int) == 0) = true := by simp [g4]
                        clear hbad hgo hok g0 g1 g2 g3 g4 hin hk hx01
                        go_wp2_with (fail)
                        go_ret
                        exact ⟨by rw [HT.out]; rfl, below_drewN HA.out q⟩
                      · have hd5 : ((k : Int) == 0) = false := by rw [beq_eq_false_iff_ne]; omega
                        by_cases g5 : AscZ m L
                        · have HAS := Lib.hid (fun w hr => rAscending_is L m (.slice xn L.length yn) true w hr (by omega) (by omega) ⟨fun _ => rfl, fun _ => g5⟩)
                          rw [← hk] at HAS
                          have HGN : Hid (∀ j, j < i + 1 → okAt O R N j) := hok ⟨hx01, by omega, by omega, by omega, g5⟩
                          rw [← hk] at HLR
                          clear hbad hgo hok g0 g1 g2 g3 g4 g5 hin hk hx01
                          go_wp2_with (fail)
                          refine (HAS.out _ HLR).mono ?_
                          rintro e w2 ⟨rfl, q2, rfl⟩
                          go_wp2_with (fail)
                          go_roundw
                          case rel => exact ⟨i + 1, _, by first | rfl | go_num, by omega, by first | rfl | exact World.drewN_drewN _ _ _, HGN⟩
                          case measure => simp [intOf]; omega
                        · have HAS := Lib.hid (fun w hr => rAscending_is L m (.slice xn L.length yn) false w hr (by omega) (by omega) ⟨fun h => absurd h g5, fun h => by cases h⟩)
                          rw [← hk] at HAS
                          have HT := Lib.hid (hbad fun h => g5 h.2.2.2.2)
                          rw [← hk] at HLR
                          clear hbad hgo hok g0 g1 g2 g3 g4 g5 hin hk hx01
                          go_wp2_with (fail)
                          refine (HAS.out _ HLR).mono ?_
                          rintro e w2 ⟨rfl, q2, rfl⟩
                          go_wp2_with (fail)
                          go_ret
                          exact ⟨by rw [HT.out]; rfl, below_drewN HA.out _⟩
            · obtain rfl : m = i := by omega
              have HT : Hid (t = true) := ht.out.1 ⟨by have := HM.out.1; omega, by have := HM.out.1; omega, by have := HM.out; omega, by have := HM.out; omega, fun j hj => HG.out j (by have := HM.out.1; omega)⟩
              clear hin
              go_wp2_with (fail)
              go_ret
              exact ⟨by rw [HT.out]; rfl, below_drewN HA.out q⟩
        · have HT := Lib.hid (HNO.out fun h => by have := h.2.2.2.1; have := HM.out; omega)
          have hd4 : ((m3 : Int) != (m : Int)) = true := by rw [bne_iff_ne]; omega
          have hq : ((m : Int) != (m : Int)) = false := by simp
          clear h3 h4
          go_wp2_with (fail)
          go_ret
          exact ⟨by rw [HT.out]; rfl, HA.out⟩
      · have HT := Lib.hid (HNO.out fun h => by have := h.2.2.1; have := HM.out; omega)
        have hd3 : ((m2 : Int) != (m : Int)) = true := by rw [bne_iff_ne]; omega
        clear h3
        go_wp2_with (fail)
        go_ret
        exact ⟨by rw [HT.out]; rfl, HA.out⟩

end Go.Proofs.Ytahhkbdodgjaeaa
