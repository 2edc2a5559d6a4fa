/- Turn, as the laws meet it; lists of ints held against each other. -/
import Derived.Test.YtahhkbdodgjaeaaPi
namespace Go.Proofs.Ytahhkbdodgjaeaa
open Go.RowKit

theorem extZ_getD {f g : List Int} (h : f.length = g.length) (hi : ∀ i, i < f.length → f.getD i 0 = g.getD i 0) : f = g := by
  apply List.ext_getElem h
  intro i h1 h2
  have := hi i h1
  simpa [List.getD, h1, h2] using this
theorem still_draw {P : Program} {f : FuncId} {args : Array Value} {v : Value} {w0 : World} (a n : Nat) (c : Calls P f args (w0.drewN (a + n)) fun e w' => e = .returned v ∧ ∃ m, w' = (w0.drewN (a + n)).drewN m) :
    Calls P f args (w0.drewN (a + n)) fun e w' => e = .returned v ∧ ∃ m, w' = w0.drewN (a + m) :=
  c.mono fun _ _ ⟨he, m, hm⟩ => ⟨he, n + m, by rw [hm, World.drewN_drewN, Nat.add_assoc]⟩

set_option maxRecDepth 100000 in
set_option maxHeartbeats 1000000 in
theorem intsZ_is (F G : List Int) (v u : Value) (t : Bool) (w : World) (hv : Hid (Rd w v 1 F.length (zs F))) (hu : Hid (Rd w u 1 G.length (zs G))) (hl : F.length ≤ 1000000) (hl2 : G.length ≤ 1000000) (ht : Hid (F = G ↔ t = true)) :
    Calls Try.prog 22 #[v, u] w fun x w' => x = .returned (.bool t) ∧ ∃ n, w' = w.drewN n := by
  obtain ⟨_, a1, cap1, rfl, hcap1, _⟩ := hv.out
  obtain ⟨_, a2, cap2, rfl, hcap2, _⟩ := hu.out
  have H1 : Hid (∀ i, i < F.length → ∃ b, a1 = some ⟨b, 0, none⟩ ∧ b < w.heap.size ∧ w.cell? ⟨b, i, none⟩ = some (.int .i64 (F.getD i 0))) := fun i hi => zat hv.out i hi
  have H2 : Hid (∀ i, i < G.length → ∃ b, a2 = some ⟨b, 0, none⟩ ∧ b < w.heap.size ∧ w.cell? ⟨b, i, none⟩ = some (.int .i64 (G.getD i 0))) := fun i hi => zat hu.out i hi
  clear hv hu
  obtain ⟨m1, hm1⟩ : ∃ m1, m1 = F.length := ⟨_, rfl⟩
  obtain ⟨m2, hm2⟩ : ∃ m2, m2 = G.length := ⟨_, rfl⟩
  rw [← hm1] at hl hcap1 H1 ⊢
  rw [← hm2] at hl2 hcap2 H2 ⊢
  have HM := Lib.hid (And.intro hm1 hm2)
  clear hm1 hm2
  by_cases he : m1 = m2
  · subst he
    have hd : ((m1 : Int) != (m1 : Int)) = false := by simp
    go_enter Try.func22, Try.ntmps22
    go_wp2_with (fail)
    go_loopw [5] (fun iv wx => ∃ (k m : Nat), iv = .int .i64 k ∧ k ≤ m1 ∧ Hid (∀ i, i < k → F.getD i 0 = G.getD i 0) ∧ wx = w.drewN m) (fun iv _ => m1 - (intOf iv).toNat)
    case atStart => exact ⟨0, 0, rfl, by omega, fun i hi => absurd hi (by omega), by first | rfl | trivial | simp⟩
    case round =>
      obtain ⟨k, m, rfl, hk, HK, rfl⟩ := hrel
      by_cases hlt : k < m1
      · obtain ⟨b1, rfl, hb1, c1⟩ := H1.out k hlt
        obtain ⟨b2, rfl, hb2, c2⟩ := H2.out k hlt
        obtain ⟨x, hx⟩ : ∃ x, x = F.getD k 0 := ⟨_, rfl⟩
        obtain ⟨y, hy⟩ : ∃ y, y = G.getD k 0 := ⟨_, rfl⟩
        rw [← hx] at c1
        rw [← hy] at c2
        have HXY := Lib.hid (And.intro hx hy)
        clear hx hy
        have hkl : (k : Int) < (m1 : Int) := by omega
        by_cases hxy : x = y
        · have hd2 : (x != y) = false := by rw [hxy]; simp
          have HK2 : Hid (∀ i, i < k + 1 → F.getD i 0 = G.getD i 0) := fun i hi => by
            rcases Nat.lt_or_ge i k with h | h
            · exact HK.out i h
            · obtain rfl : i = k := by omega
              rw [← HXY.out.1, ← HXY.out.2, hxy]
          have HE := Lib.hid hxy
          clear hxy
          go_wp2_with (fail)
          go_quiet (fail)
          go_wp2_with (fail)
          go_roundw
          case rel => exact ⟨k + 1, _, by go_num, by omega, HK2, rfl⟩
          case measure => simp [intOf]; omega
        · have hd2 : (x != y) = true := by rw [bne_iff_ne]; first | exact hxy | omega
          have htf : Hid (t = false) := by
            cases t with
            | false => rfl
            | true => exact absurd (ht.out.2 rfl) fun e => hxy (by rw [HXY.out.1, HXY.out.2, e])
          clear hxy
          go_wp2_with (fail)
          go_quiet (fail)
          go_wp2_with (fail)
          go_ret
          exact ⟨by rw [htf.out]; rfl, _, by first | rfl | exact World.drewN_drewN _ _ _⟩
      · obtain rfl : k = m1 := by omega
        have htt : Hid (t = true) := ht.out.1 (extZ_getD (by rw [← HM.out.1, ← HM.out.2]) fun i hi => HK.out i (by rw [HM.out.1]; exact hi))
        go_wp2_with (fail)
        go_ret
        exact ⟨by rw [htt.out]; rfl, _, rfl⟩
  · have hd : ((m1 : Int) != (m2 : Int)) = true := by rw [bne_iff_ne]; first | exact hxy | omega
    have htf : Hid (t = false) := by
      cases t with
      | false => rfl
      | true => exact absurd (ht.out.2 rfl) fun e => he (by rw [HM.out.1, HM.out.2, e])
    clear he
    go_enter Try.func22, Try.ntmps22
    go_wp2_with (fail)
    go_ret
    exact ⟨by rw [htf.out]; rfl, 0, rfl⟩



theorem OwnG.none (w0 wx : World) : OwnG w0 wx (.slice none 0 0) (.slice none 0 0) (.slice none 0 0) [] [] [] [] :=
  ⟨World.ownsRow_nil _ _ _ _, World.ownsRow_nil _ _ _ _, World.ownsRow_nil _ _ _ _, fun i u M h => by simp at h, Far.nil _, fun u hu => by simp at hu, fun u hu => by simp at hu⟩
theorem Turn_is (O R : List Int) (N : List (List Int)) (vo vr vn : Value) (w : World) (h : Hid (RdG w vo vr vn O R N)) (hs : Hid (Small O R N)) :
    Calls Try.prog 33 #[.agg #[vo, vr, vn]] w fun e w' => (∃ v1 v2 v3 vs er A B C, e = .returned (.tuple #[.agg #[v1, v2, v3], .int .i64 er]) ∧ OwnG w w' v1 v2 v3 vs A B C ∧ ((GameZ O R N ∧ ¬ (9 : Int) ∈ R → er = 0 ∧ A = O.map (1 - ·) ∧ B = R.map (· + 1) ∧ C = N) ∧ (¬ (GameZ O R N ∧ ¬ (9 : Int) ∈ R) → er = 2 ∧ A = [] ∧ B = [] ∧ C = []))) ∧ Below w.heap.size w w' := by
  by_cases hg : GameZ O R N
  · by_cases h9 : (9 : Int) ∈ R
    · refine (Turn_max O R N vo vr vn w h hs hg h9).mono ?_
      rintro e w' ⟨rfl, hB⟩
      exact ⟨⟨_, _, _, [], 2, [], [], [], rfl, OwnG.none _ _, fun h => absurd h9 h.2, fun _ => ⟨rfl, rfl, rfl, rfl⟩⟩, hB⟩
    · refine (Turn_ok O R N vo vr vn w h hs hg h9).mono ?_
      rintro e w' ⟨⟨v1, v2, v3, vs, rfl, ho⟩, hB⟩
      exact ⟨⟨_, _, _, _, 0, _, _, _, rfl, ho, fun _ => ⟨rfl, rfl, rfl, rfl⟩, fun h => absurd ⟨hg, h9⟩ h⟩, hB⟩
  · refine (Turn_none O R N vo vr vn w h hs hg).mono ?_
    rintro e w' ⟨rfl, hB⟩
    exact ⟨⟨_, _, _, [], 2, [], [], [], rfl, OwnG.none _ _, fun h => absurd h.1 hg, fun _ => ⟨rfl, rfl, rfl, rfl⟩⟩, hB⟩

/-- The laws' copies. -/
def cutN (N : List (List Int)) : List (List Int) := (N.take 30).map fun l => l.take 30
theorem small_cut (O R : List Int) (N : List (List Int)) : Small (O.take 30) (R.take 30) (cutN N) := by
  refine ⟨by rw [List.length_take]; omega, by rw [List.length_take]; omega, by rw [cutN, List.length_map, List.length_take]; omega, fun L hL => ?_⟩
  obtain ⟨l, _, rfl⟩ := List.mem_map.1 hL
  rw [List.length_take]; omega

end Go.Proofs.Ytahhkbdodgjaeaa
