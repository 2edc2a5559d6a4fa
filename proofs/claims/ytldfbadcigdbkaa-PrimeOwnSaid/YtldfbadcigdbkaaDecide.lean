/- The walk over Decide, whole. -/
import Derived.Test.YtldfbadcigdbkaaProve
import Derived.Test.YtldfbadcigdbkaaWalkAwake
import Derived.Test.YtldfbadcigdbkaaWalkRight
namespace Go.Proofs.Ytldfbadcigdbkaa
open Go.RowKit Go.Maps

theorem OutE.lower {w0 w1 w2 w3 : World} {v : Value} {Zs : List EntE} (h : OutE w1 w2 v Zs) (hs : w0.heap.size ≤ w1.heap.size) (hk : ∀ g, w1.heap.size < g → w3.heap[g]? = w2.heap[g]?) : OutE w0 w3 v Zs := by
  refine ⟨own_at (h.own.base_le (by omega)) (fun g hg _ => hk g (by have := (h.own.lt g hg).1; omega)), fun z hz => ?_⟩
  obtain ⟨a1, a2, a3, a4⟩ := h.each z hz
  exact ⟨a1, a2, own_at (a3.base_le (by omega)) (fun g hg _ => hk g (by have := (a3.lt g hg).1; omega)), a4⟩

set_option maxRecDepth 100000 in
set_option maxHeartbeats 1000000 in
theorem Decide_prime (n : Nat) (w : World) (hp : Hid (M.Pr n)) (hn2 : n ≤ 2147483647) :
    Calls Try.prog 6 #[.int .i64 n] w fun x w' => (∃ v Zs, x = .returned (verdict 0 v 0) ∧ ProofOf n w w' v Zs) ∧ Below w.heap.size w w' := by
  have hn := hp.out.1
  have HL : Hid (M.IsFac (n : Int).toNat [(n, 1)]) := by rw [Int.toNat_natCast]; exact fac_prime hp.out
  have hz : ((n : Int) == 1) = false := by simp; omega
  go_enter Try.func6, Try.ntmps6
  go_wp2_with (go_at_call 17; refine (isNumber_yes _ _ (by omega) (by omega)).mono ?_; rintro e w' ⟨rfl, rfl⟩)
  refine (factors_any n _ _ (by omega) (by omega) HL).mono ?_
  rintro x w1 ⟨⟨vf, rfl, hown⟩, hB1⟩
  have hrd := Rd.of_own hown
  clear hown
  obtain ⟨hfl, a, cap, rfl, hcap, hcell⟩ := hrd
  rcases hcell with h0 | ⟨b, rfl, hb, hcell⟩
  · simp at h0
  have c0 := hcell 0 (.int .i64 (n : Int)) (by simp [flat])
  have hz1 : w.heap.size < w1.heap.size := by have := hB1.size; simp at this; omega
  have hbk : w1.heap[w.heap.size]? = some (.cells #[.int .i64 0, .slice none 0 0] 24 (0, 0)) := (hB1.block _ (by simp)).trans (heap_alloc_new _ _)
  have HBK := Lib.hid hbk
  have HB := Lib.hid hB1
  clear hcell hfl hB1 hcap hbk
  simp only [List.length_cons]
  go_wp2_with (fail)
  refine (prove_is n _ hp hn2).mono ?_
  rintro x w2 ⟨⟨v, Zs, rfl, hpf⟩, hB2⟩
  obtain ⟨a2, c2, hv⟩ : ∃ a c, v = .slice a Zs.length c := by obtain ⟨_, a, c, h, _⟩ := Rd.of_own hpf.out.own; exact ⟨a, c, h⟩
  subst hv
  obtain ⟨zl, hzl⟩ : ∃ zl, zl = Zs.length := ⟨_, rfl⟩
  have hbk2 : w2.heap[w.heap.size]? = some (.cells #[.int .i64 0, .slice none 0 0] 24 (0, 0)) := (hB2.block _ hz1).trans HBK.out
  have g0 := cell_blk (o := 0) hbk2 rfl
  have g1 := cell_blk (o := 1) hbk2 rfl
  have z0 : w2.frozen? ⟨w.heap.size, 0, none⟩ = false := frozen_blk hbk2
  have z1 : w2.frozen? ⟨w.heap.size, 1, none⟩ = false := frozen_blk hbk2
  have HK2 := Lib.hid hbk2
  have HPF := Lib.hid hpf
  have HB2 := Lib.hid hB2
  have HZL := Lib.hid hzl
  rw [← hzl] at HPF ⊢
  clear hpf hB2 hbk2 hzl
  go_wp2_with (fail)
  have hlast : ((w2.setCell ⟨w.heap.size, 0, none⟩ (.int .i64 0)).setCell ⟨w.heap.size, 1, none⟩ (.slice a2 zl c2)).heap[w.heap.size]? = some (.cells #[.int .i64 0, .slice a2 zl c2] 24 (0, 0)) := by
    have h3 := heap_setCell_same w2 _ 0 _ _ (.int .i64 0) HK2.out
    have h4 := heap_setCell_same _ _ 1 _ _ (.slice a2 zl c2) h3
    rw [h4]; rfl
  have k0 := cell_blk (o := 0) hlast rfl
  have k1 := cell_blk (o := 1) hlast rfl
  refine bodyPost_ret (v := verdict 0 (.slice a2 zl c2) 0) (by simp [verdict, results, Try.results6, go_sem, k0, k1]) rfl ⟨⟨_, Zs, rfl, ?_⟩, ?_⟩
  · have h := HPF.out
    exact ⟨h.out.lower (by omega) (fun g hg => by rw [heap_setCell_other _ _ _ _ (by show g ≠ w.heap.size; omega), heap_setCell_other _ _ _ _ (by show g ≠ w.heap.size; omega)]), h.len, h.pos, h.ok, h.right⟩
  · have h1 := (((Below.refl w.heap.size w).alloc (Nat.le_refl _) _).trans (HB.out.mono (by simp))).trans (HB2.out.mono (by omega))
    exact (h1.setCell (Nat.le_refl _) _).setCell (Nat.le_refl _) _

/-- What Decide answers for a number. -/
structure DecR (n d : Nat) (w w' : World) (v : Value) (Zs : List EntE) : Prop where
  out : OutE w w' v Zs
  len : Zs.length ≤ 62
  ok : ∀ E ∈ Zs.map EntE.E, EntOk E
  right : rightP (n : Int) (d : Int) (Zs.map EntE.E) = true
  iff : d = 0 ↔ M.Pr n
  le : d ≤ n

theorem out_nil (w w' : World) : OutE w w' (.slice none 0 0) [] := ⟨⟨by simp [flatT], .inl ⟨rfl, rfl⟩⟩, fun z hz => by cases hz⟩

theorem Decide_any (n : Nat) (w : World) (hn : 1 ≤ n) (hn2 : n ≤ 2147483647) :
    Calls Try.prog 6 #[.int .i64 n] w fun x w' => (∃ d v Zs, x = .returned (verdict (d : Nat) v 0) ∧ DecR n d w w' v Zs) ∧ Below w.heap.size w w' := by
  by_cases h1 : n = 1
  · subst h1
    refine (Decide_one w).mono ?_
    rintro x w' ⟨rfl, hB⟩
    exact ⟨⟨1, _, [], rfl, out_nil _ _, by simp, by simp, by simp [rightP], by simp [M.Pr], Nat.le_refl _⟩, hB⟩
  · by_cases hp : M.Pr n
    · refine (Decide_prime n w hp hn2).mono ?_
      rintro x w' ⟨⟨v, Zs, rfl, h⟩, hB⟩
      refine ⟨⟨0, v, Zs, rfl, h.out, h.len, h.ok, ?_, by simp [hp], Nat.zero_le _⟩, hB⟩
      have := h.pos
      simp [rightP, h.right, this]
    · obtain ⟨L, hL⟩ := M.exists_fac n (by omega)
      cases L with
      | nil => have := hL.2; simp [M.prodP] at this; omega
      | cons x t =>
        obtain ⟨q, e⟩ := x
        have hq := hL.1.2.1
        have he : 1 ≤ e := hL.1.2.2.1
        have hd : q ∣ n := by
          have := M.dvd_prodP (List.mem_cons_self (a := (q, e)) (l := t)) he
          rwa [hL.2] at this
        have hle := Nat.le_of_dvd (by omega) hd
        have hlt : q < n := by
          rcases Nat.lt_or_ge q n with h | h
          · exact h
          · exact absurd (show M.Pr n by rw [show n = q by omega]; exact hq) hp
        refine (Decide_div n q w (by omega) hn2 hlt ⟨e, t, hL⟩).mono ?_
        rintro x w' ⟨rfl, hB⟩
        have hq2 := hq.1
        refine ⟨⟨q, _, [], rfl, out_nil _ _, by simp, by simp, ?_, by simp [hp]; omega, by omega⟩, hB⟩
        have hmod : (n : Int) % (q : Int) = 0 := by exact_mod_cast Nat.mod_eq_zero_of_dvd hd
        unfold rightP
        rw [if_neg (by omega), if_neg (by simp), if_neg (by omega)]
        exact decide_eq_true ⟨by omega, by omega, hmod⟩

end Go.Proofs.Ytldfbadcigdbkaa
