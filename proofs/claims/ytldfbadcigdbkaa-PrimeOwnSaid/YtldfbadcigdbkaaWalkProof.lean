/- The walks over isProof, isRight, Check. -/
import Derived.Test.YtldfbadcigdbkaaWalkEntry
namespace Go.Proofs.Ytldfbadcigdbkaa
open Go.RowKit Go.Maps

/-- A slice of entries. -/
def RdE (w : World) (v : Value) (L : List M.Ent) : Prop :=
  ∃ (a : Option Addr) (cap : Nat), v = .slice a L.length cap ∧ L.length ≤ cap ∧ (L.length = 0 ∨ ∃ b, a = some ⟨b, 0, none⟩ ∧ b < w.heap.size ∧ ∀ k (h : k < L.length), ∃ fv,
    w.cell? ⟨b, k * 3, none⟩ = some (.int .i64 L[k].P) ∧ w.cell? ⟨b, k * 3 + 1, none⟩ = some (.int .i64 L[k].W) ∧ w.cell? ⟨b, k * 3 + 2, none⟩ = some fv ∧ Rd w fv 1 L[k].F.length (intsZ L[k].F))

theorem RdE.below {w w' : World} {v : Value} {L : List M.Ent} (h : RdE w v L) (hB : Below w.heap.size w w') : RdE w' v L := by
  obtain ⟨a, cap, hv, hc, h2⟩ := h
  refine ⟨a, cap, hv, hc, ?_⟩
  rcases h2 with h2 | ⟨b, ha, hb, h2⟩
  · exact .inl h2
  · refine .inr ⟨b, ha, by have := hB.size; omega, fun k hk => ?_⟩
    obtain ⟨fv, c0, c1, c2, hr⟩ := h2 k hk
    refine ⟨fv, ?_, ?_, ?_, hr.below hB (Nat.le_refl _)⟩
    · rw [hB.cell (p := ⟨b, k * 3, none⟩) hb]; exact c0
    · rw [hB.cell (p := ⟨b, k * 3 + 1, none⟩) hb]; exact c1
    · rw [hB.cell (p := ⟨b, k * 3 + 2, none⟩) hb]; exact c2

def EntOk (E : M.Ent) : Prop := (Lit.int .i64 E.P).wf = true ∧ (Lit.int .i64 E.W).wf = true ∧ FOk E.F ∧ E.F.length ≤ 1000000

theorem wfb4 : plainElem (H := Unit) Try.prog 4 (.bool true) = some (.lit (.bool true), []) := plainElem_bool Try.underlying4 true
theorem law3' : Keyed Try.prog 3 := int_keyed Try.underlying3

theorem cell3_new (w : World) (x y z : Value) (t : TypeId) : (w.alloc (.cells #[x, y, z] t)).cell? ⟨w.heap.size, 0, none⟩ = some x := by
  simp

set_option maxRecDepth 100000 in
set_option maxHeartbeats 4000000 in
theorem isProof_is (n : Int) (v : Value) (L : List M.Ent) (t : Bool) (w : World) (hn : 1 ≤ n) (hn2 : n ≤ 2147483647) (hr : Hid (RdE w v L)) (hlen : L.length ≤ 1000000) (hL : Hid (∀ E ∈ L, EntOk E)) (ht : Hid ((decide (0 < L.length) && M.proofP n 1 [] L) = t)) :
    Calls Try.prog 35 #[.int .i64 n, v] w fun x w' => x = .returned (.bool t) ∧ Below w.heap.size w w' := by
  obtain ⟨a, cap, hv, hcap, hcell⟩ := hr.out
  subst hv
  have HC := Lib.hid hcell
  clear hcell hr
  have hmm : ∀ w, (Instr.makeMap 56 none).run Try.prog w = .ok (.map (some w.heap.size)) (w.alloc (.map #[] 0)) := fun w => run_makeMap _ w
  go_enter Try.func35, Try.ntmps35
  go_wp2_with (fail)
  go_loopw [5, 12] (fun l i wr => ∃ (k : Nat) (last : Int) (S : List Int) (D : DataW Unit), l = .int .i64 last ∧ i = .int .i64 k ∧ k ≤ L.length ∧ 1 ≤ last ∧ Hid (∀ q ∈ S, 2 ≤ q ∧ q ≤ 2147483647) ∧ Hid (M.proofP n last S (L.drop k) = M.proofP n 1 [] L) ∧ wr.ownsMap Try.prog 3 (plainElem Try.prog 4) w.heap.size k D ∧ Hid (SetI D S) ∧ Below w.heap.size w wr) (fun _ i _ => L.length - (intOf i).toNat)
  case atStart => exact ⟨0, 1, [], .map [], rfl, rfl, by omega, by omega, (by show ∀ q ∈ ([] : List Int), _; simp), (by show _ = _; rfl), World.ownsMap_made _ _ _ _, SetI.empty, (Below.refl _ _).alloc (Nat.le_refl _) _⟩
  case round =>
    obtain ⟨k, last, S, D, rfl, rfl, hk, hl1, HS2, HP, hown, hS, hB⟩ := hrel
    by_cases hlt : k < L.length
    · rcases HC.out with h0 | ⟨b, rfl, hb, hcell⟩
      · omega
      obtain ⟨fv, c0, c1, c2, hrf⟩ := hcell k hlt
      clear hcell
      obtain ⟨af, cf, hfv⟩ := hrf.lenv
      rw [hfv] at c2 hrf
      have hd : L.drop k = L[k] :: L.drop (k + 1) := List.drop_eq_getElem_cons hlt
      have hE := hL.out L[k] (List.getElem_mem hlt)
      have hP := HP.out
      rw [hd] at hP
      obtain ⟨E, hEe⟩ : ∃ E, E = L[k] := ⟨_, rfl⟩
      rw [← hEe] at c0 c1 c2 hrf hP hE
      rw [M.proofP] at hP
      obtain ⟨P, W, F⟩ := E
      dsimp only at c0 c1 c2 hrf hP hE
      have HRF := Lib.hid hrf
      have HPP := Lib.hid hP
      have HE := Lib.hid hE
      have HB := Lib.hid hB
      have d0 : wr.cell? ⟨b, k * 3, none⟩ = some (.int .i64 P) := by rw [hB.cell (p := ⟨b, k * 3, none⟩) hb]; exact c0
      have d1 : wr.cell? ⟨b, k * 3 + 1, none⟩ = some (.int .i64 W) := by rw [hB.cell (p := ⟨b, k * 3 + 1, none⟩) hb]; exact c1
      have d2 : wr.cell? ⟨b, k * 3 + 2, none⟩ = some (.slice af F.length cf) := by rw [hB.cell (p := ⟨b, k * 3 + 2, none⟩) hb]; exact c2
      clear hd HP hP hE hEe hrf hB c0 c1 c2 hfv
      have hPw := HE.out.1
      dsimp only at hPw
      have hb64 := bounds_i64 hPw
      by_cases hc1 : P ≤ last
      · have hd1 : decide (P ≤ last) = true := by simpa using hc1
        have HT : Hid (false = t) := by
          have h1 := HPP.out
          rw [if_pos (.inl hc1)] at h1
          have h2 := ht.out
          rw [← h1, Bool.and_false] at h2
          exact h2
        clear hc1
        go_wp2_with (fail)
        go_ret
        exact ⟨ret_b HT.out, HB.out.alloc HB.out.size _⟩
      have hd1 : decide (P ≤ last) = false := by simpa using hc1
      by_cases hc2 : n < P
      · have hd2 : decide (n < P) = true := by simpa using hc2
        have HT : Hid (false = t) := by
          have h1 := HPP.out
          rw [if_pos (.inr (.inl hc2))] at h1
          have h2 := ht.out
          rw [← h1, Bool.and_false] at h2
          exact h2
        clear hc1 hc2
        go_wp2_with (fail)
        go_ret
        exact ⟨ret_b HT.out, HB.out.alloc HB.out.size _⟩
      have hd2 : decide (n < P) = false := by simpa using hc2
      have hB1 := (Below.refl wr.heap.size wr).alloc (Nat.le_refl _) (.cells #[.int .i64 P, .int .i64 W, .slice af F.length cf] 39)
      have HB1 := Lib.hid hB1
      have hrf2 := Lib.hid (HRF.out.below (HB.out.trans (hB1.mono HB.out.size)) (Nat.le_refl _))
      have hown2 := Lib.hid (own_below hown hB1 hown.lt)
      have hlt3 := hown.lt
      have HO := Lib.hid hown
      have hP2 : 2 ≤ P := by omega
      have hPn : P ≤ n := by omega
      have hwrs := HB.out.size
      clear hB1 hown
      cases hEv : M.entP S ⟨P, W, F⟩ with
      | false =>
        have HEv := Lib.hid hEv
        have HT : Hid (false = t) := by
          have h1 := HPP.out
          rw [if_pos (.inr (.inr hEv))] at h1
          have h2 := ht.out
          rw [← h1, Bool.and_false] at h2
          exact h2
        clear hc1 hc2 hEv
        go_wp2_with (fail)
        refine (isEntry_is P W _ F S _ k D false _ hP2 (by omega) HE.out.2.1 hrf2 HE.out.2.2.2 (Lib.hid HE.out.2.2.1) hown2 hS HS2 HEv).mono ?_
        rintro e w2 ⟨rfl, hB2⟩
        have HB2 := Lib.hid hB2
        clear hB2
        go_wp2_with (fail)
        go_ret
        have h1 := HB.out.alloc HB.out.size (.cells #[.int .i64 P, .int .i64 W, .slice af F.length cf] 39)
        exact ⟨ret_b HT.out, h1.trans (HB2.out.mono h1.size)⟩
      | true =>
        have HEv := Lib.hid hEv
        have HN : Hid (M.proofP n P (P :: S) (L.drop (k + 1)) = M.proofP n 1 [] L) := by
          have h1 := HPP.out
          rw [if_neg (by rintro (h | h | h); exact hc1 h; exact hc2 h; rw [hEv] at h; cases h)] at h1
          exact h1
        clear hc1 hc2 hEv
        go_wp2_with (fail)
        refine (isEntry_is P W _ F S _ k D true _ hP2 (by omega) HE.out.2.1 hrf2 HE.out.2.2.2 (Lib.hid HE.out.2.2.1) hown2 hS HS2 HEv).mono ?_
        rintro e w2 ⟨rfl, hB2⟩
        have hown3 := own_below hown2.out hB2 hown2.out.lt
        have h3 : Below w.heap.size w w2 := by
          have h1 := HB.out.alloc HB.out.size (.cells #[.int .i64 P, .int .i64 W, .slice af F.length cf] 39)
          exact h1.trans (hB2.mono h1.size)
        have hcell2 : w2.cell? ⟨wr.heap.size, 0, none⟩ = some (.int .i64 P) := by
          rw [hB2.cell (p := ⟨wr.heap.size, 0, none⟩) (by simp)]
          exact cell3_new _ _ _ _ _
        have HB2 := Lib.hid hB2
        have H3 := Lib.hid h3
        clear hB2 h3
        go_wp2_with (at_mapUpdate; refine wpList_mapUpdate_own _ rfl _ _ _ 56 rfl 3 4 law3 Try.underlying56 _ w.heap.size k _ rfl hown3 (by unfold maxLen; omega) _ _ _ rfl rfl (keyOf_int_mk Try.underlying3 hPw) _ [] wfb4 ?_; intro w1 hown1 hgrow1)
        have HO2 := Lib.hid (And.intro hown1 hgrow1)
        clear hown1 hgrow1 hown3
        go_roundw
        case rel =>
          refine ⟨k + 1, P, P :: S, _, rfl, by go_num, by omega, by omega, ?_, HN, HO2.out.1, hS.out.put P, H3.out.grown HO2.out.2 H3.out.size (fun b hb => by cases hb; exact Nat.le_refl _)⟩
          intro q hq
          rcases List.mem_cons.1 hq with rfl | hq
          · omega
          · exact HS2.out q hq
        case measure => simp [intOf]; omega
    · obtain rfl : k = L.length := by omega
      have hP := HP.out
      rw [List.drop_length, M.proofP] at hP
      have h2 := ht.out
      rw [← hP] at h2
      obtain ⟨m, hm⟩ : ∃ m, m = L.length := ⟨_, rfl⟩
      rw [← hm] at h2 hlt hk hown hcap hlen ⊢
      have HB := Lib.hid hB
      clear hm hB hP
      by_cases h0 : m = 0
      · have hd1 : decide (0 < m) = false := by simp; omega
        have HT : Hid (false = t) := by rw [show decide (0 < m) = false by simp; omega, Bool.false_and] at h2; exact h2
        clear h0 h2
        go_wp2_with (fail)
        go_ret
        exact ⟨ret_b HT.out, HB.out⟩
      · have hd1 : decide (0 < m) = true := by simp; omega
        have HT : Hid ((last == n) = t) := by rw [show decide (0 < m) = true by simp; omega, Bool.true_and] at h2; exact h2
        clear h0 h2
        go_wp2_with (fail)
        go_ret
        exact ⟨ret_b HT.out, HB.out⟩

end Go.Proofs.Ytldfbadcigdbkaa
