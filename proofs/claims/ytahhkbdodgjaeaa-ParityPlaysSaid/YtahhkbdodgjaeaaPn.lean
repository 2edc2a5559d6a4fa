/- The walk over play. -/
import Derived.Test.YtahhkbdodgjaeaaPm
namespace Go.Proofs.Ytahhkbdodgjaeaa
open Go.RowKit

theorem zs_nats (F : List Nat) : nats F = zs (up F) := (zs_up F).symm
theorem rep_getD (n u : Nat) : (List.replicate n false).getD u false = false := by
  rw [List.getD_eq_getElem?_getD, List.getElem?_replicate]
  split <;> rfl
theorem up_getD (F : List Nat) (i : Nat) : (up F).getD i 0 = ((F.getD i 0 : Nat) : Int) := by
  simp only [up, List.getD_eq_getElem?_getD, List.getElem?_map]
  cases F[i]? <;> rfl

theorem clone_at (L : List Nat) (g o n c : Nat) (w : World) (hn : n = L.length) (hl : n ≤ 1000000) (h : Hid (∀ j, j < n → w.cell? ⟨g, o + j, none⟩ = some (.int .i64 (L.getD j 0 : Nat)))) :
    Calls Try.prog 80 #[.slice (some ⟨g, o, none⟩) n c] w fun e w' => (∃ a c, e = .returned (.slice a n c) ∧ NewL w w' (.slice a n c) L) ∧ Below w.heap.size w w' := by
  refine (Try.slices_Clone_int g o n c (up L) w (by rw [up_length]; omega) (by omega) (fun j hj => ?_)).mono ?_
  · rw [up_length] at hj
    rw [h.out j (by omega), up_getD]
  · rintro e w' ⟨v', rfl, ho, _, hB⟩
    rw [List.take_of_length_le (by rw [up_length]; omega)] at ho
    obtain ⟨a', c', hv, _⟩ := own_form ho
    subst hv
    refine ⟨⟨a', c', rfl, ?_⟩, hB⟩
    show World.ownsRow _ _ _ _ _ _ _
    rw [← hn]
    have e9 : (up L).map (Value.int .i64) = nats L := zs_up L
    rw [e9] at ho
    exact ho

set_option maxRecDepth 100000 in
set_option maxHeartbeats 4000000 in
theorem play_is (F : List Nat) (v n K J : Nat) (vp : Value) (w : World) (hp : Hid (Rd w vp 1 F.length (nats F))) (hn : n = F.length) (hn2 : n ≤ 24) (hv : v < n) (hf : Hid (∀ i, i < n → F.getD i 0 < n)) (hK : K ≤ n) (ha : Hid (Pl.Again (fun i => F.getD i 0) v K J)) :
    Calls Try.prog 54 #[.int .i64 (v : Int), vp] w fun e w' => (∃ v1 v2, e = .returned (.tuple #[v1, v2]) ∧ NewL w w' v1 ((Pl.orb (fun i => F.getD i 0) v K).take J) ∧ NewL w w' v2 ((Pl.orb (fun i => F.getD i 0) v K).drop J)) ∧ Below w.heap.size w w' := by
  obtain ⟨ap, cp, hvp⟩ := hp.out.shape
  subst hvp
  have HN := Lib.hid hn
  have HP : Hid (Rd w (.slice ap n cp) 1 F.length (nats F)) := by show Rd _ _ _ _ _; rw [hn]; exact hp.out
  rw [← hn]
  obtain ⟨f, hfE⟩ : ∃ f : Nat → Nat, f = fun i => F.getD i 0 := ⟨_, rfl⟩
  have HFE := Lib.hid hfE
  rw [← hfE] at ha ⊢
  have HLT : Hid (∀ k, Pl.it f v k < n) := fun k => Pl.it_lt hv (by rw [hfE]; exact hf.out) k
  obtain ⟨s, hs⟩ : ∃ s, s = w.heap.size := ⟨_, rfl⟩
  obtain ⟨X, hX⟩ : ∃ X, X = w.alloc (.cells (bls (List.replicate 24 false)).toArray 67) := ⟨_, rfl⟩
  have HA : Hid (Below w.heap.size w X) := by rw [hX]; exact (Below.refl _ _).alloc (Nat.le_refl _) _
  have HS0 : Hid (Seen X s (List.replicate 24 false)) := ⟨by rw [hX, hs]; exact heap_alloc_new _ _, by simp⟩
  have HL0 : Hid (LSt w X (.slice none 0 0) (Pl.orb f v 0)) := ⟨NewL.nil _ _, HA.out⟩
  have HM0 : Hid (∀ u, u < 24 → ((List.replicate 24 false).getD u false = true ↔ u ∈ Pl.orb f v 0)) := fun u hu => by
    rw [rep_getD]
    simp [Pl.orb]
  obtain ⟨i0, hi, hz0, hz1, hz2⟩ := info_parts Try.infoZ
  have HSE : Hid (w.heap.size ≤ s) := by show _ ≤ _; omega
  clear hp hn hfE
  go_enter Try.func54, Try.ntmps54
  go_upto_region 3 with fail
  rw [show w.alloc (.cells #[.bool false, .bool false, .bool false, .bool false, .bool false, .bool false, .bool false, .bool false, .bool false, .bool false, .bool false, .bool false, .bool false, .bool false, .bool false, .bool false, .bool false, .bool false, .bool false, .bool false, .bool false, .bool false, .bool false, .bool false] 67) = X from hX.symm, ← hs]
  clear hX hs
  go_loopw [0, 6] (fun pv lv wx => ∃ (i : Nat) (S : List Bool), pv = .int .i64 (Pl.it f v i : Nat) ∧ i ≤ K ∧ Hid (Seen wx s S) ∧ Hid (LSt w wx lv (Pl.orb f v i)) ∧ Hid (∀ u, u < 24 → (S.getD u false = true ↔ u ∈ Pl.orb f v i))) (fun pv lv _ => K - (lenV lv))
  case atStart => exact ⟨0, _, rfl, by omega, HS0, HL0, HM0⟩
  case round =>
    obtain ⟨i, S, rfl, hiK, HS, HL, HM⟩ := hrel
    obtain ⟨a3, c3, hv3, hc3, hc4⟩ := HL.out.shape
    subst hv3
    rw [Pl.orb_length] at HL hc3 ⊢
    obtain ⟨u, hu⟩ : ∃ u, u = Pl.it f v i := ⟨_, rfl⟩
    have hun : u < n := by rw [hu]; exact HLT.out i
    rw [← hu]
    have HU := Lib.hid hu
    have hu24 : (u : Int) < 24 := by omega
    obtain ⟨t, ht⟩ : ∃ t, t = S.getD u false := ⟨_, rfl⟩
    have q0 : wr.cell? ⟨s, u, none⟩ = some (.bool t) := by rw [ht]; exact HS.out.cell (by omega)
    have q1 := HS.out.free u
    have hmem := HM.out u (by omega)
    rw [← ht] at hmem
    clear hu ht
    by_cases hin : i < K
    · have hnm : u ∉ Pl.orb f v i := by rw [HU.out]; exact ha.out.new i hin
      have htf : t = false := by
        cases t with
        | false => rfl
        | true => exact absurd (hmem.1 rfl) hnm
      subst htf
      obtain ⟨bp, ep, hbp, cpx⟩ := HP.out.at u (by rw [← HN.out]; exact hun)
      subst ep
      have HOWN : Hid ((wr.setCell ⟨s, u, none⟩ (.bool true)).ownsRow w.heap.size 3 1 (.slice a3 i c3) i (nats (Pl.orb f v i))) := by
        have h9 := HL.out.1
        unfold NewL at h9
        rw [Pl.orb_length] at h9
        exact own_set_other h9 (own_ne_ty h9 HS.out.h (by decide)) _
      have HS1 : Hid (Seen (wr.setCell ⟨s, u, none⟩ (.bool true)) s (S.set u true)) := HS.out.set u true
      have HB1 : Hid (Below w.heap.size w (wr.setCell ⟨s, u, none⟩ (.bool true))) := HL.out.2.setCell (p := ⟨s, u, none⟩) HSE.out _
      obtain ⟨y, hy⟩ : ∃ y, y = F.getD u 0 := ⟨_, rfl⟩
      have HY : Hid (y = Pl.it f v (i + 1)) := by show _ = _; rw [hy, Pl.it, ← HU.out, HFE.out]
      rw [← hy] at cpx
      have HCP : Hid (∀ W, Below w.heap.size w W → W.cell? ⟨bp, u, none⟩ = some (.int .i64 (y : Nat))) := fun W h => (h.cell (p := ⟨bp, u, none⟩) hbp).trans cpx
      have hun1 : (u : Int) < (n : Int) := by omega
      have HMN : Hid (∀ x, x < 24 → ((S.set u true).getD x false = true ↔ x ∈ Pl.orb f v (i + 1))) := fun x hx => by
        rw [Pl.orb_succ, List.mem_append, List.mem_singleton, ← HU.out, ← HM.out x hx]
        simp only [List.getD_eq_getElem?_getD, List.getElem?_set]
        have hl := HS.out.len
        by_cases e : u = x
        · subst e
          rw [if_pos rfl, if_pos (by omega)]
          simp
        · rw [if_neg e]
          simp only [show ¬ x = u from fun h => e h.symm, or_false]
      have hin2 : i ≤ 24 := by omega
      clear hnm hmem hy hbp cpx
      go_wp2_with (at_builtin; refine wpList_append_own _ rfl _ _ 22 rfl w.heap.size 3 i0 (.int .i64 0) 1 8 Try.underlying22 hi hz0 hz1 hz2 rfl (by decide) _ _ _ rfl (HOWN.out.alloc _) ⟨wr.heap.size, 0, none⟩ 1 1 [.int .i64 u] rfl rfl ?c1 ?c2 ?c3 ?c4 ?c5 ?_)
      case c1 => exact cell_one_at _ _ _ _ (by simp)
      case c2 => intro x hx; simp at hx; rw [hx]; rfl
      case c3 => unfold maxLen; omega
      case c4 => omega
      case c5 => have := HL.out.2.size; simp; omega
      intro v' w3 hown3 hgrow3 _
      have HLN : Hid (LSt w w3 v' (Pl.orb f v (i + 1))) := by
        show LSt _ _ _ _
        rw [Pl.orb_succ, ← HU.out]
        refine LSt.push (wr := wr.setCell ⟨s, u, none⟩ (.bool true)) (v := .slice a3 i c3) (x := u) (k := i + 1) ⟨by unfold NewL; rw [Pl.orb_length]; exact HOWN.out, HB1.out⟩ (by rw [Pl.orb_length]) hown3 hgrow3
      have HSN : Hid (Seen w3 s (S.set u true)) := by
        refine HS1.out.low ?_
        have h9 := HS1.out.lt
        rw [hgrow3.block s (by have := HS.out.lt; simp; omega) (fun e => own_ne_ty HOWN.out HS1.out.h (by decide) e.symm)]
        exact ((Below.refl _ _).alloc (Nat.le_refl _) _).block s h9
      obtain ⟨a4, c4, hv4, _⟩ := HLN.out.shape
      rw [Pl.orb_length] at hv4
      subst hv4
      have cpy := HCP.out _ HLN.out.2
      clear hown3 hgrow3
      go_wp2_with (fail)
      go_roundw
      case rel => exact ⟨i + 1, _, by rw [← HY.out], by omega, HSN, HLN, HMN⟩
      case measure => simp [lenV]; omega
    · obtain rfl : i = K := by omega
      have htt : t = true := by
        refine hmem.2 ?_
        rw [HU.out, Pl.mem_orb]; exact ⟨J, ha.out.lt, ha.out.eq⟩
      subst htt
      obtain ⟨L, hL⟩ : ∃ L, L = Pl.orb f v i := ⟨_, rfl⟩
      rw [← hL] at HL
      have hLl : L.length = i := by rw [hL, Pl.orb_length]
      have HLL := Lib.hid hLl
      have HLE := Lib.hid hL
      have hJK : J < i := ha.out.lt
      have HRL : Hid (Rd wr (.slice a3 i c3) 1 (up L).length (zs (up L))) := by
        have h9 := HL.out.1.rd
        show Rd _ _ _ _ _
        rw [zs_up, up_length]; exact h9
      have HIX := Lib.hid (index_is (up L) (u : Int) J (.slice a3 i c3) (.int .i64 (J : Nat)) wr HRL (by rw [up_length]; omega) (by rw [up_length]; omega) (fun j hj => by
        rw [up_getD, hL, Pl.orb_get f v (by omega)]
        intro e
        have e2 : Pl.it f v j = Pl.it f v J := by rw [ha.out.eq, ← HU.out]; exact_mod_cast e
        have := ha.out.only j J (by omega) hJK e2
        omega) (fun _ => by rw [up_getD, hL, Pl.orb_get f v hJK, HU.out, ha.out.eq]) ⟨fun _ => rfl, fun h => by rw [up_length] at h; omega⟩)
      obtain ⟨g, rfl, hg1, hg2, hgc, _⟩ := own_cells (L := L) (n := i) (by have h9 := HL.out.1; unfold NewL at h9; rw [hLl] at h9; exact h9) (by omega)
      have HGC := Lib.hid hgc
      have HBL := Lib.hid HL.out.2
      have HJL : (J : Int) ≤ (i : Int) := by omega
      clear hin hmem hL hLl hgc HS HM HL HRL
      go_wp2_with (fail)
      refine HIX.out.mono ?_
      rintro e w1 ⟨rfl, rfl⟩
      go_upto_region 8 with fail
      have hCJ : Hid (∀ W, Below w1.heap.size w1 W → ∀ j, j < i → W.cell? ⟨g, j, none⟩ = some (.int .i64 (L.getD j 0 : Nat))) := fun W h j hj => (h.cell (p := ⟨g, j, none⟩) hg2).trans (HGC.out j hj)
      have HLT1 : Hid (J = (L.take J).length) := by show _ = _; rw [List.length_take]; have := HLL.out; omega
      have HLT2 : Hid (i - J = (L.drop J).length) := by show _ = _; rw [List.length_drop]; have := HLL.out; omega
      have HTJ : Hid (∀ j, j < J → (L.take J).getD j 0 = L.getD j 0) := fun j hj => by simp [List.getD_eq_getElem?_getD, List.getElem?_take, hj]
      have HTD : Hid (∀ j, j < i - J → (L.drop J).getD j 0 = L.getD (J + j) 0) := fun j hj => by simp [List.getD_eq_getElem?_getD]
      have hJi : J ≤ i := by omega
      have hJc : J ≤ c3 := by omega
      have hsub : (i : Int) - (J : Int) = ((i - J : Nat) : Int) := by omega
      refine wp_region_held_drew (S := (fun w' => True)) (by kernel_rfl) ?_ (fun hHeld => ?_)
      · (try dsimp only); all_goals trivial
      refine wpAnyH_take (i := 0) (oi := { dst := some 26, op := Op.move (Operand.tmp 6), type := 22, pos := "plays.go:75", after := #[], guard := none }) (v := ?_) rfl (by kernel_rfl) (by kernel_rfl) (by kernel_rfl) (fun _ _ _ h => h) (Or.inl ⟨by rfl, ?_⟩) (by assumption) ?_
      rotate_left
      · intro w hSw; (try dsimp only at hSw); go_simp; all_goals (try with_reducible rfl)
      try simp only [Act.put, List.setIfInBounds_toArray, List.set_cons_zero, List.set_cons_succ]
      refine wpAnyH_take (i := 1) (oi := { dst := some 27, op := Op.move (Operand.tmp 8), type := 3, pos := "plays.go:75", after := #[], guard := none }) (v := ?_) rfl (by kernel_rfl) (by kernel_rfl) (by kernel_rfl) (fun _ _ _ h => h) (Or.inl ⟨by rfl, ?_⟩) (by assumption) ?_
      rotate_left
      · intro w hSw; (try dsimp only at hSw); go_simp; all_goals (try with_reducible rfl)
      try simp only [Act.put, List.setIfInBounds_toArray, List.set_cons_zero, List.set_cons_succ]
      refine wpAnyH_take (i := 2) (oi := { dst := some 28, op := Op.slice 22 (Operand.tmp 26) none (some (Operand.tmp 27)) none, type := 22, pos := "plays.go:75", after := #[{ on := 0, ground := Ground.data }, { on := 1, ground := Ground.data }], guard := none }) (v := ?_) rfl (by kernel_rfl) (by kernel_rfl) (by kernel_rfl) (fun _ _ _ h => h) (Or.inl ⟨by rfl, ?_⟩) (by assumption) ?_
      rotate_left
      · intro w hSw; (try dsimp only at hSw); go_simp; all_goals (try with_reducible rfl)
      try simp only [Act.put, List.setIfInBounds_toArray, List.set_cons_zero, List.set_cons_succ]
      refine wpAnyH_take (i := 4) (oi := { dst := some 30, op := Op.move (Operand.tmp 6), type := 22, pos := "plays.go:75", after := #[], guard := none }) (v := ?_) rfl (by kernel_rfl) (by kernel_rfl) (by kernel_rfl) (fun _ _ _ h => h) (Or.inl ⟨by rfl, ?_⟩) (by assumption) ?_
      rotate_left
      · intro w hSw; (try dsimp only at hSw); go_simp; all_goals (try with_reducible rfl)
      try simp only [Act.put, List.setIfInBounds_toArray, List.set_cons_zero, List.set_cons_succ]
      refine wpAnyH_take (i := 5) (oi := { dst := some 31, op := Op.move (Operand.tmp 8), type := 3, pos := "plays.go:75", after := #[], guard := none }) (v := ?_) rfl (by kernel_rfl) (by kernel_rfl) (by kernel_rfl) (fun _ _ _ h => h) (Or.inl ⟨by rfl, ?_⟩) (by assumption) ?_
      rotate_left
      · intro w hSw; (try dsimp only at hSw); go_simp; all_goals (try with_reducible rfl)
      try simp only [Act.put, List.setIfInBounds_toArray, List.set_cons_zero, List.set_cons_succ]
      refine wpAnyH_take (i := 6) (oi := { dst := some 32, op := Op.slice 22 (Operand.tmp 30) (some (Operand.tmp 31)) none none, type := 22, pos := "plays.go:75", after := #[{ on := 4, ground := Ground.data }, { on := 5, ground := Ground.data }], guard := none }) (v := ?_) rfl (by kernel_rfl) (by kernel_rfl) (by kernel_rfl) (fun _ _ _ h => h) (Or.inl ⟨by rfl, ?_⟩) (by assumption) ?_
      rotate_left
      · intro w hSw; (try dsimp only at hSw); go_simp; all_goals (try with_reducible rfl)
      try simp only [Act.put, List.setIfInBounds_toArray, List.set_cons_zero, List.set_cons_succ]
      refine wpAnyH_ready (rs := [3]) (by kernel_rfl) (by simp) ?_
      refine AllReadyH.cons (o := { dst := some 29, op := Op.call { callee := Callee.value (Operand.func 80), args := #[Operand.tmp 28], argTypes := #[22] }, type := 22, pos := "plays.go:75", after := #[{ on := 2, ground := Ground.data }], guard := none }) rfl (fun K hK => ?_) ?_
      ·
        go_simp
        go_at_call 80
        refine (clone_at (L.take J) g 0 J _ _ HLT1.out (by omega) (fun j hj => by rw [Nat.zero_add]; exact (hCJ.out _ (by first | exact Below.refl _ _ | exact (Below.refl _ _).drew) j (by omega)).trans (by rw [HTJ.out j hj]))).mono ?_
        rintro e wA ⟨⟨aA, cA, rfl, hN⟩, hB⟩
        have HNA := Lib.hid hN
        have HBA : Hid (Below w1.heap.size w1 wA) := below_step (Below.refl _ _).drew hB
        clear hN hB
        try go_wp2_with (fail)
        refine hK.out _ _ ?_ (fun hHeld => ?_)
        · (try dsimp only); all_goals trivial
        clear hK K
        try simp only [Act.put, List.setIfInBounds_toArray, List.set_cons_zero, List.set_cons_succ]
        refine wpAnyH_ready (rs := [7]) (by kernel_rfl) (by simp) ?_
        refine AllReadyH.cons (o := { dst := some 33, op := Op.call { callee := Callee.value (Operand.func 80), args := #[Operand.tmp 32], argTypes := #[22] }, type := 22, pos := "plays.go:75", after := #[{ on := 6, ground := Ground.data }, { on := 3, ground := Ground.chain }], guard := none }) rfl (fun K hK => ?_) ?_
        ·
          go_simp
          go_at_call 80
          refine (clone_at (L.drop J) g J (i - J) _ _ HLT2.out (by omega) (fun j hj => (hCJ.out _ HBA.out (J + j) (by omega)).trans (by rw [HTD.out j hj]))).mono ?_
          rintro e wB ⟨⟨aB, cB, rfl, hN⟩, hB⟩
          have HNB := Lib.hid hN
          have HBB := Lib.hid hB
          clear hN hB
          try go_wp2_with (fail)
          refine hK.out _ _ ?_ (fun hHeld => ?_)
          · (try dsimp only); all_goals trivial
          clear hK K
          try simp only [Act.put, List.setIfInBounds_toArray, List.set_cons_zero, List.set_cons_succ]
          refine wpAnyH_take (i := 8) (oi := { dst := some 4, op := Op.assign (Operand.tmp 29), type := 22, pos := "plays.go:75", after := #[{ on := 3, ground := Ground.data }, { on := 7, ground := Ground.chain }, { on := 0, ground := Ground.phase }, { on := 1, ground := Ground.phase }, { on := 2, ground := Ground.phase }, { on := 3, ground := Ground.phase }, { on := 4, ground := Ground.textOnly Departure.lateStores }, { on := 5, ground := Ground.textOnly Departure.lateStores }, { on := 6, ground := Ground.textOnly Departure.lateStoresUnsure }, { on := 7, ground := Ground.textOnly Departure.lateStoresUnsure }], guard := none }) (v := ?_) rfl (by kernel_rfl) (by kernel_rfl) (by kernel_rfl) (fun _ _ _ h => h) (Or.inl ⟨by rfl, ?_⟩) (by assumption) ?_
          rotate_left
          · intro w hSw; (try dsimp only at hSw); go_simp; all_goals (try with_reducible rfl)
          try simp only [Act.put, List.setIfInBounds_toArray, List.set_cons_zero, List.set_cons_succ]
          refine wpAnyH_take (i := 9) (oi := { dst := some 5, op := Op.assign (Operand.tmp 33), type := 22, pos := "plays.go:75", after := #[{ on := 7, ground := Ground.data }, { on := 8, ground := Ground.chain }, { on := 0, ground := Ground.phase }, { on := 1, ground := Ground.phase }, { on := 2, ground := Ground.phase }, { on := 3, ground := Ground.phase }, { on := 4, ground := Ground.phase }, { on := 5, ground := Ground.phase }, { on := 6, ground := Ground.phase }, { on := 7, ground := Ground.phase }, { on := 8, ground := Ground.phase }], guard := none }) (v := ?_) rfl (by kernel_rfl) (by kernel_rfl) (by kernel_rfl) (fun _ _ _ h => h) (Or.inl ⟨by rfl, ?_⟩) (by assumption) ?_
          rotate_left
          · intro w hSw; (try dsimp only at hSw); go_simp; all_goals (try with_reducible rfl)
          try simp only [Act.put, List.setIfInBounds_toArray, List.set_cons_zero, List.set_cons_succ]
          refine wpAnyH_done (by kernel_rfl) ?_ _
          have HRES : Hid ((NewL w wB (.slice aA J cA) (L.take J) ∧ NewL w wB (.slice aB (i - J) cB) (L.drop J)) ∧ Below w.heap.size w wB) := ⟨⟨(HNA.out.keep HBB.out).from (by have := HBL.out.size; first | exact this | (simp; exact this)), HNB.out.from (by have := HBL.out.size; have := HBA.out.size; omega)⟩, below_step (below_step HBL.out HBA.out) HBB.out⟩
          clear HNA HNB
          go_wp2_with (fail)
          go_ret2
          rw [← HLE.out]
          exact ⟨⟨_, _, rfl, HRES.out.1.1, HRES.out.1.2⟩, HRES.out.2⟩
        exact AllReadyH.nil
      exact AllReadyH.nil

end Go.Proofs.Ytahhkbdodgjaeaa
