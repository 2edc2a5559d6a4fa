/- The walks over the reference's earlier, IsProof, Right. -/
import Derived.Test.YtldfbadcigdbkaaWalkRight
import Derived.Deep.DeepCutAuto
namespace Go.Proofs.Ytldfbadcigdbkaa
open Go.RowKit Go.Maps

set_option maxRecDepth 100000 in
set_option maxHeartbeats 4000000 in
theorem earlier_is (v : Value) (L : List M.Ent) (q : Int) (t : Bool) (w : World) (hr : Hid (RdE w v L)) (hlen : L.length ≤ 1000000) (ht : Hid (decide (q ∈ L.map M.Ent.P) = t)) :
    Calls Try.prog 44 #[v, .int .i64 q] w fun x w' => x = .returned (.bool t) ∧ w = w' := by
  obtain ⟨a, cap, hv, hcap, hcell⟩ := hr.out
  subst hv
  have HC := Lib.hid hcell
  clear hcell hr
  go_enter Try.func44, Try.ntmps44
  go_wp2_with (fail)
  go_loop [5] (fun i => ∃ k : Nat, i = .int .i64 k ∧ k ≤ L.length ∧ Hid (∀ j (h : j < L.length), j < k → L[j].P ≠ q)) (fun i => L.length - (intOf i).toNat)
  case atStart => exact ⟨0, rfl, by omega, fun j _ hj => by omega⟩
  case round =>
    obtain ⟨k, rfl, hk, HK⟩ := hrel
    by_cases hlt : k < L.length
    · rcases HC.out with h0 | ⟨b, rfl, hb, hcell⟩
      · omega
      obtain ⟨fv, c0, -, -, -⟩ := hcell k hlt
      clear hcell
      obtain ⟨P, hP⟩ : ∃ P, P = L[k].P := ⟨_, rfl⟩
      rw [← hP] at c0
      have HP := Lib.hid hP
      clear hP
      by_cases hq : P = q
      · have hb1 : (P == q) = true := by simp [hq]
        have HT : Hid (true = t) := by
          show _ = _
          rw [← ht.out]
          symm
          rw [decide_eq_true_eq]
          exact List.mem_map.2 ⟨L[k], List.getElem_mem hlt, by rw [← HP.out, hq]⟩
        clear hq
        go_wp2_with (fail)
        go_ret
        exact ⟨ret_b HT.out, rfl⟩
      · have hb1 : (P == q) = false := by simp [hq]
        have HQ := Lib.hid hq
        clear hq
        go_wp2_with (fail)
        go_round
        case rel =>
          refine ⟨k + 1, by go_num, by omega, fun j hj hjk => ?_⟩
          by_cases e1 : j = k
          · subst e1; rw [← HP.out]; exact HQ.out
          · exact HK.out j hj (by omega)
        case measure => simp [intOf]; omega
    · obtain rfl : k = L.length := by omega
      have HT : Hid (false = t) := by
        show _ = _
        rw [← ht.out]
        symm
        rw [decide_eq_false_iff_not]
        intro hm
        obtain ⟨E, hE, he⟩ := List.mem_map.1 hm
        obtain ⟨j, hj, rfl⟩ := List.getElem_of_mem hE
        exact HK.out j hj hj he
      go_wp2_with (fail)
      go_ret
      exact ⟨ret_b HT.out, rfl⟩

/-- What the last entry's number was. -/
def PrevOk (L : List M.Ent) (k : Nat) (prev : Option Int) : Prop := ∀ p, prev = some p ↔ ∃ (j : Nat) (h : j < L.length), k = j + 1 ∧ L[j].P = p

theorem PrevOk.zero (L : List M.Ent) : PrevOk L 0 none := fun p => by
  constructor
  · intro h; cases h
  · rintro ⟨j, h, h1, _⟩; omega

theorem PrevOk.succ (L : List M.Ent) (k : Nat) (h : k < L.length) : PrevOk L (k + 1) (some L[k].P) := fun p => by
  constructor
  · intro h1; cases h1; exact ⟨k, h, rfl, rfl⟩
  · rintro ⟨j, h1, h2, h3⟩
    obtain rfl : k = j := by omega
    rw [h3]

theorem RdE.take {w : World} {a : Option Addr} {cap n k : Nat} {L : List M.Ent} (h : RdE w (.slice a n cap) L) (hk : k ≤ n) : RdE w (.slice a k cap) (L.take k) ∧ (L.take k).length = k := by
  obtain ⟨a', cap', hv, hc, h2⟩ := h
  simp only [Value.slice.injEq] at hv
  obtain ⟨rfl, rfl, rfl⟩ := hv
  have hl : (L.take k).length = k := by simp; omega
  refine ⟨⟨a, cap, by rw [hl], by omega, ?_⟩, hl⟩
  rcases h2 with h2 | ⟨b, ha, hb, h2⟩
  · exact .inl (by omega)
  · refine .inr ⟨b, ha, hb, fun j hj => ?_⟩
    have hj2 : j < L.length := by omega
    obtain ⟨fv, c0, c1, c2, hr⟩ := h2 j hj2
    rw [List.getElem_take]
    exact ⟨fv, c0, c1, c2, hr⟩

/-- The copy of an entry lies in block b. -/
structure AtX (w wx : World) (b : Nat) (P W : Int) (v : Value) : Prop where
  below : Below w.heap.size w wx
  lt : b < wx.heap.size
  c0 : wx.cell? ⟨b, 0, none⟩ = some (.int .i64 P)
  c1 : wx.cell? ⟨b, 1, none⟩ = some (.int .i64 W)
  c2 : wx.cell? ⟨b, 2, none⟩ = some v

theorem AtX.new (w wr : World) (P W : Int) (v : Value) (t : TypeId) (m : Nat) (hB : Below w.heap.size w wr) : AtX w ((wr.alloc (.cells #[.int .i64 P, .int .i64 W, v] t)).drewN m) wr.heap.size P W v := by
  refine ⟨below_drewN (hB.alloc hB.size _) m, ?_, ?_, ?_, ?_⟩
  · show wr.heap.size < (wr.alloc _).heap.size
    simp
  · show (wr.alloc _).cell? _ = _
    simp
  · show (wr.alloc _).cell? _ = _
    simp
  · show (wr.alloc _).cell? _ = _
    simp

theorem still_here {P : Program} {f : FuncId} {args : Array Value} {v : Value} {w0 : World} (a n : Nat) (c : Calls P f args (w0.drewN (a + n)) fun e w' => e = .returned v ∧ w0.drewN (a + n) = w') :
    Calls P f args (w0.drewN (a + n)) fun e w' => e = .returned v ∧ ∃ m, w' = w0.drewN (a + m) :=
  c.mono fun _ _ ⟨he, hw⟩ => ⟨he, n, hw.symm⟩

theorem RdE.drewN {w : World} {v : Value} {L : List M.Ent} (h : RdE w v L) (n : Nat) : RdE (w.drewN n) v L := h.below (below_drewN (Below.refl _ _) n)

/-- What the last factor was. -/
def PrevF (F : List Int) (k : Nat) (prev : Option Int) : Prop := ∀ p, prev = some p ↔ ∃ (j : Nat) (h : j < F.length), k = j + 1 ∧ F[j] = p

theorem PrevF.zero (F : List Int) : PrevF F 0 none := fun p => by
  constructor
  · intro h; cases h
  · rintro ⟨j, h, h1, _⟩; omega

theorem PrevF.succ (F : List Int) (k : Nat) (h : k < F.length) : PrevF F (k + 1) (some F[k]) := fun p => by
  constructor
  · intro h1; cases h1; exact ⟨k, h, rfl, rfl⟩
  · rintro ⟨j, h1, h2, h3⟩
    obtain rfl : k = j := by omega
    rw [h3]

set_option maxRecDepth 100000 in
set_option maxHeartbeats 4000000 in
theorem IsProof_is (n : Int) (v : Value) (L : List M.Ent) (t : Bool) (w : World) (hn : 1 ≤ n) (hn2 : n ≤ 2147483647) (hr : Hid (RdE w v L)) (hlen : L.length ≤ 1000000) (hL : Hid (∀ E ∈ L, EntOk E)) (ht : Hid (M.proofR n none [] L = t)) :
    Calls Try.prog 23 #[.int .i64 n, v] w fun x w' => x = .returned (.bool t) ∧ Below w.heap.size w w' := by
  obtain ⟨a, cap, hv, hcap, hcell⟩ := hr.out
  subst hv
  have HC := Lib.hid hcell
  clear hcell
  go_enter Try.func23, Try.ntmps23
  go_wp2_with (fail)
  go_loopw [5] (fun i wr => ∃ (k : Nat) (prev : Option Int) (S : List Int), i = .int .i64 k ∧ k ≤ L.length ∧ Hid (PrevOk L k prev) ∧ Hid (∀ q, q ∈ S ↔ q ∈ (L.take k).map M.Ent.P) ∧ Hid (∀ q ∈ S, 2 ≤ q ∧ q ≤ 2147483647) ∧ Hid (M.proofR n prev S (L.drop k) = M.proofR n none [] L) ∧ Below w.heap.size w wr) (fun i _ => L.length - (intOf i).toNat)
  case atStart => exact ⟨0, none, [], rfl, by omega, PrevOk.zero L, (by show ∀ q, q ∈ ([] : List Int) ↔ _; simp), (by show ∀ q ∈ ([] : List Int), _; simp), (by show _ = _; rfl), Below.refl _ _⟩
  case round =>
    obtain ⟨k, prev, S, rfl, hk, HPv, HS, HS2, HP, hB⟩ := hrel
    by_cases hlt : k < L.length
    · rcases HC.out with h0 | ⟨b, rfl, hb, hcell⟩
      · omega
      obtain ⟨fv, c0, c1, c2, hrf⟩ := hcell k hlt
      obtain ⟨af, cf, hfv⟩ := hrf.lenv
      rw [hfv] at c2 hrf
      have hd : L.drop k = L[k] :: L.drop (k + 1) := List.drop_eq_getElem_cons hlt
      have hE := hL.out L[k] (List.getElem_mem hlt)
      have hP := HP.out
      rw [hd] at hP
      have hnext := PrevOk.succ L k hlt
      have hSn : ∀ q, q ∈ L[k].P :: S ↔ q ∈ (L.take (k + 1)).map M.Ent.P := by
        intro q
        rw [List.take_succ_eq_append_getElem hlt, List.map_append, List.mem_append, List.mem_cons, HS.out q]
        simp [or_comm]
      have hprev : ∀ j, k = j + 1 → ∃ Pj, prev = some Pj ∧ w.cell? ⟨b, j * 3, none⟩ = some (.int .i64 Pj) ∧ (Lit.int .i64 Pj).wf = true := by
        intro j hj
        obtain ⟨_, d0, _⟩ := hcell j (by omega)
        exact ⟨L[j].P, (HPv.out _).2 ⟨j, by omega, hj, rfl⟩, d0, (hL.out L[j] (List.getElem_mem _)).1⟩
      clear hcell
      obtain ⟨E, hEe⟩ : ∃ E, E = L[k] := ⟨_, rfl⟩
      rw [← hEe] at c0 c1 c2 hrf hP hE hnext hSn
      rw [M.proofR] at hP
      obtain ⟨P, W, F⟩ := E
      dsimp only at c0 c1 c2 hrf hP hE hnext hSn
      have HRF := Lib.hid hrf
      have HPP := Lib.hid hP
      have HE := Lib.hid hE
      have HB := Lib.hid hB
      have HN := Lib.hid hnext
      have HSn := Lib.hid hSn
      have d0 : wr.cell? ⟨b, k * 3, none⟩ = some (.int .i64 P) := by rw [hB.cell (p := ⟨b, k * 3, none⟩) hb]; exact c0
      have d1 : wr.cell? ⟨b, k * 3 + 1, none⟩ = some (.int .i64 W) := by rw [hB.cell (p := ⟨b, k * 3 + 1, none⟩) hb]; exact c1
      have d2 : wr.cell? ⟨b, k * 3 + 2, none⟩ = some (.slice af F.length cf) := by rw [hB.cell (p := ⟨b, k * 3 + 2, none⟩) hb]; exact c2
      clear hd HP hP hE hEe hrf c0 c1 c2 hfv hnext hSn
      have hPw := HE.out.1
      have hWw := HE.out.2.1
      dsimp only at hPw hWw
      have hb64 := bounds_i64 hPw
      have hb65 := bounds_i64 hWw
      have hsplit : ((k = 0 ∧ prev = none) ∨ ∃ j Pj, k = j + 1 ∧ prev = some Pj ∧ wr.cell? ⟨b, j * 3, none⟩ = some (.int .i64 Pj) ∧ (Lit.int .i64 Pj).wf = true) := by
        cases k with
        | zero =>
          refine .inl ⟨rfl, ?_⟩
          cases prev with
          | none => rfl
          | some p => obtain ⟨j, _, h1, _⟩ := (HPv.out p).1 rfl; omega
        | succ j =>
          obtain ⟨Pj, h1, h2, h3⟩ := hprev j rfl
          exact .inr ⟨j, Pj, rfl, h1, by rw [hB.cell (p := ⟨b, j * 3, none⟩) hb]; exact h2, h3⟩
      clear hprev hB
      have hB1 := (Below.refl wr.heap.size wr).alloc (Nat.le_refl _) (.cells #[.int .i64 P, .int .i64 W, .slice af F.length cf] 39)
      have HB1 := Lib.hid hB1
      clear hB1
      have hx : ∀ m, AtX w ((wr.alloc (.cells #[.int .i64 P, .int .i64 W, .slice af F.length cf] 39)).drewN m) wr.heap.size P W (.slice af F.length cf) := fun m => AtX.new w wr P W _ _ m HB.out
      have HX := Lib.hid hx
      clear hx
      go_upto_region 5 with fail
      go_cut [38] (fun v wx => ∃ (W3 : World) (bb : Bool), W3 = wx ∧ v = .bool bb ∧ (bb = true ↔ ((∃ p, prev = some p ∧ P ≤ p) ∨ n < P)) ∧ AtX w wx wr.heap.size P W (.slice af F.length cf))
      case first =>
        rcases hsplit with ⟨rfl, rfl⟩ | ⟨j, Pj, rfl, rfl, dj, hjw⟩
        · go_wp2_with (fail)
          go_quiet (fail)
          go_wp2_with (fail)
          go_meet
          exact ⟨_, _, rfl, rfl, by simp, HX.out _⟩
        · have hj0 : decide (0 < j + 1) = true := by simp
          have hj1 : IntKind.i64.wrap (j : Int) = (j : Int) := IntWalk.i64_in _ (by omega)
          have hjb := bounds_i64 hjw
          have hjl : j < L.length := by omega
          have hjl2 : (j : Int) < (L.length : Int) := by omega
          have hbw : b < wr.heap.size := by have := HB.out.size; omega
          have dj2 : (wr.alloc (.cells #[.int .i64 P, .int .i64 W, .slice af F.length cf] 39)).cell? ⟨b, j * 3, none⟩ = some (.int .i64 Pj) := by rw [HB1.out.cell (p := ⟨b, j * 3, none⟩) hbw]; exact dj
          have hpj : (∃ p, some Pj = some p ∧ P ≤ p) ↔ P ≤ Pj := ⟨fun ⟨p, h1, h2⟩ => by cases h1; exact h2, fun h => ⟨Pj, rfl, h⟩⟩
          have HPJ := Lib.hid hpj
          clear hpj
          by_cases hc1 : P ≤ Pj
          · have hd1 : decide (P ≤ Pj) = true := by simpa using hc1
            have HC1 := Lib.hid hc1
            clear hc1
            go_wp2_with (fail)
            go_quiet (fail)
            go_wp2_with (fail)
            go_meet
            exact ⟨_, true, rfl, rfl, by rw [HPJ.out]; simp [HC1.out], HX.out _⟩
          · have hd1 : decide (P ≤ Pj) = false := by simpa using hc1
            have HC1 := Lib.hid hc1
            clear hc1
            go_wp2_with (fail)
            go_quiet (fail)
            go_wp2_with (fail)
            go_meet
            exact ⟨_, decide (n < P), rfl, rfl, by rw [HPJ.out, decide_eq_true_eq]; exact ⟨.inr, fun h => h.resolve_left (by have := HC1.out; omega)⟩, HX.out _⟩
      case rest =>
        obtain ⟨w3, bb, rfl, rfl, hbb, hX⟩ := hcut
        clear hsplit HX HB1 d0 d1 d2
        have e0 := hX.c0
        have e1 := hX.c1
        have e2 := hX.c2
        have HX := Lib.hid hX
        obtain ⟨bx, hbx⟩ : ∃ bx, bx = wr.heap.size := ⟨_, rfl⟩
        rw [← hbx] at e0 e1 e2 HX
        rw [← hbx]
        clear hbx hX HB
        cases bb with
        | true =>
          have HT : Hid (false = t) := by
            have h1 := HPP.out
            have h2 := hbb.1 rfl
            rw [if_pos (by rcases h2 with h2 | h2; exact .inl h2; exact .inr (.inl h2))] at h1
            show _ = _
            rw [← ht.out, ← h1]
          clear hbb
          go_wp2_with (fail)
          go_ret
          exact ⟨ret_b HT.out, HX.out.below⟩
        | false =>
          have hng : ¬ ((∃ p, prev = some p ∧ P ≤ p) ∨ n < P) := fun h => by have := hbb.2 h; cases this
          have hPn : P ≤ n := by omega
          have HNG := Lib.hid hng
          clear hng hbb
          have htf : M.entR S ⟨P, W, F⟩ = false → false = t := by
            intro h
            have h1 := HPP.out
            rw [if_pos (.inr (.inr h))] at h1
            rw [← ht.out, ← h1]
          have hgo : M.entR S ⟨P, W, F⟩ = true → M.proofR n (some P) (P :: S) (L.drop (k + 1)) = M.proofR n none [] L := by
            intro h
            have h1 := HPP.out
            rw [if_neg (by rintro (h2 | h2 | h2); exact HNG.out (.inl h2); exact HNG.out (.inr h2); rw [h] at h2; cases h2)] at h1
            exact h1
          have HTF := Lib.hid htf
          have HGO := Lib.hid hgo
          clear htf hgo
          obtain ⟨fl, hfl⟩ : ∃ fl, fl = F.length := ⟨_, rfl⟩
          have HFL := Lib.hid hfl
          have hfl6 : fl ≤ 1000000 := by rw [hfl]; exact HE.out.2.2.2
          rw [← hfl] at e2 HRF HX
          clear hfl
          by_cases hp2 : P = 2
          · have hb1 : (P == 2) = true := by simp [hp2]
            have hent : M.entR S ⟨P, W, F⟩ = (W == 1 && F.length == 0) := by unfold M.entR; rw [if_pos hp2]
            have HEN := Lib.hid hent
            have hP2 : 2 ≤ P := by omega
            clear hent hp2
            by_cases hw1 : W = 1
            · have hb2 : (W != 1) = false := by simp [hw1]
              by_cases hl0 : 0 < fl
              · have hb3 : decide (0 < fl) = true := by simpa using hl0
                have HT : Hid (false = t) := HTF.out (by rw [HEN.out, ← HFL.out]; simp; omega)
                clear hw1 hl0
                go_wp2_with (fail)
                go_ret
                exact ⟨ret_b HT.out, HX.out.below⟩
              · have hb3 : decide (0 < fl) = false := by simpa using hl0
                have HN2 := Lib.hid (HGO.out (by rw [HEN.out, ← HFL.out]; simp; omega))
                clear hw1 hl0
                go_wp2_with (fail)
                go_roundw
                case rel =>
                  refine ⟨k + 1, some P, P :: S, by go_num, by omega, HN.out, HSn.out, ?_, HN2.out, HX.out.below⟩
                  intro q hq
                  rcases List.mem_cons.1 hq with rfl | hq
                  · omega
                  · exact HS2.out q hq
                case measure => simp [intOf]; omega
            · have hb2 : (W != 1) = true := by simp [hw1]
              have HT : Hid (false = t) := HTF.out (by rw [HEN.out]; simp [hw1])
              clear hw1
              go_wp2_with (fail)
              go_ret
              exact ⟨ret_b HT.out, HX.out.below⟩
          · have hb1 : (P == 2) = false := by simp [hp2]
            by_cases hbad : P < 3 ∨ P % 2 = 0 ∨ W < 2 ∨ P ≤ W ∨ M.powB W (P - 1) P = false
            · have HT : Hid (false = t) := HTF.out (by unfold M.entR; rw [if_neg hp2, if_pos hbad])
              clear hp2
              by_cases h3 : P < 3
              · have hd3 : decide (P < 3) = true := by simpa using h3
                clear hbad h3
                go_wp2_with (fail)
                go_ret
                exact ⟨ret_b HT.out, HX.out.below⟩
              have hd3 : decide (P < 3) = false := by simpa using h3
              by_cases h4 : P % 2 = 0
              · have hd4 : (P % 2 == 0) = true := by simpa using h4
                clear hbad h4
                go_wp2_with (fail)
                go_ret
                exact ⟨ret_b HT.out, HX.out.below⟩
              have hd4 : (P % 2 == 0) = false := by simpa using h4
              by_cases h5 : W < 2
              · have hd5 : decide (W < 2) = true := by simpa using h5
                clear hbad h5 h4
                go_wp2_with (fail)
                go_ret
                exact ⟨ret_b HT.out, HX.out.below⟩
              have hd5 : decide (W < 2) = false := by simpa using h5
              by_cases h6 : P ≤ W
              · have hd6 : decide (P ≤ W) = true := by simpa using h6
                clear hbad h6 h4
                go_wp2_with (fail)
                go_ret
                exact ⟨ret_b HT.out, HX.out.below⟩
              have hd6 : decide (P ≤ W) = false := by simpa using h6
              have hpw : (M.pw W (P - 1) P != 1) = true := by
                have : M.powB W (P - 1) P = false := by
                  rcases hbad with h | h | h | h | h
                  · exact absurd h h3
                  · exact absurd h h4
                  · exact absurd h h5
                  · exact absurd h h6
                  · exact h
                simpa [M.powB] using this
              clear hbad h4
              go_wp2_with (go_at_call 43; refine (Power_any W (P - 1) P _ (by omega) (by omega) (by omega) (by omega) (by omega)).mono ?_; rintro e w' ⟨rfl, rfl⟩)
              go_ret
              exact ⟨ret_b HT.out, HX.out.below⟩
            · have hd3 : decide (P < 3) = false := by simp; omega
              have hd4 : (P % 2 == 0) = false := by simp; omega
              have hd5 : decide (W < 2) = false := by simp; omega
              have hd6 : decide (P ≤ W) = false := by simp; omega
              have hP3 : 3 ≤ P := by omega
              have hW2 : 2 ≤ W := by omega
              have hWP : W < P := by omega
              have hpw : (M.pw W (P - 1) P != 1) = false := by
                have : M.powB W (P - 1) P = true := by
                  cases h : M.powB W (P - 1) P with
                  | true => rfl
                  | false => exact absurd (.inr (.inr (.inr (.inr h)))) hbad
                simpa [M.powB] using this
              have hent : M.entR S ⟨P, W, F⟩ = M.areR S W P none (P - 1) F := by unfold M.entR; rw [if_neg hp2, if_neg hbad]
              have HEN := Lib.hid hent
              clear hbad hp2 hent
              go_wp2_with (go_at_call 43; refine (Power_any W (P - 1) P _ (by omega) (by omega) (by omega) (by omega) (by omega)).mono ?_; rintro e w' ⟨rfl, rfl⟩)
              have hst : M.areR S W P none (P - 1) F = M.areR S W P none (P - 1) (F.drop 0) := rfl
              have hRE := Lib.hid ((hr.out.below HX.out.below).take (k := k) (by omega))
              go_loopw [7, 8] (fun r kv wi => ∃ (j : Nat) (pv : Option Int) (rest : Int) (m : Nat), r = .int .i64 rest ∧ kv = .int .i64 j ∧ j ≤ fl ∧ 1 ≤ rest ∧ rest ≤ 2147483647 ∧ wi = w3.drewN m ∧ Hid (PrevF F j pv) ∧ Hid (M.areR S W P pv rest (F.drop j) = M.areR S W P none (P - 1) F)) (fun _ kv _ => fl - (intOf kv).toNat)
              case atStart => exact ⟨0, none, P - 1, 0, rfl, rfl, by omega, by omega, by omega, rfl, PrevF.zero F, (by show _ = _; rfl)⟩
              case round =>
                obtain ⟨j, pv, rest, m, rfl, rfl, hj, hr1, hr2, rfl, HPF, HA⟩ := hrel
                by_cases hjl : j < fl
                · obtain ⟨hfle, af', cf', hv', hcf, hcl⟩ := HRF.out.below HX.out.below (Nat.le_refl _)
                  simp only [Value.slice.injEq] at hv'
                  obtain ⟨rfl, -, rfl⟩ := hv'
                  rcases hcl with h0 | ⟨bf, rfl, hbf, hcell⟩
                  · omega
                  have hjF : j < F.length := by rw [← HFL.out]; exact hjl
                  have f0 : w3.cell? ⟨bf, j, none⟩ = some (.int .i64 F[j]) := hcell _ _ (intsZ_get F j hjF)
                  have hsplit : (j = 0 ∧ pv = none) ∨ ∃ i q', j = i + 1 ∧ pv = some q' ∧ w3.cell? ⟨bf, i, none⟩ = some (.int .i64 q') ∧ (Lit.int .i64 q').wf = true := by
                    cases j with
                    | zero =>
                      refine .inl ⟨rfl, ?_⟩
                      cases pv with
                      | none => rfl
                      | some p => obtain ⟨i, _, h1, _⟩ := (HPF.out p).1 rfl; omega
                    | succ i => exact .inr ⟨i, F[i], rfl, (HPF.out _).2 ⟨i, by omega, rfl, rfl⟩, hcell _ _ (intsZ_get F i (by omega)), HE.out.2.2.1 _ (List.getElem_mem _)⟩
                  have hd : F.drop j = F[j] :: F.drop (j + 1) := List.drop_eq_getElem_cons hjF
                  have hA := HA.out
                  rw [hd, M.areR] at hA
                  have hwf := HE.out.2.2.1 F[j] (List.getElem_mem hjF)
                  have hpn := PrevF.succ F j hjF
                  obtain ⟨q, hq⟩ : ∃ q, q = F[j] := ⟨_, rfl⟩
                  rw [← hq] at f0 hA hwf hpn
                  have HA2 := Lib.hid hA
                  have HPN := Lib.hid hpn
                  have HCELL := Lib.hid hcell
                  clear hq hd hA hcell hpn
                  have hq64 := bounds_i64 hwf
                  have hkc : k ≤ cap := by omega
                  have hPw1 : IntKind.i64.wrap (P - 1) = P - 1 := IntWalk.i64_in _ (by omega)
                  have hP10 : 0 ≤ P - 1 := by omega
                  have hear : ∀ m, Hid (RdE (w3.drewN m) (.slice (some ⟨b, 0, none⟩) k cap) (L.take k)) := fun m => hRE.out.1.drewN m
                  have HEAR := Lib.hid hear
                  clear hear
                  go_upto_region 17 with fail
                  go_cut [138] (fun v wx => ∃ (m' : Nat) (bb : Bool), wx = w3.drewN m' ∧ v = .bool bb ∧ (bb = true ↔ ((∃ p, pv = some p ∧ q ≤ p) ∨ q ∉ S ∨ (P - 1) % q ≠ 0 ∨ M.powB W ((P - 1) / q) P = true)))
                  case first =>
                    rcases hsplit with ⟨rfl, rfl⟩ | ⟨i, q', rfl, rfl, f1, hwf1⟩
                    · have HNO : Hid (¬ ∃ p, (none : Option Int) = some p ∧ q ≤ p) := by rintro ⟨p, h, _⟩; cases h
                      by_cases hqS : q ∈ S
                      · have HTT : Hid (decide (q ∈ (L.take k).map M.Ent.P) = true) := by show _ = _; rw [decide_eq_true_eq]; exact (HS.out q).1 hqS
                        obtain ⟨hq2, hq3⟩ := HS2.out q hqS
                        have hz : ¬ q = 0 := by omega
                        have hz1 : (q == 0) = false := by simp; omega
                        have hdv : 0 ≤ (P - 1) / q ∧ (P - 1) / q ≤ P - 1 := ⟨Int.ediv_nonneg (by omega) (by omega), Int.ediv_le_self _ (by omega)⟩
                        have hdw : IntKind.i64.wrap ((P - 1) / q) = (P - 1) / q := IntWalk.i64_in _ (by omega)
                        have HQS := Lib.hid hqS
                        clear hqS
                        by_cases hm : (P - 1) % q = 0
                        · have hm1 : ((P - 1) % q != 0) = false := by simp [hm]
                          have HM := Lib.hid hm
                          clear hm
                          by_cases hpo : M.powB W ((P - 1) / q) P = true
                          · have hp1 : (M.pw W ((P - 1) / q) P == 1) = true := by simpa [M.powB] using hpo
                            have HPO := Lib.hid hpo
                            clear hpo
                            go_wp2_with (fail)
                            go_quiet ((first | (go_at_call 44; exact still_here _ _ (earlier_is _ (L.take k) q _ _ (HEAR.out _) (by rw [hRE.out.2]; omega) HTT)) | (go_at_call 43; exact still_more _ _ fun W0 => Power_any W ((P - 1) / q) P W0 (by omega) (by omega) (by omega) (by omega) (by omega))))
                            go_wp2_with (fail)
                            go_meet
                            exact ⟨_, true, World.drewN_drewN .., rfl, ⟨fun _ => .inr (.inr (.inr HPO.out)), fun _ => rfl⟩⟩
                          · have hp1 : (M.pw W ((P - 1) / q) P == 1) = false := by simpa [M.powB] using hpo
                            have HPO := Lib.hid hpo
                            clear hpo
                            go_wp2_with (fail)
                            go_quiet ((first | (go_at_call 44; exact still_here _ _ (earlier_is _ (L.take k) q _ _ (HEAR.out _) (by rw [hRE.out.2]; omega) HTT)) | (go_at_call 43; exact still_more _ _ fun W0 => Power_any W ((P - 1) / q) P W0 (by omega) (by omega) (by omega) (by omega) (by omega))))
                            go_wp2_with (fail)
                            go_meet
                            exact ⟨_, false, World.drewN_drewN .., rfl, ⟨(fun h => by cases h), fun h => by rcases h with h | h | h | h; exact absurd h HNO.out; exact absurd HQS.out h; exact absurd HM.out h; exact absurd h HPO.out⟩⟩
                        · have hm1 : ((P - 1) % q != 0) = true := by simpa using hm
                          have HM := Lib.hid hm
                          clear hm
                          go_wp2_with (fail)
                          go_quiet ((first | (go_at_call 44; exact still_here _ _ (earlier_is _ (L.take k) q _ _ (HEAR.out _) (by rw [hRE.out.2]; omega) HTT)) | (go_at_call 43; exact still_more _ _ fun W0 => Power_any W ((P - 1) / q) P W0 (by omega) (by omega) (by omega) (by omega) (by omega))))
                          go_wp2_with (fail)
                          go_meet
                          exact ⟨_, true, World.drewN_drewN .., rfl, ⟨fun _ => .inr (.inr (.inl HM.out)), fun _ => rfl⟩⟩
                      · have HTT : Hid (decide (q ∈ (L.take k).map M.Ent.P) = false) := by show _ = _; rw [decide_eq_false_iff_not]; exact fun h => hqS ((HS.out q).2 h)
                        have HQS := Lib.hid hqS
                        clear hqS
                        go_wp2_with (fail)
                        go_quiet ((first | (go_at_call 44; exact still_here _ _ (earlier_is _ (L.take k) q _ _ (HEAR.out _) (by rw [hRE.out.2]; omega) HTT)) | (go_at_call 43; exact still_more _ _ fun W0 => Power_any W ((P - 1) / q) P W0 (by omega) (by omega) (by omega) (by omega) (by omega))))
                        go_wp2_with (fail)
                        go_meet
                        exact ⟨_, true, World.drewN_drewN .., rfl, ⟨fun _ => .inr (.inl HQS.out), fun _ => rfl⟩⟩
                    · have hi0 : decide (0 < i + 1) = true := by simp
                      have hi1 : IntKind.i64.wrap (i : Int) = (i : Int) := IntWalk.i64_in _ (by omega)
                      have hil : i < fl := by omega
                      have hq'64 := bounds_i64 hwf1
                      by_cases hle : q ≤ q'
                      · have hl1 : decide (q ≤ q') = true := by simpa using hle
                        have HLE := Lib.hid hle
                        have HTT : Hid (decide (q ∈ (L.take k).map M.Ent.P) = decide (q ∈ (L.take k).map M.Ent.P)) := rfl
                        clear hle
                        go_wp2_with (fail)
                        go_quiet ((first | (go_at_call 44; exact still_here _ _ (earlier_is _ (L.take k) q _ _ (HEAR.out _) (by rw [hRE.out.2]; omega) HTT)) | (go_at_call 43; exact still_more _ _ fun W0 => Power_any W ((P - 1) / q) P W0 (by omega) (by omega) (by omega) (by omega) (by omega))))
                        go_wp2_with (fail)
                        go_meet
                        exact ⟨_, true, World.drewN_drewN .., rfl, ⟨fun _ => .inl ⟨q', rfl, HLE.out⟩, fun _ => rfl⟩⟩
                      · have hl1 : decide (q ≤ q') = false := by simpa using hle
                        have HNO : Hid (¬ ∃ p, some q' = some p ∧ q ≤ p) := by rintro ⟨p, h, h2⟩; cases h; exact hle h2
                        clear hle
                        by_cases hqS : q ∈ S
                        · have HTT : Hid (decide (q ∈ (L.take k).map M.Ent.P) = true) := by show _ = _; rw [decide_eq_true_eq]; exact (HS.out q).1 hqS
                          obtain ⟨hq2, hq3⟩ := HS2.out q hqS
                          have hz : ¬ q = 0 := by omega
                          have hz1 : (q == 0) = false := by simp; omega
                          have hdv : 0 ≤ (P - 1) / q ∧ (P - 1) / q ≤ P - 1 := ⟨Int.ediv_nonneg (by omega) (by omega), Int.ediv_le_self _ (by omega)⟩
                          have hdw : IntKind.i64.wrap ((P - 1) / q) = (P - 1) / q := IntWalk.i64_in _ (by omega)
                          have HQS := Lib.hid hqS
                          clear hqS
                          by_cases hm : (P - 1) % q = 0
                          · have hm1 : ((P - 1) % q != 0) = false := by simp [hm]
                            have HM := Lib.hid hm
                            clear hm
                            by_cases hpo : M.powB W ((P - 1) / q) P = true
                            · have hp1 : (M.pw W ((P - 1) / q) P == 1) = true := by simpa [M.powB] using hpo
                              have HPO := Lib.hid hpo
                              clear hpo
                              go_wp2_with (fail)
                              go_quiet ((first | (go_at_call 44; exact still_here _ _ (earlier_is _ (L.take k) q _ _ (HEAR.out _) (by rw [hRE.out.2]; omega) HTT)) | (go_at_call 43; exact still_more _ _ fun W0 => Power_any W ((P - 1) / q) P W0 (by omega) (by omega) (by omega) (by omega) (by omega))))
                              go_wp2_with (fail)
                              go_meet
                              exact ⟨_, true, World.drewN_drewN .., rfl, ⟨fun _ => .inr (.inr (.inr HPO.out)), fun _ => rfl⟩⟩
                            · have hp1 : (M.pw W ((P - 1) / q) P == 1) = false := by simpa [M.powB] using hpo
                              have HPO := Lib.hid hpo
                              clear hpo
                              go_wp2_with (fail)
                              go_quiet ((first | (go_at_call 44; exact still_here _ _ (earlier_is _ (L.take k) q _ _ (HEAR.out _) (by rw [hRE.out.2]; omega) HTT)) | (go_at_call 43; exact still_more _ _ fun W0 => Power_any W ((P - 1) / q) P W0 (by omega) (by omega) (by omega) (by omega) (by omega))))
                              go_wp2_with (fail)
                              go_meet
                              exact ⟨_, false, World.drewN_drewN .., rfl, ⟨(fun h => by cases h), fun h => by rcases h with h | h | h | h; exact absurd h HNO.out; exact absurd HQS.out h; exact absurd HM.out h; exact absurd h HPO.out⟩⟩
                          · have hm1 : ((P - 1) % q != 0) = true := by simpa using hm
                            have HM := Lib.hid hm
                            clear hm
                            go_wp2_with (fail)
                            go_quiet ((first | (go_at_call 44; exact still_here _ _ (earlier_is _ (L.take k) q _ _ (HEAR.out _) (by rw [hRE.out.2]; omega) HTT)) | (go_at_call 43; exact still_more _ _ fun W0 => Power_any W ((P - 1) / q) P W0 (by omega) (by omega) (by omega) (by omega) (by omega))))
                            go_wp2_with (fail)
                            go_meet
                            exact ⟨_, true, World.drewN_drewN .., rfl, ⟨fun _ => .inr (.inr (.inl HM.out)), fun _ => rfl⟩⟩
                        · have HTT : Hid (decide (q ∈ (L.take k).map M.Ent.P) = false) := by show _ = _; rw [decide_eq_false_iff_not]; exact fun h => hqS ((HS.out q).2 h)
                          have HQS := Lib.hid hqS
                          clear hqS
                          go_wp2_with (fail)
                          go_quiet ((first | (go_at_call 44; exact still_here _ _ (earlier_is _ (L.take k) q _ _ (HEAR.out _) (by rw [hRE.out.2]; omega) HTT)) | (go_at_call 43; exact still_more _ _ fun W0 => Power_any W ((P - 1) / q) P W0 (by omega) (by omega) (by omega) (by omega) (by omega))))
                          go_wp2_with (fail)
                          go_meet
                          exact ⟨_, true, World.drewN_drewN .., rfl, ⟨fun _ => .inr (.inl HQS.out), fun _ => rfl⟩⟩
                  case rest =>
                    obtain ⟨m', bb, rfl, rfl, hbb⟩ := hcut
                    clear hsplit
                    cases bb with
                    | true =>
                      have HT : Hid (false = t) := HTF.out (by
                        rw [HEN.out, ← HA2.out, if_pos (hbb.1 rfl)])
                      clear hbb
                      go_wp2_with (fail)
                      go_ret
                      exact ⟨ret_b HT.out, below_drewN HX.out.below _⟩
                    | false =>
                      have hng : ¬ ((∃ p, pv = some p ∧ q ≤ p) ∨ q ∉ S ∨ (P - 1) % q ≠ 0 ∨ M.powB W ((P - 1) / q) P = true) := fun h => by have := hbb.2 h; cases this
                      have hqS : q ∈ S := Classical.byContradiction fun h => hng (.inr (.inl h))
                      obtain ⟨hq2, hq3⟩ := HS2.out q hqS
                      have hA3 := HA2.out
                      rw [if_neg hng] at hA3
                      have HA3 := Lib.hid hA3
                      clear hbb hng hqS hA3
                      have hz : ¬ q = 0 := by omega
                      obtain ⟨T, hT⟩ : ∃ T, T = M.strips q rest := ⟨_, rfl⟩
                      obtain ⟨_, _, _, hT1, hT2⟩ := M.strips_spec hq2 hr1
                      rw [← hT] at hT1 hT2
                      have HT := Lib.hid hT
                      clear hT
                      go_wp2_with (fail)
                      go_loop [7] (fun r => ∃ x : Int, r = .int .i64 x ∧ 1 ≤ x ∧ x ≤ 2147483647 ∧ Hid (T = M.strips q x)) (fun r => (intOf r).toNat)
                      case atStart => exact ⟨rest, rfl, hr1, hr2, HT.out⟩
                      case round =>
                        obtain ⟨x, rfl, hx1, hx2, HXX⟩ := hrel
                        obtain ⟨st1, st2⟩ := strips_step hq2 hx1
                        by_cases hm : x % q = 0
                        · have hm1 : ((x % q : Int) == 0) = true := by simp [hm]
                          obtain ⟨s1, s2, s3⟩ := st1 hm
                          have HS3 := Lib.hid s3
                          clear hm st1 st2 s3
                          go_wp2_with (fail)
                          go_round
                          case rel => exact ⟨x / q, rfl, s1, by omega, by show _ = _; rw [HXX.out, HS3.out]⟩
                          case measure => simp [intOf]; omega
                        · have hm1 : ((x % q : Int) == 0) = false := by simp [hm]
                          have hxT : Hid (x = T) := by show _ = _; rw [HXX.out, st2 hm]
                          clear hm st1 st2
                          go_wp2_with (fail)
                          go_roundw
                          case rel => exact ⟨j + 1, some q, x, m', rfl, by go_num, by omega, hx1, hx2, rfl, HPN.out, by show _ = _; rw [hxT.out, HT.out]; exact HA3.out⟩
                          case measure => simp [intOf]; omega
                · obtain rfl : j = fl := by omega
                  have hA := HA.out
                  rw [HFL.out, List.drop_length, M.areR] at hA
                  by_cases h1 : rest = 1
                  · have hd7 : (rest != 1) = false := by simp [h1]
                    have HN2 := Lib.hid (HGO.out (by rw [HEN.out, ← hA]; simp [h1]))
                    clear h1 hA
                    go_wp2_with (fail)
                    go_roundw
                    case rel =>
                      refine ⟨k + 1, some P, P :: S, by go_num, by omega, HN.out, HSn.out, ?_, HN2.out, below_drewN HX.out.below _⟩
                      intro q hq
                      rcases List.mem_cons.1 hq with rfl | hq
                      · omega
                      · exact HS2.out q hq
                    case measure => simp [intOf]; omega
                  · have hd7 : (rest != 1) = true := by simp [h1]
                    have HT : Hid (false = t) := HTF.out (by rw [HEN.out, ← hA]; simp [h1])
                    clear h1 hA
                    go_wp2_with (fail)
                    go_ret
                    exact ⟨ret_b HT.out, below_drewN HX.out.below _⟩
    · obtain rfl : k = L.length := by omega
      have hP := HP.out
      rw [List.drop_length, M.proofR] at hP
      have h2 := ht.out
      rw [← hP] at h2
      have HB := Lib.hid hB
      obtain ⟨m, hm⟩ : ∃ m, m = L.length := ⟨_, rfl⟩
      have HM := Lib.hid hm
      have hcl : ∀ j, m = j + 1 → ∃ Pj bb, a = some ⟨bb, 0, none⟩ ∧ wr.cell? ⟨bb, j * 3, none⟩ = some (.int .i64 Pj) ∧ prev = some Pj := by
        intro j hj
        rcases HC.out with h0 | ⟨bb, ha, hb, hcell⟩
        · omega
        obtain ⟨_, d0, _⟩ := hcell j (by omega)
        exact ⟨L[j].P, bb, ha, by rw [hB.cell (p := ⟨bb, j * 3, none⟩) hb]; exact d0, (HPv.out _).2 ⟨j, by omega, by omega, rfl⟩⟩
      rw [← hm] at hlt hk hcap hlen ⊢
      clear hm hB hP
      cases m with
      | zero =>
        have hpn : prev = none := by
          cases prev with
          | none => rfl
          | some p => obtain ⟨j, h, _⟩ := (HPv.out p).1 rfl; have := HM.out; omega
        rw [hpn] at h2
        have HT : Hid (false = t) := by show _ = _; rw [← h2]; rfl
        clear h2 hcl
        go_wp2_with (fail)
        go_ret
        exact ⟨ret_b HT.out, HB.out⟩
      | succ j =>
        obtain ⟨Pj, bb, rfl, dj, hpv⟩ := hcl j rfl
        rw [hpv] at h2
        have HT : Hid ((Pj == n) = t) := by
          show _ = _
          rw [← h2, Bool.eq_iff_iff]
          simp
        clear h2 hcl hpv
        go_wp2_with (fail)
        go_ret
        exact ⟨ret_b HT.out, HB.out⟩

end Go.Proofs.Ytldfbadcigdbkaa
