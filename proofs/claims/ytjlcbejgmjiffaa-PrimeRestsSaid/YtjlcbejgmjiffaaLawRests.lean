/- The result of Common has all remainders and is less than the least common multiple, and the remainders of one number lead back to it. No condition. -/
import Derived.Test.YtjlcbejgmjiffaaArgs
import Derived.Maps.AppendAt
import Derived.ProofKit
import Derived.OpenShut
namespace Go.Proofs.Ytjlcbejgmjiffaa.primeRests
open Go.ChangeShapes Go.WideShapes Go.ChangeAt Go.RowKit

theorem own : ownKnob Try.prog.godebug = none := by kernel_rfl


theorem argI_at {w : World} {a : Addr} {Z : List Int} (h : ∀ i (h : i < Z.length), w.cell? (a.add i) = some (.int .i64 Z[i])) (hp : 0 < Z.length) : ∃ b off, a = ⟨b, off, none⟩ ∧ ∀ i (h : i < Z.length), w.cell? ⟨b, off + i, none⟩ = some (.int .i64 Z[i]) := by
  obtain ⟨b, off, spot⟩ := a
  have hspot : spot = none := by simpa [Addr.add] using World.cell?_spot (h 0 hp)
  subst hspot
  exact ⟨b, off, rfl, fun i hi => by rw [← Go.WideShapes.add_plain]; exact h i hi⟩

theorem ints_take_snoc (Q : List Nat) (k : Nat) (h : k < Q.length) : ints (Q.take (k + 1)) = ints (Q.take k) ++ [.int .i64 (Q[k] : Int)] := by
  rw [List.take_succ_eq_append_getElem h, ints, List.map_append]; rfl

theorem own_slice {w : World} {base size n : Nat} {e : TypeId} {v : Value} {xs : List Value} (h : w.ownsRow base e size v n xs) : ∃ (a : Option Addr) (cap : Nat), v = .slice a n cap := by
  rcases h.2 with ⟨h1, h2⟩ | ⟨g, cap, _, hv, _⟩
  · subst h2; exact ⟨none, 0, h1⟩
  · exact ⟨_, cap, hv⟩

/-- Two rows of the call's own, in different blocks: both are extended. -/
theorem two_rows {w w1 : World} {base n m : Nat} {e : TypeId} {v v' u : Value} {xs ys zs : List Value} {o : Obj} (hu : w.ownsRow base e 1 u m ys) (hne : ∀ b, v.ownBlock = some b → u.ownBlock ≠ some b)
    (_hown : w1.ownsRow base e 1 v' n (xs ++ zs)) (hg : (w.alloc o).grownBy w1 v.ownBlock) (hb : v'.ownBlock = v.ownBlock ∨ v'.ownBlock = some (w.alloc o).heap.size) :
    w1.ownsRow base e 1 u m ys ∧ ∀ b, v'.ownBlock = some b → u.ownBlock ≠ some b := by
  refine ⟨(hu.alloc o).kept hg ?_, fun b hb1 hb2 => ?_⟩
  · by_cases h : u.ownBlock = none
    · exact .inl h
    · right
      intro e1
      cases hv : v.ownBlock with
      | none => exact h (e1.trans hv)
      | some b => exact hne b hv (e1.trans hv)
  · rcases hb with h | h
    · exact hne b (h ▸ hb1) hb2
    · rw [h] at hb1
      have := (hu.lt b hb2).2
      simp at hb1
      omega

set_option maxRecDepth 100000 in
set_option maxHeartbeats 4000000 in
theorem walk (n : Int) (v : Value) (Z : List Int) (w : World) (hz : Hid (ArgI w v Z)) :
    Calls Try.prog 14 #[.int .i64 n, v] w fun e w' => e = .returned (.bool true) ∧ Below w.heap.size w w' := by
  obtain ⟨i0, hi, hz0, hz1, hz2⟩ := info_parts Try.infoI
  have hnb := modv_bd n 1152921504606846976 (by omega)
  obtain ⟨N, hN⟩ := Int.eq_ofNat_of_zero_le hnb.1
  rw [hN] at hnb
  have HN := Lib.hid hN
  clear hN
  obtain ⟨Q, hQ⟩ : ∃ Q : List Nat, Q = (Z.take 5).map fun z => (numv z 5000).toNat := ⟨_, rfl⟩
  have hQl : Q.length ≤ 5 ∧ Q.length ≤ Z.length := by rw [hQ, List.length_map, List.length_take]; omega
  have hQm : Hid (¬ (Q.length < Z.length ∧ Q.length < 5)) := by
    show ¬ _
    rw [hQ, List.length_map, List.length_take]; omega
  have hQe : Hid (∀ k (h : k < Q.length) (h' : k < Z.length), (Q[k] : Int) = numv Z[k] 5000) := by
    intro k h h'
    subst hQ
    have := numv_bd Z[k] 5000 (by omega)
    simp only [List.getElem_map, List.getElem_take]
    omega
  have hQb : Hid (∀ q ∈ Q, 1 ≤ q ∧ q ≤ 5000) := by
    intro q hq
    subst hQ
    obtain ⟨z, _, rfl⟩ := List.mem_map.1 hq
    have := numv_bd z 5000 (by omega)
    omega
  clear hQ
  have hshape : Hid (∃ (a : Option Addr) (cap : Nat), v = .slice a Z.length cap ∧ Z.length ≤ 9223372036854775807 ∧ (Z.length = 0 ∨ ∃ b off, a = some ⟨b, off, none⟩ ∧ b < w.heap.size ∧ ∀ i (h : i < Z.length), w.cell? ⟨b, off + i, none⟩ = some (.int .i64 Z[i]))) := by
    obtain ⟨h1, h2 | ⟨a, cap, h2, h3, h4, h5⟩⟩ := hz.out
    · obtain ⟨rfl, rfl⟩ := h2
      exact ⟨none, 0, rfl, by simp, .inl rfl⟩
    · refine ⟨some a, cap, h2, h1, ?_⟩
      by_cases h0 : Z.length = 0
      · exact .inl h0
      · obtain ⟨b, off, rfl, h6⟩ := argI_at h5 (by omega)
        exact .inr ⟨b, off, rfl, World.block_lt_of_cell? w _ (h6 0 (by omega)), h6⟩
  obtain ⟨a, cap, rfl, hZl, hcell⟩ := hshape.out
  have HC := Lib.hid hcell
  clear hcell hshape hz
  have hsm : Hid (M.small 1 Q = true) := by
    refine M.small_few Q 1 (by omega) hQb.out ?_ (by omega)
    have h1 : 5000 ^ Q.length ≤ 5000 ^ 5 := Nat.pow_le_pow_right (by omega) hQl.1
    have h2 : (5000 : Nat) ^ 5 ≤ M.maxMul := by decide
    omega
  go_enter Try.func14, Try.ntmps14
  go_wp2_with (fail)
  refine (mod_is n 1152921504606846976 _ (by omega) (by omega)).mono ?_
  rintro e w' ⟨rfl, rfl⟩
  rw [HN.out]
  go_wp2_with (fail)
  go_loopw [5, 6, 7] (fun rv ov iv wr => ∃ (i : Nat), iv = .int .i64 i ∧ i ≤ Q.length ∧ wr.ownsRow w.heap.size 3 1 rv i (ints ((Q.take i).map fun q => N % q)) ∧ wr.ownsRow w.heap.size 3 1 ov i (ints (Q.take i)) ∧ Hid (∀ b, ov.ownBlock = some b → rv.ownBlock ≠ some b) ∧ Below w.heap.size w wr) (fun _ _ iv _ => Q.length - (intOf iv).toNat)
  case atStart => exact ⟨0, rfl, by omega, by simpa [ints] using World.ownsRow_nil _ _ _ _, by simpa [ints] using World.ownsRow_nil _ _ _ _, fun b hb => by simp [Value.ownBlock] at hb, Below.refl _ _⟩
  case round =>
    obtain ⟨i, rfl, hi1, hrr, hro, hdis, hB⟩ := hrel
    have hbz := hB.size
    by_cases hlt : i < Q.length
    · have hltZ : i < Z.length := by omega
      have hd1 : decide ((i : Int) < 5) = true := by simp; omega
      have hd2 : decide (i < Z.length) = true := by simpa using hltZ
      rcases HC.out with h0 | ⟨b, off, rfl, hb, hcell⟩
      · omega
      have c0 : wr.cell? ⟨b, off + i, none⟩ = some (.int .i64 Z[i]) := by rw [hB.cell (p := ⟨b, off + i, none⟩) hb]; exact hcell i hltZ
      clear hcell
      have hqe := hQe.out i hlt hltZ
      have hqb := hQb.out Q[i] (List.getElem_mem hlt)
      have hsn1 := ints_take_snoc Q i hlt
      have hsn2 : ints ((Q.take (i + 1)).map fun q => N % q) = ints ((Q.take i).map fun q => N % q) ++ [.int .i64 ((N % Q[i] : Nat) : Int)] := by
        rw [List.take_succ_eq_append_getElem hlt, List.map_append, ints, List.map_append]; rfl
      obtain ⟨z, hzz⟩ : ∃ z, z = Z[i] := ⟨_, rfl⟩
      obtain ⟨q, hq⟩ : ∃ q, q = Q[i] := ⟨_, rfl⟩
      obtain ⟨r, hr⟩ : ∃ r, r = N % q := ⟨_, rfl⟩
      rw [← hzz] at c0
      rw [← hq, ← hzz] at hqe
      rw [← hq] at hqb hsn1 hsn2
      rw [← hr] at hsn2
      have hrc : (N : Int) % (q : Int) = (r : Int) := by rw [hr]; rfl
      have HQE := Lib.hid hqe
      have HS1 := Lib.hid hsn1
      have HS2 := Lib.hid hsn2
      clear hqe hsn1 hsn2 hzz hq hr
      go_wp2_with (fail)
      refine (number_is z 5000 _ (by omega) (by omega)).mono ?_
      rintro e w' ⟨rfl, rfl⟩
      rw [← HQE.out]
      go_wp2_with (first
        | (at_builtin; refine wpList_append_own_at _ rfl _ _ 49 rfl w.heap.size 3 i0 (.int .i64 0) 1 8 Try.underlying49 hi hz0 hz1 hz2 rfl (by decide) _ _ _ rfl (hro.alloc _) ⟨wr.heap.size, 0, none⟩ 1 1 [.int .i64 (q : Int)] rfl rfl (cell_one_at _ _ _ _ rfl) (by intro u hu; simp at hu; subst hu; rfl) (by unfold maxLen; omega) (by omega) (by simp; omega) ?_; intro ov' w1 hown1 hg1 _ hb1; obtain ⟨hrr1, hdis1⟩ := two_rows hrr hdis.out hown1 hg1 hb1; have hB1 := (hB.alloc (by omega) _).grown hg1 (by simp; omega) (fun b hb => (hro.lt b hb).1); have hbz1 := hB1.size; have HD1 := Lib.hid (And.intro hdis1 hB1); clear hg1 hb1 hdis1 hB1 hrr hro hB)
        | (at_builtin; refine wpList_append_own_at _ rfl _ _ 49 rfl w.heap.size 3 i0 (.int .i64 0) 1 8 Try.underlying49 hi hz0 hz1 hz2 rfl (by decide) _ _ _ rfl (hrr1.alloc _) ⟨w1.heap.size, 0, none⟩ 1 1 [.int .i64 (r : Int)] rfl rfl (cell_one_at _ _ _ _ rfl) (by intro u hu; simp at hu; subst hu; rfl) (by unfold maxLen; omega) (by omega) (by simp; omega) ?_; intro rv' w2 hown2 hg2 _ hb2; have hdis2 : ∀ b, _ = some b → ov'.ownBlock ≠ some b := fun b h1 h2 => HD1.out.1 b h2 h1; obtain ⟨hro2, hdis3⟩ := two_rows hown1 hdis2 hown2 hg2 hb2; have hB2 := (HD1.out.2.alloc (by omega) _).grown hg2 (by simp; omega) (fun b hb => (hrr1.lt b hb).1); have HF := Lib.hid (And.intro hown2 (And.intro hro2 (And.intro hdis3 hB2))); clear hown1 hown2 hro2 hdis3 hB2 hrr1 hg2 hb2 hdis2))
      go_roundw
      case rel =>
        refine ⟨i + 1, by go_num, by omega, ?_, ?_, fun b h1 h2 => HF.out.2.2.1 b h2 h1, HF.out.2.2.2⟩
        · rw [HS2.out]; exact HF.out.1
        · rw [HS1.out]; exact HF.out.2.1
      case measure => simp [intOf]; omega
    · obtain rfl : i = Q.length := by omega
      rw [List.take_length] at hrr hro
      obtain ⟨a1, cap1, rfl⟩ := own_slice hrr
      obtain ⟨a2, cap2, rfl⟩ := own_slice hro
      obtain ⟨L, hL⟩ : ∃ L : List (Nat × Nat), L = Q.map fun q => (N % q, q) := ⟨_, rfl⟩
      have hLl : L.length = Q.length := by rw [hL]; simp
      have hf : firsts L = Q.map fun q => N % q := by rw [hL, firsts, List.map_map]; rfl
      have hsec : seconds L = Q := by rw [hL, seconds, List.map_map]; exact List.map_id' Q
      have hr3 : Hid (Rd wr (.slice a1 Q.length cap1) 1 L.length (ints (firsts L))) := by
        show Rd _ _ _ _ _
        rw [hLl, hf]; exact Rd.of_own hrr
      have hq3 : Hid (Rd wr (.slice a2 Q.length cap2) 1 L.length (ints (seconds L))) := by
        show Rd _ _ _ _ _
        rw [hLl, hsec]; exact Rd.of_own hro
      have hV : Hid (Valid L) := by
        refine ⟨by omega, fun x hx => ?_⟩
        rw [hL] at hx
        obtain ⟨q, hq, rfl⟩ := List.mem_map.1 hx
        have := hQb.out q hq
        exact ⟨Nat.mod_lt _ (by omega), by show q ≤ _; omega⟩
      have hS : Hid (M.small 1 (seconds L) = true) := by show _ = _; rw [hsec]; exact hsm.out
      have hq1 : ∀ q ∈ Q, 1 ≤ q := fun q hq => (hQb.out q hq).1
      obtain ⟨lp1, _, lp3⟩ := M.lcm_pos Q 1 (by omega) hq1
      obtain ⟨al, hal⟩ : ∃ al, al = M.lcmOf 1 Q := ⟨_, rfl⟩
      have hC : Hid (M.crt 0 1 L = some (N % al, al)) := by
        have := M.crt_rests (N := N) Q 1 (by omega) hq1
        rw [Nat.mod_one] at this
        show _ = _
        rw [hL, this, hal]
      have hal2 : al ≤ 4611686018427387904 := by rw [hal]; exact M.small_lcm Q 1 (by omega) (by decide) hq1 hsm.out
      rw [← hal] at lp1 lp3
      have hdv := Lib.hid lp3
      have HB := Lib.hid hB
      have HRD := Lib.hid (And.intro (Rd.of_own hrr) (Rd.of_own hro))
      clear hL hLl hf hsec hal lp3 hB hrr hro hq1
      obtain ⟨x, hx⟩ : ∃ x, x = N % al := ⟨_, rfl⟩
      have hxa : x < al := by rw [hx]; exact Nat.mod_lt _ (by omega)
      rw [← hx] at hC
      have hNa : ((N : Int) % (al : Int) == (x : Int)) = true := by rw [hx]; simp
      have HX := Lib.hid hx
      clear hx
      have hd1 : decide (al ≤ x) = false := by simp; omega
      have hd2 : decide ((al : Int) < 1) = false := by simp; omega
      have hd3 : decide ((x : Int) < 0) = false := by simp
      have hdn : (decide (Q.length < Z.length) && decide ((Q.length : Int) < 5)) = false := by
        have := hQm.out
        rw [Bool.and_eq_false_iff, decide_eq_false_iff_not, decide_eq_false_iff_not]
        omega
      by_cases hz5 : Q.length < Z.length
      · have hd5 : decide (Q.length < Z.length) = true := by simpa using hz5
        have hd6 : decide ((Q.length : Int) < 5) = false := by simp; have := hQm.out; omega
        clear hdn
        go_wp2_with (fail)
        refine (Common_ok L _ _ _ _ hr3 hq3 hV hS hC).mono ?_
        rintro e w' ⟨rfl, n1, rfl⟩
        go_wp2_with (fail)
        go_loopw [12] (fun iv wx => ∃ (k m : Nat), iv = .int .i64 k ∧ k ≤ Q.length ∧ wx = wr.drewN m) (fun iv _ => Q.length - (intOf iv).toNat)
        case atStart => exact ⟨0, n1, rfl, by omega, rfl⟩
        case round =>
          obtain ⟨k, m, rfl, hk, rfl⟩ := hrel
          by_cases hlt : k < Q.length
          · obtain ⟨_, a1', cap1', e1, _, h1 | ⟨b1, hb1, hbb1, hc1⟩⟩ := HRD.out.1
            · omega
            obtain ⟨_, a2', cap2', e2, _, h1 | ⟨b2, hb2, hbb2, hc2⟩⟩ := HRD.out.2
            · omega
            simp only [Value.slice.injEq] at e1 e2
            obtain ⟨rfl, _, _⟩ := e1
            obtain ⟨rfl, _, _⟩ := e2
            subst hb1 hb2
            have c1 : wr.cell? ⟨b1, k, none⟩ = some (.int .i64 ((N % Q[k] : Nat) : Int)) := hc1 _ _ (by simp [ints, hlt])
            have c2 : wr.cell? ⟨b2, k, none⟩ = some (.int .i64 (Q[k] : Int)) := hc2 _ _ (ints_get Q k hlt)
            clear hc1 hc2
            have hqb := hQb.out Q[k] (List.getElem_mem hlt)
            have hqd := hdv.out Q[k] (List.getElem_mem hlt)
            obtain ⟨q, hq⟩ : ∃ q, q = Q[k] := ⟨_, rfl⟩
            rw [← hq] at c1 c2 hqb hqd
            clear hq
            obtain ⟨r, hr⟩ : ∃ r, r = N % q := ⟨_, rfl⟩
            rw [← hr] at c1
            have hxq : (x : Int) % (q : Int) = (r : Int) := by
              have : x % q = r := by rw [HX.out, hr, Nat.mod_mod_of_dvd _ hqd]
              rw [← this]; rfl
            have haq : (((al : Int) % (q : Int)) != 0) = false := by
              rw [bne_eq_false_iff_eq]; exact Int.emod_eq_zero_of_dvd (by exact_mod_cast hqd)
            have ht : ((r : Int) != (r : Int)) = false := by simp
            have hz1 : ¬ q = 0 := by omega
            have hz2 : ((q : Int) == 0) = false := by simp; omega
            clear hr hqd
            go_wp2_with (fail)
            go_quiet (fail)
            go_wp2_with (fail)
            go_roundw
            case rel => exact ⟨k + 1, _, by go_num, by omega, rfl⟩
            case measure => simp [intOf]; omega
          · obtain rfl : k = Q.length := by omega
            go_wp2_with (go_at_call 19; refine (awake_is _).mono ?_; rintro e w3 ⟨rfl, hB⟩; have HB3 := Lib.hid hB; clear hB)
            go_ret
            have h1 := below_drewN HB.out m
            exact ⟨rfl, h1.trans (HB3.out.mono h1.size)⟩
      · have hd5 : decide (Q.length < Z.length) = false := by simpa using hz5
        clear hdn
        go_wp2_with (fail)
        refine (Common_ok L _ _ _ _ hr3 hq3 hV hS hC).mono ?_
        rintro e w' ⟨rfl, n1, rfl⟩
        go_wp2_with (fail)
        go_loopw [12] (fun iv wx => ∃ (k m : Nat), iv = .int .i64 k ∧ k ≤ Q.length ∧ wx = wr.drewN m) (fun iv _ => Q.length - (intOf iv).toNat)
        case atStart => exact ⟨0, n1, rfl, by omega, rfl⟩
        case round =>
          obtain ⟨k, m, rfl, hk, rfl⟩ := hrel
          by_cases hlt : k < Q.length
          · obtain ⟨_, a1', cap1', e1, _, h1 | ⟨b1, hb1, hbb1, hc1⟩⟩ := HRD.out.1
            · omega
            obtain ⟨_, a2', cap2', e2, _, h1 | ⟨b2, hb2, hbb2, hc2⟩⟩ := HRD.out.2
            · omega
            simp only [Value.slice.injEq] at e1 e2
            obtain ⟨rfl, _, _⟩ := e1
            obtain ⟨rfl, _, _⟩ := e2
            subst hb1 hb2
            have c1 : wr.cell? ⟨b1, k, none⟩ = some (.int .i64 ((N % Q[k] : Nat) : Int)) := hc1 _ _ (by simp [ints, hlt])
            have c2 : wr.cell? ⟨b2, k, none⟩ = some (.int .i64 (Q[k] : Int)) := hc2 _ _ (ints_get Q k hlt)
            clear hc1 hc2
            have hqb := hQb.out Q[k] (List.getElem_mem hlt)
            have hqd := hdv.out Q[k] (List.getElem_mem hlt)
            obtain ⟨q, hq⟩ : ∃ q, q = Q[k] := ⟨_, rfl⟩
            rw [← hq] at c1 c2 hqb hqd
            clear hq
            obtain ⟨r, hr⟩ : ∃ r, r = N % q := ⟨_, rfl⟩
            rw [← hr] at c1
            have hxq : (x : Int) % (q : Int) = (r : Int) := by
              have : x % q = r := by rw [HX.out, hr, Nat.mod_mod_of_dvd _ hqd]
              rw [← this]; rfl
            have haq : (((al : Int) % (q : Int)) != 0) = false := by
              rw [bne_eq_false_iff_eq]; exact Int.emod_eq_zero_of_dvd (by exact_mod_cast hqd)
            have ht : ((r : Int) != (r : Int)) = false := by simp
            have hz1 : ¬ q = 0 := by omega
            have hz2 : ((q : Int) == 0) = false := by simp; omega
            clear hr hqd
            go_wp2_with (fail)
            go_quiet (fail)
            go_wp2_with (fail)
            go_roundw
            case rel => exact ⟨k + 1, _, by go_num, by omega, rfl⟩
            case measure => simp [intOf]; omega
          · obtain rfl : k = Q.length := by omega
            go_wp2_with (go_at_call 19; refine (awake_is _).mono ?_; rintro e w3 ⟨rfl, hB⟩; have HB3 := Lib.hid hB; clear hB)
            go_ret
            have h1 := below_drewN HB.out m
            exact ⟨rfl, h1.trans (HB3.out.mono h1.size)⟩


set_option maxRecDepth 100000 in
theorem lifted (os : Os) (started : os.Started) (H : Type) (enc : TypeId × Value → H) :
    ReturnsInHanded {} Try.checked os 14 .any (Rows.primeRestsSpec.pre6 enc Try.prog Try.f14 Rows.primeRestsRow.domain false) (Rows.primeRestsSpec.post enc Try.prog Try.f14 false true false false) := by
  refine returnsInHanded_of_change (C := Try.checked) own started (by kernel_rfl) Try.func14
    (ChangeSpec.witness6 (enc := enc) (C := Try.checked) false ⟨#[], #[.int .i64 0, .slice none 0 0], []⟩ 8 (by kernel_rfl) (by kernel_rfl) (by kernel_rfl) (by kernel_rfl)) ?_
  intro W base args ds gs before hval0 hW hcnd _
  have hval : ∀ (j : Nat) t v, Try.f14.params[j]? = some t → args[j]? = some v → Value.okWide Try.prog W .any base t v := hval0
  have hW' := hW
  obtain ⟨p, q, hA0, hV, rfl, hfz, hnd⟩ := hW
  have hA : DataW.TrodAll enc Try.prog W 0 (fun _ => true) true Try.f14.params.toList args.toList ds p := hA0
  rw [Try.params14] at hA hval
  obtain ⟨v0, vs0, d0, ds0, p0, q0, hargs, rfl, rfl, h0, r0⟩ := trodAll_cons hA
  obtain ⟨v1, vs1, d1, ds1, p1, q1, rfl, rfl, rfl, h1, r1⟩ := trodAll_cons r0
  obtain ⟨rfl, rfl, rfl⟩ := trodAll_nil r1
  obtain rfl : args = #[v0, v1] := by cases args; simp_all
  obtain ⟨rfl, rfl⟩ := trodVars_none hV
  have hlt := hW'.lt
  obtain ⟨a0, rfl, rfl, rfl, w0⟩ := open_int Try.underlying3 (hval 0 3 v0 rfl rfl) h0
  obtain ⟨Z1, hZ1⟩ := argI_of (hval 1 49 v1 rfl rfl) h1
  clear hA0 hval0
  simp only [List.append_nil] at hW'
  refine (walk a0 v1 Z1 W hZ1).mono fun e W' ⟨he, hg⟩ => ?_
  subst he
  exact ⟨_, rfl, _, _, _, [], [] ++ (p1 ++ ([])), [], hW', trodAll_cons_mk (shut_bool Try.underlying4 _) trodAll_mk0, trodAll_cons_mk (shut_int Try.underlying3 w0) (trodAll_cons_mk (Below.trod (by kernel_rfl) (by kernel_rfl) (by decide +kernel) h1 hg (fun x hx => hlt x (by simp [hx]))) trodAll_mk0), rfl, hg.frame _, fun h => by cases h⟩

theorem over : Rows.primeRestsRow.holds Try.pinned (OpenSpec.ofChange Rows.primeRestsSpec) :=
  OpenClaim.holds_of_wide 14 Try.f14 rfl rfl rfl rfl rfl rfl rfl ⟨rfl, rfl, rfl, rfl, rfl⟩ rfl rfl rfl rfl rfl (by kernel_rfl) Try.func14 (by kernel_rfl)
    (of_decide_eq_true (by kernel_rfl)) (by unfold Func.isWrapper; first | (rw [if_pos (by decide +kernel)]; kernel_rfl) | (rw [if_neg (by decide +kernel)]; exact ⟨rfl, rfl⟩))
    (fun os started H enc _ => lifted os started H enc)

theorem proved : Rows.PrimeRestsSaid := over

end Go.Proofs.Ytjlcbejgmjiffaa.primeRests
