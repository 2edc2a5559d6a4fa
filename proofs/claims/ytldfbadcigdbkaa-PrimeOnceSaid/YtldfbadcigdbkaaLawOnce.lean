/- No number has right verdicts of both kinds: Check refuses every verdict of the kind that Decide did not return. No condition. -/
import Derived.Test.YtldfbadcigdbkaaDecide
import Derived.Test.YtldfbadcigdbkaaWalkMod
import Derived.Test.YtldfbadcigdbkaaArgV
import Derived.ProofKit
import Derived.OpenShut
namespace Go.Proofs.Ytldfbadcigdbkaa.primeOnce
open Go.ChangeShapes Go.WideShapes Go.ChangeAt Go.RowKit

theorem own : ownKnob Try.prog.godebug = none := by kernel_rfl

def cutL (L : List M.Ent) : List M.Ent := (L.take 60).map fun E => ⟨E.P, E.W, E.F.take 20⟩

theorem cutL_len (L : List M.Ent) : (cutL L).length ≤ 60 := by unfold cutL; rw [List.length_map, List.length_take]; omega

theorem cutL_ok {L : List M.Ent} (h : ∀ E ∈ L, (Lit.int .i64 E.P).wf = true ∧ (Lit.int .i64 E.W).wf = true ∧ FOk E.F) : ∀ E ∈ cutL L, EntOk E := by
  intro E hE
  unfold cutL at hE
  obtain ⟨E0, h0, rfl⟩ := List.mem_map.1 hE
  obtain ⟨h1, h2, h3⟩ := h E0 (List.mem_of_mem_take h0)
  exact ⟨h1, h2, fun q hq => h3 q (List.mem_of_mem_take hq), by simp; omega⟩

theorem right_div {N : Nat} {d : Int} (hp : M.Pr N) (hd : d ≠ 0) : rightP (N : Int) d [] = false := by
  have h2 := hp.1
  unfold rightP
  rw [if_neg hd, if_neg (by simp), if_neg (by omega)]
  refine decide_eq_false ?_
  rintro ⟨h3, h4, h5⟩
  obtain ⟨q, rfl⟩ := Int.eq_ofNat_of_zero_le (show 0 ≤ d by omega)
  have h6 : q ∣ N := by exact_mod_cast Int.dvd_of_emod_eq_zero h5
  rcases hp.2 q h6 with h7 | h7 <;> omega

theorem right_proof {N : Nat} {C : List M.Ent} (hp : ¬ M.Pr N) : rightP (N : Int) 0 C = false := by
  unfold rightP
  rw [if_pos rfl]
  cases h : (decide (0 < C.length) && M.proofP (N : Int) 1 [] C) with
  | false => rfl
  | true =>
    rw [Bool.and_eq_true, decide_eq_true_eq] at h
    rcases M.proof_prime C 1 [] (by simp) (by omega) (.inl rfl) h.2 with ⟨_, h2⟩ | h2
    · rw [h2] at h; simp at h
    · rw [Int.toNat_natCast] at h2; exact absurd h2 hp

set_option maxRecDepth 100000 in
set_option maxHeartbeats 1000000 in
theorem walk (n dv : Int) (v : Value) (L : List M.Ent) (w : World) (hd : (Lit.int .i64 dv).wf = true) (hr : Hid (ArgE w v L)) (hL : Hid (∀ E ∈ L, (Lit.int .i64 E.P).wf = true ∧ (Lit.int .i64 E.W).wf = true ∧ FOk E.F)) :
    Calls Try.prog 4 #[.int .i64 n, verV dv v] w fun e w' => e = .returned (.bool true) ∧ Below w.heap.size w w' := by
  have hnb := numv_bd n 2147483647 (by omega)
  obtain ⟨N, hN⟩ := Int.eq_ofNat_of_zero_le (show 0 ≤ numv n 2147483647 by omega)
  rw [hN] at hnb
  have HN := Lib.hid hN
  obtain ⟨a0, c0, hv0⟩ : ∃ a c, v = .slice a L.length c := by obtain ⟨a, c, h, _⟩ := hr.out; exact ⟨a, c, h⟩
  subst hv0
  obtain ⟨l0, hl0⟩ : ∃ l0, l0 = L.length := ⟨_, rfl⟩
  rw [← hl0] at hr ⊢
  have HV := Lib.hid (show verV dv (.slice a0 l0 c0) = .agg #[.int .i64 dv, .slice a0 l0 c0] from rfl)
  rw [HV.out]
  have hB0 := (Below.refl w.heap.size w).alloc (Nat.le_refl _) (.cells #[.int .i64 dv, .slice a0 l0 c0] 24)
  have hbv := heap_alloc_new w (.cells #[.int .i64 dv, .slice a0 l0 c0] 24)
  have hs0 : (w.alloc (.cells #[.int .i64 dv, .slice a0 l0 c0] 24)).heap.size = w.heap.size + 1 := World.size_alloc _ _
  have HB0 := Lib.hid (And.intro hB0 (And.intro hbv hs0))
  have h1 : 1 ≤ N := by omega
  have h2 : N ≤ 2147483647 := by omega
  have h1i : (1 : Int) ≤ N := by omega
  have h2i : (N : Int) ≤ 2147483647 := by omega
  clear hN hl0 hB0 hbv hs0 hnb
  go_enter Try.func4, Try.ntmps4
  go_wp2_with (go_at_call 12; refine (number_is n 2147483647 _ (by omega) (by omega)).mono ?_; rintro e w' ⟨rfl, rfl⟩)
  rw [HN.out]
  go_wp2_with (fail)
  refine (Decide_any N _ h1 h2).mono ?_
  rintro e w1 ⟨⟨d, vx, Zs, rfl, hR⟩, hB1⟩
  obtain ⟨a, c, hv⟩ := hR.out.rde.lenv
  subst hv
  have HRD := Lib.hid hR
  obtain ⟨C, hC⟩ : ∃ C, C = Zs.map EntE.E := ⟨_, rfl⟩
  rw [← hC]
  have hrde : RdE w1 (.slice a C.length c) C := by rw [hC]; exact hR.out.rde
  have hok : Hid (∀ E ∈ C, EntOk E) := by show ∀ E ∈ _, _; rw [hC]; exact hR.ok
  have HT : Hid (rightP (N : Int) (d : Int) C = true) := by show _ = _; rw [hC]; exact hR.right
  have HCL : Hid (C.length ≤ 1000000) := by show _ ≤ _; rw [hC, List.length_map]; have := hR.len; omega
  have hdn := hR.le
  have hdw : (Lit.int .i64 (d : Int)).wf = true := WalkArith.wf_i64 (by omega)
  have hiff := Lib.hid hR.iff
  have hV : verdict (d : Nat) (.slice a C.length c) 0 = .tuple #[.agg #[.int .i64 (d : Nat), .slice a C.length c], .int .i64 0] := rfl
  have hV2 : verV (d : Nat) (.slice a C.length c) = .agg #[.int .i64 (d : Nat), .slice a C.length c] := rfl
  rw [hV]
  have hwz : w.heap.size < w1.heap.size := by have := hB1.size; have := HB0.out.2.2; omega
  obtain ⟨wx, hwx⟩ : ∃ wx, wx = w1.alloc (.cells #[.int .i64 (d : Nat), .slice a C.length c] 24) := ⟨_, rfl⟩
  have hsx : wx.heap.size = w1.heap.size + 1 := by rw [hwx]; exact World.size_alloc _ _
  have hBx : Below w1.heap.size w1 wx := by rw [hwx]; exact (Below.refl _ _).alloc (Nat.le_refl _) _
  have hbx : wx.heap[w1.heap.size]? = some (.cells #[.int .i64 (d : Nat), .slice a C.length c] 24 (0, 0)) := by rw [hwx]; exact heap_alloc_new _ _
  have hbv : wx.heap[w.heap.size]? = some (.cells #[.int .i64 dv, .slice a0 l0 c0] 24 (0, 0)) := by
    rw [hBx.block _ hwz, hB1.block _ (by rw [HB0.out.2.2]; omega)]; exact HB0.out.2.1
  have HW : Hid (Below w.heap.size w wx) := (HB0.out.1.trans (hB1.mono (by rw [HB0.out.2.2]; omega))).trans (hBx.mono (by omega))
  have HX : Hid (∀ w', Below wx.heap.size wx w' → w'.cell? ⟨w1.heap.size, 0, none⟩ = some (.int .i64 (d : Nat)) ∧ w'.cell? ⟨w1.heap.size, 1, none⟩ = some (.slice a C.length c) ∧ w'.cell? ⟨w.heap.size, 0, none⟩ = some (.int .i64 dv) ∧ w'.cell? ⟨w.heap.size, 1, none⟩ = some (.slice a0 l0 c0)) := fun w' h => by
    have hb := (h.block w1.heap.size (by omega)).trans hbx
    have hb' := (h.block w.heap.size (by omega)).trans hbv
    exact ⟨cell_blk (o := 0) hb rfl, cell_blk (o := 1) hb rfl, cell_blk (o := 0) hb' rfl, cell_blk (o := 1) hb' rfl⟩
  have HArg : Hid (∀ w', Below wx.heap.size wx w' → ArgE w' (.slice a0 l0 c0) L) := fun w' h => by
    refine hr.out.below ?_
    exact HW.out.trans (h.mono HW.out.size)
  have hrx := hrde.below hBx
  have hCheck : Calls Try.prog 8 #[.int .i64 (N : Int), .agg #[.int .i64 (d : Nat), .slice a C.length c]] wx fun x w' => x = .returned (.int .i64 0) ∧ Below wx.heap.size wx w' := by
    rw [← hV2]; exact Check_is N d _ C true wx h1i h2i hdw hrx HCL.out hok HT
  obtain ⟨cl, hcl⟩ : ∃ cl, cl = C.length := ⟨_, rfl⟩
  rw [← hcl] at hwx HX hCheck ⊢
  have HCheck := Lib.hid hCheck
  have HWX := Lib.hid hwx
  have HSX := Lib.hid hsx
  obtain ⟨k0, k1, k2, k3⟩ := HX.out wx (Below.refl _ _)
  clear hR hC hrde hV hV2 hB1 hBx hbx hbv hsx hcl hrx hCheck hwx
  go_wp2_with (first
    | (go_at_call 8; (try rw [← HWX.out]); refine HCheck.out.mono ?_; rintro e w4 ⟨rfl, hB4⟩; obtain ⟨m0, m1, m2, m3⟩ := HX.out w4 hB4; have HA4 := Lib.hid (HArg.out w4 hB4); have HB4 := Lib.hid hB4; clear hB4))
  have hown := own_is dv (.slice a0 l0 c0) L w4 hd HA4
  rw [HV.out] at hown
  refine hown.mono ?_
  rintro e w5 ⟨⟨v', rfl, hrd⟩, hB5⟩
  change RdE w5 v' (cutL L) at hrd
  obtain ⟨C', hC'⟩ : ∃ C', C' = cutL L := ⟨_, rfl⟩
  have hcl' : Hid (C'.length ≤ 1000000) := by show _ ≤ _; rw [hC']; have := cutL_len L; omega
  have hok' : Hid (∀ E ∈ C', EntOk E) := by show ∀ E ∈ _, _; rw [hC']; exact cutL_ok hL.out
  rw [← hC'] at hrd
  obtain ⟨a1, c1, hv1⟩ := hrd.lenv
  subst hv1
  have HR5 : Hid (∀ w', Below w5.heap.size w5 w' → RdE w' (.slice a1 C'.length c1) C') := fun w' h => hrd.below h
  have hV1 : verV dv (.slice a1 C'.length c1) = .agg #[.int .i64 dv, .slice a1 C'.length c1] := rfl
  rw [hV1]
  obtain ⟨l1, hl1⟩ : ∃ l1, l1 = C'.length := ⟨_, rfl⟩
  rw [← hl1] at HR5 ⊢
  have hs45 : w4.heap.size ≤ w5.heap.size := hB5.size
  have hsx4 : wx.heap.size ≤ w4.heap.size := HB4.out.size
  have hx5 : Below wx.heap.size wx w5 := HB4.out.trans (hB5.mono hsx4)
  obtain ⟨wy, hwy⟩ : ∃ wy, wy = w5.alloc (.cells #[.int .i64 dv, .slice a1 l1 c1] 24) := ⟨_, rfl⟩
  have hsy : wy.heap.size = w5.heap.size + 1 := by rw [hwy]; exact World.size_alloc _ _
  have hBy : Below w5.heap.size w5 wy := by rw [hwy]; exact (Below.refl _ _).alloc (Nat.le_refl _) _
  have hby : wy.heap[w5.heap.size]? = some (.cells #[.int .i64 dv, .slice a1 l1 c1] 24 (0, 0)) := by rw [hwy]; exact heap_alloc_new _ _
  have hxy : Below wx.heap.size wx wy := hx5.trans (hBy.mono (by omega))
  obtain ⟨n0, n1, n2, n3⟩ := HX.out wy hxy
  have y0 := cell_blk (o := 0) hby rfl
  have y1 := cell_blk (o := 1) hby rfl
  have f0 : wy.frozen? ⟨w5.heap.size, 0, none⟩ = false := frozen_blk hby
  have f1 : wy.frozen? ⟨w5.heap.size, 1, none⟩ = false := frozen_blk hby
  have HY := Lib.hid (And.intro hBy (And.intro hby (And.intro hxy hsy)))
  have HWY := Lib.hid hwy
  clear hB5 hC' hrd hV1 hl1 hown hx5 hBy hby hxy hsy hwy m0 m1 m2 m3 k0 k1 k2 k3
  go_upto_region 6 with fail
  rw [← HWY.out]
  by_cases hd0 : d = 0
  · have hp := hiff.out.1 hd0
    have hz : ((d : Int) == 0) = true := by simp [hd0]
    clear hd0
    by_cases hdv : dv = 0
    · have hz2 : (dv == 0) = true := by simp [hdv]
      have HDV := Lib.hid hdv
      clear hdv
      have HCk : Hid (∀ W, Calls Try.prog 8 #[.int .i64 (N : Int), .agg #[.int .i64 1, .slice none 0 0]] W fun x w' => x = .returned (.int .i64 10) ∧ Below W.heap.size W w') := fun W => by
        have := Check_is N 1 (.slice none 0 0) [] false W h1i h2i (WalkArith.wf_i64 (by omega)) ⟨none, 0, rfl, by simp, .inl rfl⟩ (by simp) (fun E h => by cases h) (right_div hp (by omega))
        simpa [verV] using this
      go_wp2_with (first
        | (go_at_call 8; refine (HCk.out _).mono ?_; rintro e w7 ⟨rfl, hB7⟩; have HB7 := Lib.hid hB7; clear hB7)
        | (go_at_call 9; refine (awake_is _).mono ?_; rintro e w8 ⟨rfl, hB8⟩; have HB8 := Lib.hid hB8; clear hB8))
      go_ret
      have hwy : Below w.heap.size w wy := HW.out.trans (HY.out.2.2.1.mono HW.out.size)
      have hle : w.heap.size ≤ w5.heap.size := by have := HW.out.size; omega
      have hW := (hwy.setCell (p := ⟨w5.heap.size, 1, none⟩) hle (.slice none 0 0)).setCell (p := ⟨w5.heap.size, 0, none⟩) hle (.int .i64 1)
      exact ⟨rfl, hW.trans ((HB7.out.trans (HB8.out.mono HB7.out.size)).mono hW.size)⟩
    · have hz2 : (dv == 0) = false := by simpa using hdv
      have HDV := Lib.hid hdv
      clear hdv
      have HCk : Hid (∀ W, Calls Try.prog 8 #[.int .i64 (N : Int), .agg #[.int .i64 dv, .slice none 0 0]] W fun x w' => x = .returned (.int .i64 10) ∧ Below W.heap.size W w') := fun W => by
        have := Check_is N dv (.slice none 0 0) [] false W h1i h2i hd ⟨none, 0, rfl, by simp, .inl rfl⟩ (by simp) (fun E h => by cases h) (right_div hp HDV.out)
        simpa [verV] using this
      go_wp2_with (first
        | (go_at_call 8; refine (HCk.out _).mono ?_; rintro e w7 ⟨rfl, hB7⟩; have HB7 := Lib.hid hB7; clear hB7)
        | (go_at_call 9; refine (awake_is _).mono ?_; rintro e w8 ⟨rfl, hB8⟩; have HB8 := Lib.hid hB8; clear hB8))
      go_ret
      have hwy : Below w.heap.size w wy := HW.out.trans (HY.out.2.2.1.mono HW.out.size)
      have hle : w.heap.size ≤ w5.heap.size := by have := HW.out.size; omega
      have hW := hwy.setCell (p := ⟨w5.heap.size, 1, none⟩) hle (.slice none 0 0)
      exact ⟨rfl, hW.trans ((HB7.out.trans (HB8.out.mono HB7.out.size)).mono hW.size)⟩
  · have hp := fun h => hd0 (hiff.out.2 h)
    have hz : ((d : Int) == 0) = false := by simp [hd0]
    clear hd0
    have HCk : Hid (∀ W, Below w5.heap.size w5 W → Calls Try.prog 8 #[.int .i64 (N : Int), .agg #[.int .i64 0, .slice a1 l1 c1]] W fun x w' => x = .returned (.int .i64 10) ∧ Below W.heap.size W w') := fun W hW => by
      have := Check_is N 0 (.slice a1 l1 c1) C' false W h1i h2i (WalkArith.wf_i64 (by omega)) (HR5.out W hW) hcl'.out hok' (right_proof hp)
      simpa [verV] using this
    have HBy := Lib.hid (HY.out.1.setCell (p := ⟨w5.heap.size, 0, none⟩) (Nat.le_refl _) (.int .i64 0))
    go_wp2_with (first
      | (go_at_call 8; refine (HCk.out _ HBy.out).mono ?_; rintro e w7 ⟨rfl, hB7⟩; have HB7 := Lib.hid hB7; clear hB7)
      | (go_at_call 9; refine (awake_is _).mono ?_; rintro e w8 ⟨rfl, hB8⟩; have HB8 := Lib.hid hB8; clear hB8))
    go_ret
    have hwy : Below w.heap.size w wy := HW.out.trans (HY.out.2.2.1.mono HW.out.size)
    have hle : w.heap.size ≤ w5.heap.size := by have := HW.out.size; omega
    have hW := hwy.setCell (p := ⟨w5.heap.size, 0, none⟩) hle (.int .i64 0)
    exact ⟨rfl, hW.trans ((HB7.out.trans (HB8.out.mono HB7.out.size)).mono hW.size)⟩

set_option maxRecDepth 100000 in
theorem lifted (os : Os) (started : os.Started) (H : Type) (enc : TypeId × Value → H) :
    ReturnsInHanded {} Try.checked os 4 .any (Rows.primeOnceSpec.pre6 enc Try.prog Try.f4 Rows.primeOnceRow.domain false) (Rows.primeOnceSpec.post enc Try.prog Try.f4 false true false false) := by
  refine returnsInHanded_of_change (C := Try.checked) own started (by kernel_rfl) Try.func4
    (ChangeSpec.witness6 (enc := enc) (C := Try.checked) false ⟨#[], #[.int .i64 0, .agg #[.int .i64 0, .slice none 0 0]], []⟩ 8 (by kernel_rfl) (by kernel_rfl) (by kernel_rfl) (by kernel_rfl)) ?_
  intro W base args ds gs before hval0 hW hcnd _
  have hval : ∀ (j : Nat) t v, Try.f4.params[j]? = some t → args[j]? = some v → Value.okWide Try.prog W .any base t v := hval0
  have hW' := hW
  obtain ⟨p, q, hA0, hV, rfl, hfz, hnd⟩ := hW
  have hA : DataW.TrodAll enc Try.prog W 0 (fun _ => true) true Try.f4.params.toList args.toList ds p := hA0
  rw [Try.params4] at hA hval
  obtain ⟨v0, vs0, d0, ds0, p0, q0, hargs, rfl, rfl, h0, r0⟩ := trodAll_cons hA
  obtain ⟨v1, vs1, d1, ds1, p1, q1, rfl, rfl, rfl, h1, r1⟩ := trodAll_cons r0
  obtain ⟨rfl, rfl, rfl⟩ := trodAll_nil r1
  obtain rfl : args = #[v0, v1] := by cases args; simp_all
  obtain ⟨rfl, rfl⟩ := trodVars_none hV
  have hlt := hW'.lt
  obtain ⟨a0, rfl, rfl, rfl, w0⟩ := open_int Try.underlying3 (hval 0 3 v0 rfl rfl) h0
  obtain ⟨z1, y1, L1, rfl, w1, hA1, hW1⟩ := argV_of (hval 1 24 v1 rfl rfl) h1
  clear hA0 hval0
  simp only [List.append_nil] at hW'
  refine (walk a0 z1 y1 L1 W w1 hA1 hW1).mono fun e W' ⟨he, hg⟩ => ?_
  subst he
  exact ⟨_, rfl, _, _, _, [], [] ++ (p1 ++ ([])), [], hW', trodAll_cons_mk (shut_bool Try.underlying4 _) trodAll_mk0, trodAll_cons_mk (shut_int Try.underlying3 w0) (trodAll_cons_mk (Below.trod (by kernel_rfl) (by kernel_rfl) (by decide +kernel) h1 hg (fun x hx => hlt x (by simp [hx]))) trodAll_mk0), rfl, hg.frame _, fun h => by cases h⟩

theorem over : Rows.primeOnceRow.holds Try.pinned (OpenSpec.ofChange Rows.primeOnceSpec) :=
  OpenClaim.holds_of_wide 4 Try.f4 rfl rfl rfl rfl rfl rfl rfl ⟨rfl, rfl, rfl, rfl, rfl⟩ rfl rfl rfl rfl rfl (by kernel_rfl) Try.func4 (by kernel_rfl)
    (of_decide_eq_true (by kernel_rfl)) (by unfold Func.isWrapper; first | (rw [if_pos (by decide +kernel)]; kernel_rfl) | (rw [if_neg (by decide +kernel)]; exact ⟨rfl, rfl⟩))
    (fun os started H enc _ => lifted os started H enc)

theorem proved : Rows.PrimeOnceSaid := over

end Go.Proofs.Ytldfbadcigdbkaa.primeOnce
