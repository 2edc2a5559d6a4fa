/- Check returns OK exactly for the correct verdicts of a number, ErrAnswer for any other verdict, and ErrArg if it is no number. No condition. -/
import Derived.Test.YtdidicfmchaloaaWalkRefRight
import Derived.Test.YtdidicfmchaloaaWalkRight
import Derived.Test.YtdidicfmchaloaaWalkAwake
import Derived.Test.YtdidicfmchaloaaArgV
import Derived.ProofKit
import Derived.OpenShut
namespace Go.Proofs.Ytdidicfmchaloaa.primeChecks
open Go.ChangeShapes Go.WideShapes Go.ChangeAt Go.RowKit

theorem own : ownKnob Try.prog.godebug = none := by kernel_rfl

def cutL (L : List M.Ent) : List M.Ent := (L.take 60).map fun E => ⟨E.P, E.W, E.F.take 20⟩

theorem cutL_len (L : List M.Ent) : (cutL L).length ≤ 60 := by unfold cutL; rw [List.length_map, List.length_take]; omega

theorem cutL_ok {L : List M.Ent} (h : ∀ E ∈ L, (Lit.int .i64 E.P).wf = true ∧ (Lit.int .i64 E.W).wf = true ∧ FOk E.F) : ∀ E ∈ cutL L, EntOk E := by
  intro E hE
  unfold cutL at hE
  obtain ⟨E0, h0, rfl⟩ := List.mem_map.1 hE
  obtain ⟨h1, h2, h3⟩ := h E0 (List.mem_of_mem_take h0)
  exact ⟨h1, h2, fun q hq => h3 q (List.mem_of_mem_take hq), by simp; omega⟩

set_option maxRecDepth 100000 in
set_option maxHeartbeats 1000000 in
theorem walk (n d : Int) (v : Value) (L : List M.Ent) (w : World) (hd : (Lit.int .i64 d).wf = true) (hr : Hid (ArgE w v L)) (hL : Hid (∀ E ∈ L, (Lit.int .i64 E.P).wf = true ∧ (Lit.int .i64 E.W).wf = true ∧ FOk E.F)) :
    Calls Try.prog 3 #[.int .i64 n, verV d v] w fun e w' => e = .returned (.bool true) ∧ Below w.heap.size w w' := by
  have HV := Lib.hid (show verV d v = .agg #[.int .i64 d, v] from rfl)
  obtain ⟨a0, c0, hv0⟩ : ∃ a c, v = .slice a L.length c := by obtain ⟨a, c, h, _⟩ := hr.out; exact ⟨a, c, h⟩
  subst hv0
  rw [HV.out]
  have hr1 := hr.out
  have hB0 := (Below.refl w.heap.size w).alloc (Nat.le_refl _) (.cells #[.int .i64 d, .slice a0 L.length c0] 24)
  have hr1 : Hid (ArgE (w.alloc (.cells #[.int .i64 d, .slice a0 L.length c0] 24)) (.slice a0 L.length c0) L) := hr.out.below hB0
  have HB0 := Lib.hid hB0
  have HO := Lib.hid (own_is d _ L _ hd hr1)
  obtain ⟨l0, hl0⟩ : ∃ l0, l0 = L.length := ⟨_, rfl⟩
  rw [← hl0] at HO HV HB0 ⊢
  clear hl0 hr hB0 hr1
  go_enter Try.func3, Try.ntmps3
  go_wp2_with (fail)
  have hO := HO.out
  rw [HV.out] at hO
  refine hO.mono ?_
  rintro e w2 ⟨⟨v', rfl, hrd⟩, hB2⟩
  have hcl := cutL_len L
  have hok := Lib.hid (cutL_ok hL.out)
  change RdE w2 v' (cutL L) at hrd
  obtain ⟨C, hC⟩ : ∃ C, C = cutL L := ⟨_, rfl⟩
  rw [← hC] at hrd hcl hok
  clear hC hO HO
  obtain ⟨a1, c1, hv1⟩ := hrd.lenv
  subst hv1
  obtain ⟨t, ht⟩ : ∃ t, rightP n d C = t := ⟨_, rfl⟩
  have HT := Lib.hid ht
  have hrd3 := hrd.below ((Below.refl w2.heap.size w2).alloc (Nat.le_refl _) (.cells #[.int .i64 d, .slice a1 C.length c1] 24))
  have HR := Lib.hid hrd3
  have hV1 : verV d (.slice a1 C.length c1) = .agg #[.int .i64 d, .slice a1 C.length c1] := rfl
  have hK : ∀ w', Below (w2.heap.size + 1) (w2.alloc (.cells #[.int .i64 d, .slice a1 C.length c1] 24)) w' → w'.heap[w2.heap.size]? = some (.cells #[.int .i64 d, .slice a1 C.length c1] 24 (0, 0)) := fun w' h => (h.block _ (by omega)).trans (heap_alloc_new _ _)
  have HK := Lib.hid hK
  have HB2 := Lib.hid (hB2)
  have hB3 : Below w.heap.size w (w2.alloc (.cells #[.int .i64 d, .slice a1 C.length c1] 24)) := (HB0.out.trans (hB2.mono HB0.out.size)).alloc (Nat.le_trans HB0.out.size hB2.size) _
  have HB3 := Lib.hid hB3
  have hs3 : (w2.alloc (.cells #[.int .i64 d, .slice a1 C.length c1] 24)).heap.size = w2.heap.size + 1 := World.size_alloc _ _
  obtain ⟨m1, hm1⟩ : ∃ m1, m1 = C.length := ⟨_, rfl⟩
  rw [← hm1] at HR hV1 HK HB3 hs3 hcl ⊢
  have HV1 := Lib.hid hV1
  have HS3 := Lib.hid hs3
  have HCL := Lib.hid (show C.length ≤ 1000000 by omega)
  clear hrd hrd3 hV1 hK hB2 hB3 hs3 ht hm1 hcl HB0 HB2
  rw [HV1.out]
  by_cases hn : n < 1 ∨ 2147483647 < n
  · go_wp2_with (first
      | (go_at_call 5; rw [← HV1.out]; refine (Check_no n d _ _ hn).mono ?_; rintro e w4 ⟨rfl, hB4⟩; have HB4 := Lib.hid hB4; clear hB4)
      | (go_at_call 6; refine (Number_no _ _ hn).mono ?_; rintro e w' ⟨rfl, rfl⟩)
      | (go_at_call 7; refine (awake_is _).mono ?_; rintro e w5 ⟨rfl, hB5⟩; have HB5 := Lib.hid hB5; clear hB5))
    go_ret
    exact ⟨rfl, HB3.out.trans ((HB4.out.trans (HB5.out.mono HB4.out.size)).mono HB3.out.size)⟩
  · have h1 : 1 ≤ n := by omega
    have h2 : n ≤ 2147483647 := by omega
    cases t with
    | true =>
      go_wp2_with (first
        | (go_at_call 5; rw [← HV1.out]; refine (Check_is n d _ C true _ h1 h2 hd HR HCL.out hok HT).mono ?_; rintro e w4 ⟨rfl, hB4⟩; have k0 := cell_blk (o := 0) (HK.out _ (hB4.mono (by rw [HS3.out]; omega))) rfl; have k1 := cell_blk (o := 1) (HK.out _ (hB4.mono (by rw [HS3.out]; omega))) rfl; have HR4 := Lib.hid (HR.out.below hB4); have HB4 := Lib.hid hB4; clear hB4)
        | (go_at_call 6; refine (Number_yes _ _ h1 h2).mono ?_; rintro e w' ⟨rfl, rfl⟩)
        | (go_at_call 8; rw [← HV1.out]; refine (Right_is n d _ C true _ h1 h2 hd HR4 HCL.out hok HT).mono ?_; rintro e w5 ⟨rfl, hB5⟩; have HB5 := Lib.hid hB5; clear hB5)
        | (go_at_call 7; refine (awake_is _).mono ?_; rintro e w6 ⟨rfl, hB6⟩; have HB6 := Lib.hid hB6; clear hB6))
      go_ret
      exact ⟨rfl, HB3.out.trans ((HB4.out.trans ((HB5.out.trans (HB6.out.mono HB5.out.size)).mono HB4.out.size)).mono HB3.out.size)⟩
    | false =>
      go_wp2_with (first
        | (go_at_call 5; rw [← HV1.out]; refine (Check_is n d _ C false _ h1 h2 hd HR HCL.out hok HT).mono ?_; rintro e w4 ⟨rfl, hB4⟩; have k0 := cell_blk (o := 0) (HK.out _ (hB4.mono (by rw [HS3.out]; omega))) rfl; have k1 := cell_blk (o := 1) (HK.out _ (hB4.mono (by rw [HS3.out]; omega))) rfl; have HR4 := Lib.hid (HR.out.below hB4); have HB4 := Lib.hid hB4; clear hB4)
        | (go_at_call 6; refine (Number_yes _ _ h1 h2).mono ?_; rintro e w' ⟨rfl, rfl⟩)
        | (go_at_call 8; rw [← HV1.out]; refine (Right_is n d _ C false _ h1 h2 hd HR4 HCL.out hok HT).mono ?_; rintro e w5 ⟨rfl, hB5⟩; have HB5 := Lib.hid hB5; clear hB5)
        | (go_at_call 7; refine (awake_is _).mono ?_; rintro e w6 ⟨rfl, hB6⟩; have HB6 := Lib.hid hB6; clear hB6))
      go_ret
      exact ⟨rfl, HB3.out.trans ((HB4.out.trans ((HB5.out.trans (HB6.out.mono HB5.out.size)).mono HB4.out.size)).mono HB3.out.size)⟩

set_option maxRecDepth 100000 in
theorem lifted (os : Os) (started : os.Started) (H : Type) (enc : TypeId × Value → H) :
    ReturnsInHanded {} Try.checked os 3 .any (Rows.primeChecksSpec.pre6 enc Try.prog Try.f3 Rows.primeChecksRow.domain false) (Rows.primeChecksSpec.post enc Try.prog Try.f3 false true false false) := by
  refine returnsInHanded_of_change (C := Try.checked) own started (by kernel_rfl) Try.func3
    (ChangeSpec.witness6 (enc := enc) (C := Try.checked) false ⟨#[], #[.int .i64 0, .agg #[.int .i64 0, .slice none 0 0]], []⟩ 8 (by kernel_rfl) (by kernel_rfl) (by kernel_rfl) (by kernel_rfl)) ?_
  intro W base args ds gs before hval0 hW hcnd _
  have hval : ∀ (j : Nat) t v, Try.f3.params[j]? = some t → args[j]? = some v → Value.okWide Try.prog W .any base t v := hval0
  have hW' := hW
  obtain ⟨p, q, hA0, hV, rfl, hfz, hnd⟩ := hW
  have hA : DataW.TrodAll enc Try.prog W 0 (fun _ => true) true Try.f3.params.toList args.toList ds p := hA0
  rw [Try.params3] at hA hval
  obtain ⟨v0, vs0, d0, ds0, p0, q0, hargs, rfl, rfl, h0, r0⟩ := trodAll_cons hA
  obtain ⟨v1, vs1, d1, ds1, p1, q1, rfl, rfl, rfl, h1, r1⟩ := trodAll_cons r0
  obtain ⟨rfl, rfl, rfl⟩ := trodAll_nil r1
  obtain rfl : args = #[v0, v1] := by cases args; simp_all
  obtain ⟨rfl, rfl⟩ := trodVars_none hV
  have hlt := hW'.lt
  obtain ⟨a0, rfl, rfl, rfl, w0⟩ := open_int Try.underlying3 (hval 0 3 v0 rfl rfl) h0
  obtain ⟨z1, y1, L1, rfl, w1, hA1, hW1⟩ := argV_of (hval 1 24 v1 rfl rfl) h1
  clear hA0 hval0
  simp only [List.append_nil] at hW'
  refine (walk a0 z1 y1 L1 W w1 hA1 hW1).mono fun e W' ⟨he, hg⟩ => ?_
  subst he
  exact ⟨_, rfl, _, _, _, [], [] ++ (p1 ++ ([])), [], hW', trodAll_cons_mk (shut_bool Try.underlying4 _) trodAll_mk0, trodAll_cons_mk (shut_int Try.underlying3 w0) (trodAll_cons_mk (Below.trod (by kernel_rfl) (by kernel_rfl) (by decide +kernel) h1 hg (fun x hx => hlt x (by simp [hx]))) trodAll_mk0), rfl, hg.frame _, fun h => by cases h⟩

theorem over : Rows.primeChecksRow.holds Try.pinned (OpenSpec.ofChange Rows.primeChecksSpec) :=
  OpenClaim.holds_of_wide 3 Try.f3 rfl rfl rfl rfl rfl rfl rfl ⟨rfl, rfl, rfl, rfl, rfl⟩ rfl rfl rfl rfl rfl (by kernel_rfl) Try.func3 (by kernel_rfl)
    (of_decide_eq_true (by kernel_rfl)) (by unfold Func.isWrapper; first | (rw [if_pos (by decide +kernel)]; kernel_rfl) | (rw [if_neg (by decide +kernel)]; exact ⟨rfl, rfl⟩))
    (fun os started H enc _ => lifted os started H enc)

theorem proved : Rows.PrimeChecksSaid := over

end Go.Proofs.Ytdidicfmchaloaa.primeChecks
