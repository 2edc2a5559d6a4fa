/- Walks and plain mathematics: PwOwnAll, Rts. -/
import Derived.Test.YtgnpohapmijfiaaG15
import Derived.Test.YtgnpohapmijfiaaG14
namespace Go.Proofs.Ytgnpohapmijfiaa
open Go.RowKit

set_option maxRecDepth 100000 in
set_option maxHeartbeats 1000000 in
theorem Factor_zero (p : Nat) (F : List Nat) (v : Value) (w : World) (hP : Hid (M.Pr p)) (hp2 : p ≤ 1021) (h1 : Hid (Rd w v 1 F.length (nats F))) (hF : Hid (Q.Pol p F)) (hl1 : F.length ≤ 33) (h0 : Hid (F.length = 0)) :
    Calls Try.prog 42 #[.int .i64 p, v] w fun x w' => x = .returned (.tuple #[.int .i64 0, .slice none 0 0, .int .i64 20]) ∧ Below w.heap.size w w' := by
  have hM := Lib.hid (rdM1 (T := 22) h1.out.zs)
  have hB : Hid (Below w.heap.size w (w.alloc (.cells #[v] 22))) := (Below.refl _ _).alloc (Nat.le_refl _) _
  have hls : Hid (∀ Z ∈ [up F], Z.length ≤ 1000000) := by intro Z hZ; simp at hZ; subst hZ; rw [up_length]; omega
  have ht : Hid (Args1 p (up F)) := args1_of hP.out hp2 hF.out hl1
  obtain ⟨a1, cap1, rfl⟩ := h1.out.shape
  go_enter Try.func42, Try.ntmps42
  go_wp2_with (fail)
  refine (arePolys_yes p _ [up F] _ hM (by simp) hls ht).mono ?_
  rintro e w1 ⟨rfl, hB1⟩
  have HB := Lib.hid (hB.out.trans (hB1.mono (by simp)))
  clear hB1 hM h1
  have hz : ((F.length : Int) == 0) = true := by simp [h0.out]
  go_wp2_with (fail)
  go_ret3
  exact ⟨rfl, HB.out⟩

/-- What Factor returns, in any case. -/
def RetFO (w : World) (x : Ending) (w' : World) : Prop := (∃ (c e : Int) (v : Value) (L : List FacE), x = .returned (.tuple #[.int .i64 c, v, .int .i64 e]) ∧ FcS w w' v L ∧ L.length ≤ 33) ∧ Below w.heap.size w w'
theorem Factor_own (p : Nat) (F : List Nat) (v : Value) (w : World) (hP : Hid (M.Pr p)) (hp2 : p ≤ 1021) (h1 : Hid (Rd w v 1 F.length (nats F))) (hF : Hid (Q.Pol p F)) (hl1 : F.length ≤ 33) :
    Calls Try.prog 42 #[.int .i64 p, v] w (RetFO w) := by
  by_cases h0 : F.length = 0
  · exact (Factor_zero p F v w hP hp2 h1 hF hl1 h0).mono fun x w' ⟨h, hB⟩ => ⟨⟨0, 20, _, [], h, FcS.nil hB, by simp⟩, hB⟩
  · refine (Factor_ok p F v w hP hp2 h1 hF hl1 h0).mono fun x w' h => ?_
    obtain ⟨v', L, fin, hx, hf, hfin, hperm, hs⟩ := h
    obtain ⟨l, hl⟩ := Q.facL_of hP.out hF.out h0 (by omega) hfin hperm hs
    have := hl.len hP.out hF.out h0
    rw [strip, List.length_map] at this
    exact ⟨⟨_, 0, v', L, hx, hf, by omega⟩, hf.below⟩

/-- What Div returns, in any case. -/
def RetDO (w : World) (x : Ending) (w' : World) : Prop := (∃ (e : Int) (vq vr : Value) (q r : List Nat), x = .returned (.tuple #[vq, vr, .int .i64 e]) ∧ NewL w w' vq q ∧ NewL w w' vr r) ∧ Below w.heap.size w w'
theorem Div_own (p : Nat) (F G : List Nat) (v1 v2 : Value) (w : World) (hP : Hid (M.Pr p)) (hp2 : p ≤ 1021) (h1 : Hid (Rd w v1 1 F.length (nats F))) (h2 : Hid (Rd w v2 1 G.length (nats G))) (hF : Hid (Q.Pol p F)) (hG : Hid (Q.Pol p G)) (hl1 : F.length ≤ 33) (hl2 : G.length ≤ 33) :
    Calls Try.prog 28 #[.int .i64 p, v1, v2] w (RetDO w) := by
  by_cases h0 : G.length = 0
  · exact (Div_zero p F G v1 v2 w hP hp2 h1 h2 hF hG hl1 hl2 h0).mono fun x w' ⟨h, hB⟩ => ⟨⟨20, _, _, [], [], h, NewL.nil _ _, NewL.nil _ _⟩, hB⟩
  · exact (Div_ok p F G v1 v2 w hP hp2 h1 h2 hF hG hl1 hl2 h0).mono fun x w' ⟨⟨vq, vr, h, hq, hr⟩, hB⟩ => ⟨⟨0, vq, vr, _, _, h, hq, hr⟩, hB⟩
/-- What Gcd returns. -/
def RetGO (w : World) (x : Ending) (w' : World) : Prop := (∃ (vd va vb : Value) (d a b : List Nat), x = .returned (.tuple #[vd, va, vb, .int .i64 0]) ∧ NewL w w' vd d ∧ NewL w w' va a ∧ NewL w w' vb b) ∧ Below w.heap.size w w'
theorem Gcd_own (p : Nat) (F G : List Nat) (v1 v2 : Value) (w : World) (hP : Hid (M.Pr p)) (hp2 : p ≤ 1021) (h1 : Hid (Rd w v1 1 F.length (nats F))) (h2 : Hid (Rd w v2 1 G.length (nats G))) (hF : Hid (Q.Pol p F)) (hG : Hid (Q.Pol p G)) (hl1 : F.length ≤ 33) (hl2 : G.length ≤ 33) :
    Calls Try.prog 30 #[.int .i64 p, v1, v2] w (RetGO w) := by
  obtain ⟨RR, AA, hxl, hxi⟩ := Q.xgcd_is hP.out hF.out hG.out
  exact (Gcd_ok p F G RR AA v1 v2 w hP hp2 h1 h2 hF hG hl1 hl2 hxl hxi).mono fun x w' ⟨⟨vd, va, vb, h, hd, ha, hb⟩, hB⟩ => ⟨⟨vd, va, vb, _, _, _, h, hd, ha, hb⟩, hB⟩

/-- A row that may be overwritten: in a block from base on, below top. -/
def RowW (base top : Nat) (w : World) (u : Value) : Prop := ∃ (a : Option Addr) (n cp : Nat), u = .slice a n cp ∧ n ≤ 9223372036854775807 ∧ (n = 0 ∨ ∃ g, a = some ⟨g, 0, none⟩ ∧ base ≤ g ∧ g < top ∧ (∀ i, i < n → ∃ c, w.cell? ⟨g, i, none⟩ = some c) ∧ ∀ i, w.frozen? ⟨g, i, none⟩ = false)
theorem RowW.of {w : World} {base : Nat} {u : Value} {F : List Nat} (h : w.ownsRow base 3 1 u F.length (nats F)) : RowW base w.heap.size w u := by
  obtain ⟨a, cp, h1, h2, h3, _⟩ := own_form h
  subst h1
  refine ⟨a, F.length, cp, rfl, by omega, ?_⟩
  by_cases h0 : F.length = 0
  · exact .inl h0
  · obtain ⟨g, e, g1, g2, g3, g4⟩ := own_cells (L := F) h (by omega)
    exact .inr ⟨g, e, g1, g2, fun i hi => ⟨_, g3 i hi⟩, g4⟩
theorem RowW.keep {base top : Nat} {w w' : World} {u : Value} (h : RowW base top w u) (ht : top ≤ w.heap.size) (hB : Below w.heap.size w w') : RowW base top w' u := by
  obtain ⟨a, n, cp, h1, h2, h3⟩ := h
  refine ⟨a, n, cp, h1, h2, h3.imp id ?_⟩
  rintro ⟨g, e, g1, g2, g3, g4⟩
  refine ⟨g, e, g1, g2, fun i hi => ?_, fun i => ?_⟩
  · rw [hB.cell (p := ⟨g, i, none⟩) (show g < w.heap.size by omega)]; exact g3 i hi
  · rw [hB.frozen (p := ⟨g, i, none⟩) (show g < w.heap.size by omega)]; exact g4 i
theorem RowW.set {base top g : Nat} {w : World} {u : Value} (h : RowW base top w u) (k : Nat) (c : Value) : RowW base top (w.setCell ⟨g, k, none⟩ c) u := by
  obtain ⟨a, n, cp, h1, h2, h3⟩ := h
  refine ⟨a, n, cp, h1, h2, h3.imp id ?_⟩
  rintro ⟨g', e, g1, g2, g3, g4⟩
  refine ⟨g', e, g1, g2, fun i hi => ?_, fun i => by rw [World.frozen?_setCell]; exact g4 i⟩
  obtain ⟨y, hy⟩ := g3 i hi
  by_cases hp : (⟨g, k, none⟩ : Addr) = ⟨g', i, none⟩
  · rw [hp]; exact ⟨c, World.cell?_setCell_same w _ _ hy⟩
  · rw [World.cell?_setCell_other w _ _ _ hp]; exact ⟨y, hy⟩

/-- The list of the results while they are overwritten. -/
structure WAll (wb : World) (top ga : Nat) (vs : List Value) (w : World) : Prop where
  below : Below wb.heap.size wb w
  hdr : ∀ (i : Nat) (u : Value), vs[i]? = some u → w.cell? ⟨ga, i, none⟩ = some u
  rows : ∀ u ∈ vs, RowW wb.heap.size top w u
theorem WAll.set {wb : World} {top ga g : Nat} {vs : List Value} {w : World} (h : WAll wb top ga vs w) (hg : wb.heap.size ≤ g) (hga : g < top) (ht : top ≤ ga) (k : Nat) (c : Value) : WAll wb top ga vs (w.setCell ⟨g, k, none⟩ c) := by
  refine ⟨h.below.setCell hg _, fun i u hu => ?_, fun u hu => (h.rows u hu).set k c⟩
  rw [World.cell?_setCell_other w _ _ _ (by intro e; injection e with e; omega)]
  exact h.hdr i u hu

end Go.Proofs.Ytgnpohapmijfiaa

namespace Go.Proofs.Ytgnpohapmijfiaa
namespace Q
variable {p : Nat}

def rootF (p : Nat) (rs : List Nat) : List Nat := rs.foldl (fun f x => prodP' p f (lin p x)) [1]
theorem rootF_push (rs : List Nat) (x : Nat) : rootF p (rs ++ [x]) = prodP' p (rootF p rs) (lin p x) := by unfold rootF; rw [List.foldl_append]; rfl

theorem lin_mirr (hP : M.Pr p) (x : Nat) : MIrr p (lin p x) := by
  have h2 := hP.1
  refine ⟨⟨pol_lin h2 x, by simp [lin], fun d hd hdv => ?_⟩, by simp [lin], by simp [lin]⟩
  have h := hdv.len hP hd (pol_lin h2 x) (by simp [lin])
  simp [lin] at h ⊢
  have h0 : d.length ≠ 0 := fun e => h.2 (List.eq_nil_of_length_eq_zero e)
  omega
theorem lin_inj {x y : Nat} (hx : x < p) (hy : y < p) (h : lin p x = lin p y) : x = y := by
  unfold lin at h
  injection h with h
  by_cases h1 : x = 0
  · subst h1
    by_cases h2 : y = 0
    · omega
    · rw [Nat.sub_zero, Nat.mod_self, Nat.mod_eq_of_lt (by omega)] at h; omega
  · by_cases h2 : y = 0
    · subst h2; rw [Nat.sub_zero, Nat.mod_self, Nat.mod_eq_of_lt (by omega)] at h; omega
    · rw [Nat.mod_eq_of_lt (by omega), Nat.mod_eq_of_lt (by omega)] at h; omega

theorem foldl_lin (hP : M.Pr p) : ∀ (rs : List Nat) {f : List Nat}, Pol p f → Mon f → Pol p (rs.foldl (fun f x => prodP' p f (lin p x)) f) ∧ Mon (rs.foldl (fun f x => prodP' p f (lin p x)) f) ∧ (rs.foldl (fun f x => prodP' p f (lin p x)) f).length = f.length + rs.length ∧ ev p (rs.foldl (fun f x => prodP' p f (lin p x)) f) = ev p f * ev p (prodL p (rs.map (lin p)))
  | [], f, hf, mf => ⟨hf, mf, rfl, by rw [List.map_nil, show ev p (prodL p []) = 1 from ev_one, Px.mul_one]; rfl⟩
  | x :: rs, f, hf, mf => by
    have hl := lin_mirr hP x
    have hm := mon_prod hP hf hl.irr.pol mf hl.mon
    obtain ⟨i1, i2, i3, i4⟩ := foldl_lin hP rs (pol_prod hP hf hl.irr.pol) hm
    have h1 := mf.1
    refine ⟨i1, i2, ?_, ?_⟩
    · show (rs.foldl (fun f x => prodP' p f (lin p x)) (prodP' p f (lin p x))).length = _
      rw [i3, prod_length mf.1 (by simp [lin])]; simp [lin]; omega
    · show ev p (rs.foldl (fun f x => prodP' p f (lin p x)) (prodP' p f (lin p x))) = _
      rw [i4, ev_prod, List.map_cons, ev_prodL_cons]; ac_rfl

structure RootsIs (p : Nat) (rs : List Nat) (f : List Nat) : Prop where
  pol : Pol p f
  mon : Mon f
  len : f.length = rs.length + 1
  val : ev p f = ev p (prodL p (rs.map (lin p)))
theorem rootF_is (hP : M.Pr p) (rs : List Nat) : RootsIs p rs (rootF p rs) := by
  obtain ⟨h1, h2, h3, h4⟩ := foldl_lin hP rs (pol_one hP) (show Mon [1] from ⟨by simp, rfl⟩)
  exact ⟨h1, h2, by unfold rootF; rw [h3]; simp; omega, by unfold rootF; rw [h4, ev_one, Px.one_mul]⟩

theorem RootsIs.zero (hP : M.Pr p) {rs f : List Nat} (h : RootsIs p rs f) {x : Nat} (hx : x ∈ rs) (hp : x < p) : valP p f x = 0 := by
  have hl : ∀ g ∈ rs.map (lin p), MIrr p g := fun g hg => by obtain ⟨y, _, rfl⟩ := List.mem_map.1 hg; exact lin_mirr hP y
  have h1 : Dv p (lin p x) f := by
    rw [← dx_iff, h.val, dx_iff]
    exact dv_prodL_mem hP (fun g hg => (hl g hg).irr.pol) (List.mem_map.2 ⟨x, hx, rfl⟩)
  have h2 := (rem_nil_iff hP h.pol (pol_lin hP.1 x) (by simp [lin])).2 h1
  rw [div_lin hP (by omega) h.pol] at h2
  refine trim1_inj (v := valP p f x) (u := 0) ?_
  rw [h2]; rfl

theorem RootsIs.fac (hP : M.Pr p) {rs f : List Nat} (h : RootsIs p rs f) (hn : rs.Nodup) (hlt : ∀ x ∈ rs, x < p) {L : List (List Nat × Nat)} {l : List (List Nat)} (H : FacL p f L l) : L.length = rs.length ∧ ∀ x ∈ L, x.1.length = 2 ∧ x.2 = 1 := by
  have hl : ∀ g ∈ rs.map (lin p), MIrr p g := fun g hg => by obtain ⟨y, _, rfl⟩ := List.mem_map.1 hg; exact lin_mirr hP y
  have hpm : l.Perm (rs.map (lin p)) := by
    refine fac_perm hP H.irr hl ?_
    rw [← h.val, H.val, h.mon.2, ev_one, Px.one_mul]
  have hnm : (rs.map (lin p)).Nodup := by
    unfold List.Nodup
    rw [List.pairwise_map]
    refine List.Pairwise.imp_of_mem ?_ hn
    intro a b ha hb hab e
    exact hab (lin_inj (hlt a ha) (hlt b hb) e)
  have hln : l.Nodup := hpm.nodup_iff.2 hnm
  constructor
  · have h1 := inj_len (fun g : List Nat => g) l (L.map fun x => x.1) hln (fun _ _ _ _ e => e) fun g hg => by
      obtain ⟨x, hx, e⟩ := H.ok.all g hg; exact List.mem_map.2 ⟨x, hx, e⟩
    have h2 := inj_len (fun g : List Nat => g) (L.map fun x => x.1) l H.ok.nodup (fun _ _ _ _ e => e) fun g hg => by
      obtain ⟨x, hx, rfl⟩ := List.mem_map.1 hg; exact (H.ok.exp x hx).1
    have h3 := hpm.length_eq
    simp at h1 h2 h3; omega
  · intro x hx
    obtain ⟨h1, h2⟩ := H.ok.exp x hx
    have h3 := hpm.mem_iff.1 h1
    obtain ⟨y, _, hy⟩ := List.mem_map.1 h3
    refine ⟨by rw [← hy]; rfl, ?_⟩
    have h4 := (List.nodup_iff_count.1 hln) x.1
    have h5 := List.count_pos_iff.2 h1
    omega

end Q
end Go.Proofs.Ytgnpohapmijfiaa
