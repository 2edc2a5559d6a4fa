/- Walks and plain mathematics: PwArgs, RefE, Rab, Pal, Fst, PwCntR, RefI, RefF, RefO, Rfk, Rfs, Rfw, RefH, Rsp, RefS. -/
import Derived.Test.YtbehihanhfmmhaaGreatG11
import Derived.Test.YtbehihanhfmmhaaGreatG10
import Derived.Test.YtbehihanhfmmhaaGreatG09
import Derived.Deep.DeepCutAuto
import Derived.ProofKit
import Derived.OpenShut
import Derived.Lib.SmallJoins
import Derived.Deep.RegionHeld3
import Derived.Deep.AppendLies
namespace Go.Proofs.YtbehihanhfmmhaaGreat
open Go.RowKit

/-- v reads as the ints Z. -/
def ArgI (w : World) (v : Value) (Z : List Int) : Prop :=
  Z.length ≤ 9223372036854775807 ∧ ((v = .slice none 0 0 ∧ Z = []) ∨
    ∃ (a : Addr) (cap : Nat), v = .slice (some a) Z.length cap ∧ Z.length ≤ cap ∧ cap ≤ 9223372036854775807 ∧ ∀ i (h : i < Z.length), w.cell? (a.add i) = some (.int .i64 Z[i]))

theorem ArgI.form {w : World} {v : Value} {Z : List Int} (h : ArgI w v Z) : ∃ a n cap, v = .slice a n cap := by
  rcases h.2 with ⟨h, _⟩ | ⟨a, cap, h, _⟩
  · exact ⟨_, _, _, h⟩
  · exact ⟨_, _, _, h⟩

theorem ArgI.below {w w' : World} {v : Value} {Z : List Int} (h : ArgI w v Z) (hB : Below w.heap.size w w') : ArgI w' v Z := by
  refine ⟨h.1, ?_⟩
  rcases h.2 with h1 | ⟨a, cap, h1, h2, h3, h4⟩
  · exact .inl h1
  · refine .inr ⟨a, cap, h1, h2, h3, fun i hi => ?_⟩
    have hc := h4 i hi
    have hlt := World.block_lt_of_cell? w _ hc
    rw [hB.cell hlt]
    exact hc


section
open Go.ChangeShapes Go.WideShapes
set_option maxRecDepth 100000 in
theorem argI_of {H : Type} {enc : TypeId × Value → H} {W : World} {base : Nat} {v : Value} {d : DataW H} {p : List MemPlace} (hv : Value.okWide Tryz.prog W .any base 22 v)
    (h : DataW.Trod enc Tryz.prog W 0 (fun _ => true) true 22 v d p) : ∃ Z, ArgI W v Z := by
  obtain ⟨a0, len, cap, rfl⟩ := okWide_slice Tryz.underlying22 hv
  obtain ⟨fuel, hf⟩ := h
  rcases open_ints Tryz.underlying22 Tryz.underlying3 (by kernel_rfl) hf with ⟨hcs, hx⟩ | ⟨a, len', cap', zs, hcs, _, hl, hm, hz, hx, hcell, hwz⟩
  · simp only [Value.cells, List.cons.injEq, and_true] at hcs
    rw [hcs]
    exact ⟨[], by simp, .inl ⟨rfl, rfl⟩⟩
  · simp only [Value.cells, List.cons.injEq, and_true] at hcs
    rw [hcs]
    simp only [if_true] at hz
    unfold maxLen at hm
    have hlen : (zs.take len').length = len' := by rw [List.length_take]; omega
    refine ⟨zs.take len', by omega, .inr ⟨a, cap', by rw [hlen], by omega, by omega, fun i hi => ?_⟩⟩
    have := hcell i (by omega)
    rw [this, List.getElem_take]
    simp [List.getD, show i < zs.length by omega]
end


section
open Go.ChangeShapes Go.WideShapes Go.Joins
set_option maxRecDepth 100000 in
theorem argI_of_cell {H : Type} {enc : TypeId × Value → H} {W : World} {v : Value} {n : Nat} {y : DataW H × List MemPlace}
    (h : DataW.trod enc Tryz.prog W 0 (fun _ => true) true n 22 [v] = some y) : ∃ Z, ArgI W v Z := by
  rcases open_ints Tryz.underlying22 Tryz.underlying3 (by kernel_rfl) h with ⟨hcs, hx⟩ | ⟨a, len', cap', zs, hcs, _, hl, hm, hz, hx, hcell, hwz⟩
  · simp only [List.cons.injEq, and_true] at hcs
    rw [hcs]
    exact ⟨[], by simp, .inl ⟨rfl, rfl⟩⟩
  · simp only [List.cons.injEq, and_true] at hcs
    rw [hcs]
    simp only [if_true] at hz
    unfold maxLen at hm
    have hlen : (zs.take len').length = len' := by rw [List.length_take]; omega
    refine ⟨zs.take len', by omega, .inr ⟨a, cap', by rw [hlen], by omega, by omega, fun i hi => ?_⟩⟩
    have := hcell i (by omega)
    rw [this, List.getElem_take]
    simp [List.getD, show i < zs.length by omega]

end
theorem zs_one (Z : List Int) : ∀ u ∈ zs Z, u.oneCell' = true := fun u hu => by unfold zs at hu; obtain ⟨z, _, rfl⟩ := List.mem_map.1 hu; rfl

/-- A new list of ints. -/
def NewZ (w w' : World) (v : Value) (Z : List Int) : Prop := w'.ownsRow w.heap.size 3 1 v Z.length (zs Z)
theorem NewZ.rd {w w' : World} {v : Value} {Z : List Int} (h : NewZ w w' v Z) : Rd w' v 1 Z.length (zs Z) := Rd.of_own h

set_option maxRecDepth 100000 in
set_option maxHeartbeats 1000000 in
theorem own_is (Z : List Int) (v : Value) (w : World) (hv : Hid (ArgI w v Z)) :
    Calls Tryz.prog 4 #[v] w fun x w' => (∃ v', x = .returned v' ∧ NewZ w w' v' (Z.take 34)) ∧ Below w.heap.size w w' := by
  obtain ⟨i0, hi, hz0, hz1, hz2⟩ := info_parts Tryz.infoZ
  obtain ⟨hmax, hc⟩ := hv.out
  rcases hc with ⟨rfl, rfl⟩ | ⟨ad, cap, rfl, hcap, hcap2, hcell⟩
  · clear hv
    go_enter Tryz.func4, Tryz.ntmps4
    go_wp2_with (fail)
    go_ret
    exact ⟨⟨_, rfl, World.ownsRow_nil _ _ _ _⟩, Below.refl _ _⟩
  · obtain ⟨n, hn⟩ : ∃ n, n = Z.length := ⟨_, rfl⟩
    obtain ⟨m, hm⟩ : ∃ m, m = min n 34 := ⟨_, rfl⟩
    have hml : (Z.take 34).length = m := by rw [List.length_take, hm, hn]; omega
    have hm1 : min (n : Int) 34 = (m : Int) := by omega
    have hm3 : min n 34 = m := by omega
    have hm2 : (if (34 : Int) < (n : Int) then (34 : Int) else (n : Int)) = (m : Int) := by split <;> omega
    have HC : Hid (∀ j u, (zs (Z.take 34))[j]? = some u → w.cell? (ad.add j) = some u) := fun j u hu => by
      have hj : j < (Z.take 34).length := by
        rcases Nat.lt_or_ge j (Z.take 34).length with h1 | h1
        · exact h1
        · rw [List.getElem?_eq_none (by rw [zs_length]; exact h1)] at hu; cases hu
      have hjZ : j < Z.length := by rw [List.length_take] at hj; omega
      rw [hcell j hjZ, ← hu, zs_get _ _ hj, List.getElem_take]
    have H1 := Lib.hid (zs_one (Z.take 34))
    have HL : Hid ((zs (Z.take 34)).length = m * 1) := by show _ = _; rw [zs_length, hml]; omega
    have HML := Lib.hid hml
    have hmn : m ≤ 34 := by omega
    have hmc : m ≤ cap := by omega
    have hmn2 : m ≤ n := by omega
    rw [← hn] at hcap ⊢
    rw [← hn] at hmax
    by_cases h34 : n ≤ 34
    · have hd : ((34 : Int) < (n : Int)) = False := by simp; omega
      have hmm : m = n := by omega
      clear hcell hv hn hm hml hm1 hm2 hm3
      subst hmm
      have hq1 : min (m : Int) 34 = (m : Int) := by omega
      go_enter Tryz.func4, Tryz.ntmps4
      go_wp2_with (at_builtin; refine wpList_append_own _ rfl _ _ 22 rfl w.heap.size 3 i0 (.int .i64 0) 1 8 Tryz.underlying22 hi hz0 hz1 hz2 rfl (by decide) _ 0 [] rfl (World.ownsRow_nil _ _ _ _) ad m cap (zs (Z.take 34)) rfl HL.out HC.out H1.out (by unfold maxLen; omega) (by omega) (by simp) ?_)
      intro v' w1 hown hgrow _
      have hB1 : Below w.heap.size w w1 := (Below.refl _ _).grown hgrow (Nat.le_refl _) (by intro g hg; simp [Value.ownBlock] at hg)
      have HR : Hid (NewZ w w1 v' (Z.take 34) ∧ Below w.heap.size w w1) := ⟨by unfold NewZ; rw [HML.out]; simpa using hown, hB1⟩
      clear hown hgrow hB1
      go_wp2_with (fail)
      go_ret
      exact ⟨⟨_, rfl, HR.out.1⟩, HR.out.2⟩
    · have hd : ((34 : Int) < (n : Int)) = True := by simp; omega
      have hmm : m = 34 := by omega
      have hn34 : (34 : Int) ≤ (n : Int) := by omega
      have hc34 : 34 ≤ cap := by omega
      clear hcell hv hn hm hml hm1 hm2 hm3
      subst hmm
      have hq1 : min (n : Int) 34 = 34 := by omega
      go_enter Tryz.func4, Tryz.ntmps4
      go_wp2_with (at_builtin; refine wpList_append_own _ rfl _ _ 22 rfl w.heap.size 3 i0 (.int .i64 0) 1 8 Tryz.underlying22 hi hz0 hz1 hz2 rfl (by decide) _ 0 [] rfl (World.ownsRow_nil _ _ _ _) ad 34 cap (zs (Z.take 34)) rfl HL.out HC.out H1.out (by unfold maxLen; omega) (by omega) (by simp) ?_)
      intro v' w1 hown hgrow _
      have hB1 : Below w.heap.size w w1 := (Below.refl _ _).grown hgrow (Nat.le_refl _) (by intro g hg; simp [Value.ownBlock] at hg)
      have HR : Hid (NewZ w w1 v' (Z.take 34) ∧ Below w.heap.size w w1) := ⟨by unfold NewZ; rw [HML.out]; simpa using hown, hB1⟩
      clear hown hgrow hB1
      go_wp2_with (fail)
      go_ret
      exact ⟨⟨_, rfl, HR.out.1⟩, HR.out.2⟩

theorem own_step {X W wN : World} (h1 : Below X.heap.size X W) (h2 : Below W.heap.size W wN) : Below X.heap.size X wN := h1.trans (h2.mono h1.size)

theorem own_two {w X W w1 w2 : World} {vA vB : Value} {Ta Tb : List Int} (hA : Below w.heap.size w X) (h0 : Below X.heap.size X W) (hNA : NewZ W w1 vA Ta) (hB1 : Below W.heap.size W w1) (hNB : NewZ w1 w2 vB Tb) (hB2 : Below w1.heap.size w1 w2) :
    NewZ w w2 vA Ta ∧ NewZ w w2 vB Tb ∧ Below w.heap.size w w2 := by
  have s1 := hA.size
  have s2 := h0.size
  have s3 := hB1.size
  refine ⟨own_kept (own_base hNA (by omega)) hB2, own_base hNB (by omega), ((hA.trans (h0.mono s1)).trans (hB1.mono (by omega))).trans (hB2.mono (by omega))⟩

end Go.Proofs.YtbehihanhfmmhaaGreat

namespace Go.Proofs.YtbehihanhfmmhaaGreat
open Go.RowKit

theorem rPoly_yes (p : Nat) (F : List Nat) (v : Value) (w : World) (hr : Hid (Rd w v 1 F.length (nats F))) (hF : Hid (Q.Pol p F)) (hl : F.length ≤ 33) :
    Calls Tryz.prog 8 #[.int .i64 p, v] w fun x w' => x = .returned (.bool true) ∧ w = w' :=
  rPoly_is p v (up F) true w hr.out.zs (by rw [up_length]; omega) ((polyB_iff p _).2 ⟨F, rfl, hF.out, hl⟩)

end Go.Proofs.YtbehihanhfmmhaaGreat
namespace Go.Proofs.YtbehihanhfmmhaaGreat
namespace Q
variable {p : Nat}

theorem perm_of_sub {α : Type} [DecidableEq α] {l1 : List α} : ∀ {l2 : List α}, l1.Nodup → (∀ x ∈ l1, x ∈ l2) → l2.length ≤ l1.length → l1.Perm l2 := by
  induction l1 with
  | nil => intro l2 _ _ hl; have : l2 = [] := List.eq_nil_of_length_eq_zero (by simpa using hl); subst this; exact List.Perm.refl _
  | cons a l ih =>
    intro l2 h1 hs hl
    have ha : a ∈ l2 := hs a (by simp)
    have hp := List.perm_cons_erase ha
    refine List.Perm.trans (List.Perm.cons a (ih (List.nodup_cons.1 h1).2 ?_ ?_)) hp.symm
    · intro x hx
      have hxa : x ≠ a := fun e => (List.nodup_cons.1 h1).1 (e ▸ hx)
      exact (List.mem_erase_of_ne hxa).2 (hs x (by simp [hx]))
    · rw [List.length_erase_of_mem ha]; simp at hl; omega

/-! ### The residues modulo an irreducible polynomial -/
def resid (p d : Nat) : List (List Nat) := (tuples p d).map trim
theorem trim_inj {f g : List Nat} (hl : f.length = g.length) (h : trim f = trim g) : f = g :=
  ext_getD hl fun i _ => by rw [← trim_getD f, ← trim_getD g, h]
theorem resid_nodup (d : Nat) : (resid p d).Nodup := by
  unfold resid List.Nodup
  rw [List.pairwise_map]
  refine List.Pairwise.imp_of_mem ?_ (tuples_nodup (p := p) d)
  intro a b ha hb hab e
  exact hab (trim_inj (((mem_tuples d a).1 ha).1.trans ((mem_tuples d b).1 hb).1.symm) e)
theorem resid_len (d : Nat) : (resid p d).length = p ^ d := by rw [resid, List.length_map, tuples_len]
theorem mem_resid (hp : 0 < p) (d : Nat) (f : List Nat) : f ∈ resid p d ↔ Pol p f ∧ f.length ≤ d := by
  constructor
  · intro h
    obtain ⟨t, ht, rfl⟩ := List.mem_map.1 h
    have h1 := (mem_tuples d t).1 ht
    exact ⟨Red.trim (fun x hx => h1.2 x hx), by rw [trim_length, ← h1.1]; exact trimLen_le t⟩
  · rintro ⟨hf, hl⟩
    refine List.mem_map.2 ⟨f ++ List.replicate (d - f.length) 0, (mem_tuples d _).2 ⟨by simp; omega, fun x hx => ?_⟩, ?_⟩
    · rcases List.mem_append.1 hx with h | h
      · exact hf.red x h
      · rw [(List.mem_replicate.1 h).2]; exact hp
    · have hr : Red p (f ++ List.replicate (d - f.length) 0) := fun x hx => by
        rcases List.mem_append.1 hx with h | h
        · exact hf.red x h
        · rw [(List.mem_replicate.1 h).2]; exact hp
      refine hr.trim.ext hf fun i => ?_
      rw [trim_getD]
      by_cases hi : i < f.length
      · simp [List.getD, List.getElem?_append_left hi]
      · rw [getD_out (f := f) (by omega), List.getD_eq_getElem?_getD, List.getElem?_append_right (by omega)]
        simp only [List.getElem?_replicate]
        split <;> rfl

/-- Fermat's theorem for the residues. -/
theorem fermat_ne (hP : M.Pr p) {g h : List Nat} (hg : Irr p g) (hh : Pol p h) (hn : ¬ Dv p g h) : Cg p g (pw (ev p h) (p ^ (g.length - 1) - 1)) 1 := by
  have hp2 := hP.1
  have hp : 0 < p := by omega
  have h2 := hg.two
  obtain ⟨d, hd⟩ : ∃ d, d = g.length - 1 := ⟨_, rfl⟩
  obtain ⟨N, hN⟩ : ∃ N, N = (resid p d).filter fun x => x != [] := ⟨_, rfl⟩
  have hmem : ∀ x, x ∈ N ↔ (Pol p x ∧ x.length < g.length ∧ x ≠ []) := fun x => by
    rw [hN, List.mem_filter, mem_resid hp]
    simp only [bne_iff_ne, ne_eq]
    constructor
    · rintro ⟨⟨h1, h3⟩, h4⟩; exact ⟨h1, by omega, h4⟩
    · rintro ⟨h1, h3, h4⟩; exact ⟨⟨h1, by omega⟩, h4⟩
  have hNn : N.Nodup := by rw [hN]; exact List.Pairwise.filter _ (resid_nodup d)
  have hNl : N.length = p ^ d - 1 := by
    have h1 : (resid p d).length = N.length + ((resid p d).filter fun x => !(x != [])).length := by
      rw [hN, ← List.length_append]
      exact (List.filter_append_perm _ _).length_eq.symm
    have h3 : ((resid p d).filter fun x => !(x != [])).Perm [[]] := by
      refine perm_of_sub (List.Pairwise.filter _ (resid_nodup d)) (fun x hx => by have := (List.mem_filter.1 hx).2; simp at this; simp [this]) ?_
      refine List.length_pos_of_mem (a := []) ?_
      exact List.mem_filter.2 ⟨(mem_resid hp d []).2 ⟨Pol.nil p, by simp⟩, by simp⟩
    rw [h3.length_eq, resid_len] at h1
    simp at h1; omega
  have hdvn : ∀ x ∈ N, ¬ Dv p g x := fun x hx hdv => by
    obtain ⟨h1, h3, h4⟩ := (hmem x).1 hx
    have := (hdv.len hP hg.pol h1 (fun h0 => h4 (List.eq_nil_of_length_eq_zero h0))).1
    omega
  -- multiplication by h permutes them
  have hmul : ∀ x, Pol p x → Cg p g (ev p h * ev p x) (ev p (remP p (prodP' p h x) g)) := fun x hx => by
    have := rem_cg hP (pol_prod hP hh hx) hg.pol (by omega)
    rwa [ev_prod] at this
  have hmap : ∀ x ∈ N, remP p (prodP' p h x) g ∈ N := fun x hx => by
    obtain ⟨h1, h3, h4⟩ := (hmem x).1 hx
    have D := div_is hP (pol_prod hP hh h1) hg.pol (by omega)
    refine (hmem _).2 ⟨D.rpol, D.rlen, fun h0 => ?_⟩
    have h5 := (rem_nil_iff hP (pol_prod hP hh h1) hg.pol (by omega)).1 h0
    rcases hg.prime hP hh h1 h5 with h6 | h6
    · exact hn h6
    · exact hdvn x hx h6
  have hinj : ∀ x ∈ N, ∀ y ∈ N, remP p (prodP' p h x) g = remP p (prodP' p h y) g → x = y := fun x hx y hy e => by
    obtain ⟨x1, x2, x3⟩ := (hmem x).1 hx
    obtain ⟨y1, y2, y3⟩ := (hmem y).1 hy
    have c := (hmul x x1).trans hp ((e ▸ Cg.refl _ : Cg p g (ev p (remP p (prodP' p h x) g)) (ev p (remP p (prodP' p h y) g))).trans hp ((hmul y y1).symm hp))
    unfold Cg at c
    rw [← Px.mul_sub] at c
    rcases hg.primeX hP (IsP.ev hh) ((IsP.ev x1).sub hp (IsP.ev y1)) c with h5 | h5
    · exact absurd (dx_iff.1 h5) hn
    · exact low_cg hP x1 y1 hg.pol x2 y2 h5
  have hperm : (N.map fun x => remP p (prodP' p h x) g).Perm N := by
    refine perm_of_sub ?_ (fun x hx => by obtain ⟨y, hy, rfl⟩ := List.mem_map.1 hx; exact hmap y hy) (by simp)
    unfold List.Nodup
    rw [List.pairwise_map]
    refine List.Pairwise.imp_of_mem ?_ hNn
    intro a b ha hb hab e
    exact hab (hinj a ha b hb e)
  have hpr : ∀ K : List (List Nat), (∀ x ∈ K, Pol p x) → Cg p g (pw (ev p h) K.length * ev p (prodL p K)) (ev p (prodL p (K.map fun x => remP p (prodP' p h x) g))) := by
    intro K hK
    induction K with
    | nil => rw [List.length_nil, pw_zero, Px.one_mul]; exact Cg.refl _
    | cons x K ih =>
      have hx := hK x (by simp)
      have hKp : ∀ y ∈ K, Pol p y := fun y hy => hK y (by simp [hy])
      have D := div_is hP (pol_prod hP hh hx) hg.pol (by omega)
      rw [List.map_cons, ev_prodL_cons, ev_prodL_cons, List.length_cons, pw_succ]
      have c := Cg.mul hP (((IsP.ev hh).pw hP K.length).mul hP (IsP.ev (prodL_pol hP hKp))) (IsP.ev D.rpol) (hmul x hx) (ih hKp)
      rwa [show pw (ev p h) K.length * ev p h * (ev p x * ev p (prodL p K)) = ev p h * ev p x * (pw (ev p h) K.length * ev p (prodL p K)) by ac_rfl]
  have hNp : ∀ x ∈ N, Pol p x := fun x hx => ((hmem x).1 hx).1
  have c := hpr N hNp
  rw [ev_prodL_perm hperm, hNl, hd] at c
  unfold Cg at c ⊢
  have e : pw (ev p h) (p ^ (g.length - 1) - 1) * ev p (prodL p N) - ev p (prodL p N) = (pw (ev p h) (p ^ (g.length - 1) - 1) - 1) * ev p (prodL p N) := by rw [Px.sub_mul, Px.one_mul]
  rw [e] at c
  rcases hg.primeX hP (((IsP.ev hh).pw hP _).sub hp (IsP.one hP)) (IsP.ev (prodL_pol hP hNp)) c with h3 | h3
  · exact h3
  · obtain ⟨x, hx, h4⟩ := hg.dv_prodL hP hNp (dx_iff.1 h3)
    exact absurd h4 (hdvn x hx)

theorem fermat (hP : M.Pr p) {g h : List Nat} (hg : Irr p g) (hh : Pol p h) : Cg p g (pw (ev p h) (p ^ (g.length - 1))) (ev p h) := by
  have hp : 0 < p := by have := hP.1; omega
  have hpos : 0 < p ^ (g.length - 1) := Nat.pow_pos hp
  obtain ⟨m, hm⟩ : ∃ m, p ^ (g.length - 1) = m + 1 := ⟨p ^ (g.length - 1) - 1, by omega⟩
  by_cases hd : Dv p g h
  · have h1 := dx_iff.2 hd
    have h2 : DX p g (pw (ev p h) (p ^ (g.length - 1))) := by rw [hm, pw_succ]; exact DX.mul hP ((IsP.ev hh).pw hP m) h1
    exact h2.sub hp h1
  · have c := fermat_ne hP hg hh hd
    rw [hm, Nat.add_sub_cancel] at c
    rw [hm, pw_succ]
    have := Cg.mul hP (IsP.ev hh) (IsP.one hP) c (Cg.refl (ev p h))
    rwa [Px.one_mul] at this

/-! ### How many roots -/
def hX (u : Px p) : List (Px p) → Px p
  | [] => 0
  | c :: C => c + u * hX u C
def qX (a : Px p) : List (Px p) → List (Px p)
  | [] => []
  | [_] => []
  | _ :: c' :: C => hX a (c' :: C) :: qX a (c' :: C)
theorem hX_isP (hP : M.Pr p) {u : Px p} (hu : IsP p u) : ∀ {C : List (Px p)}, (∀ c ∈ C, IsP p c) → IsP p (hX u C)
  | [], _ => IsP.zero
  | c :: C, h => (h c (by simp)).add (by have := hP.1; omega) (hu.mul hP (hX_isP hP hu fun x hx => h x (by simp [hx])))
theorem qX_isP (hP : M.Pr p) {a : Px p} (ha : IsP p a) : ∀ {C : List (Px p)}, (∀ c ∈ C, IsP p c) → ∀ c ∈ qX a C, IsP p c
  | [], _, c, hc => by simp [qX] at hc
  | [_], _, c, hc => by simp [qX] at hc
  | x :: c' :: C, h, c, hc => by
    rw [qX] at hc
    have h1 : ∀ y ∈ c' :: C, IsP p y := fun y hy => h y (by simp only [List.mem_cons] at hy ⊢; exact .inr hy)
    rcases List.mem_cons.1 hc with rfl | hc
    · exact hX_isP hP ha h1
    · exact qX_isP hP ha h1 c hc
theorem qX_len (a : Px p) : ∀ C : List (Px p), (qX a C).length = C.length - 1
  | [] => rfl
  | [_] => rfl
  | x :: c' :: C => by rw [qX, List.length_cons, qX_len a (c' :: C)]; simp
theorem qX_last (a : Px p) : ∀ C : List (Px p), 2 ≤ C.length → (qX a C).getLast? = C.getLast?
  | [], h => by simp at h
  | [_], h => by simp at h
  | [x, c'], _ => by simp [qX, hX, Px.mul_zero, Px.add_zero]
  | x :: c' :: c2 :: C, _ => by
    have ih := qX_last a (c' :: c2 :: C) (by simp)
    rw [qX, List.getLast?_cons_cons, ← ih, qX, List.getLast?_cons_cons]
theorem hX_qX (a u : Px p) : ∀ C : List (Px p), hX u C - hX a C = (u - a) * hX u (qX a C)
  | [] => by rw [hX, hX, qX, hX, Px.sub_self, Px.mul_zero]
  | [c] => by rw [hX, hX, hX, hX, qX, hX, Px.mul_zero, Px.mul_zero, Px.sub_self, Px.mul_zero]
  | c :: c' :: C => by
    have ih := hX_qX a u (c' :: C)
    have e1 : hX u (c' :: C) = hX a (c' :: C) + (u - a) * hX u (qX a (c' :: C)) := by rw [← ih, Px.add_comm, sub_add]
    obtain ⟨A, hA⟩ : ∃ A, A = hX a (c' :: C) := ⟨_, rfl⟩
    obtain ⟨B, hB⟩ : ∃ B, B = hX u (qX a (c' :: C)) := ⟨_, rfl⟩
    have e2 : hX u (c :: c' :: C) = c + u * hX u (c' :: C) := rfl
    have e3 : hX a (c :: c' :: C) = c + a * hX a (c' :: C) := rfl
    have e4 : hX u (qX a (c :: c' :: C)) = hX a (c' :: C) + u * hX u (qX a (c' :: C)) := rfl
    rw [e2, e3, e4, e1, ← hA, ← hB, add_sub_add, Px.sub_self, Px.zero_add]
    simp only [Px.sub_def, Px.mul_add, Px.add_mul, Px.neg_mul, Px.mul_neg]
    have e5 : u * A + (u * (u * B) + -(u * (a * B))) + -(a * A) = u * A + -(a * A) + (u * (u * B) + -(u * (a * B))) := by ac_rfl
    have e6 : a * (u * B) = u * (a * B) := by ac_rfl
    rw [e5, e6]

theorem root_count (hP : M.Pr p) {g : List Nat} (hg : Irr p g) : ∀ (n : Nat) (C : List (Px p)), C.length = n + 1 → C.getLast? = some 1 → (∀ c ∈ C, IsP p c) → ∀ R : List (List Nat), (∀ r ∈ R, Pol p r) → R.Pairwise (fun a b => ¬ Cg p g (ev p a) (ev p b)) → (∀ r ∈ R, DX p g (hX (ev p r) C)) → R.length ≤ n
  | _, _, _, _, _, [], _, _, _ => by simp
  | 0, C, hl, hlast, hC, r :: R, hR, hpw, hz => by
    exfalso
    match C, hl with
    | [c], _ =>
      simp at hlast
      have := hz r (by simp)
      rw [hlast, hX, hX, Px.mul_zero, Px.add_zero] at this
      exact hg.notOne hP this
  | n + 1, C, hl, hlast, hC, r :: R, hR, hpw, hz => by
    have hp : 0 < p := by have := hP.1; omega
    have hr := hR r (by simp)
    have hpw1 := List.pairwise_cons.1 hpw
    have ih := root_count hP hg n (qX (ev p r) C) (by rw [qX_len, hl]; rfl) (by rw [qX_last _ _ (by omega)]; exact hlast) (qX_isP hP (IsP.ev hr) hC) R (fun x hx => hR x (by simp [hx])) hpw1.2 fun s hs => by
      have h1 := (hz s (by simp [hs])).sub hp (hz r (by simp))
      rw [hX_qX] at h1
      have hsp := hR s (by simp [hs])
      rcases hg.primeX hP ((IsP.ev hsp).sub hp (IsP.ev hr)) (hX_isP hP (IsP.ev hsp) (qX_isP hP (IsP.ev hr) hC)) h1 with h2 | h2
      · exact absurd (Cg.symm hp h2) (hpw1.1 s hs)
      · exact h2
    simp; omega

theorem hX_rep (u : Px p) : ∀ k, hX u (List.replicate k 0 ++ [1]) = pw u k
  | 0 => by show (1 : Px p) + u * 0 = 1; rw [Px.mul_zero, Px.add_zero]
  | k + 1 => by
    rw [List.replicate_succ, List.cons_append]
    show (0 : Px p) + u * hX u (List.replicate k 0 ++ [1]) = pw u (k + 1)
    rw [hX_rep u k, Px.zero_add, pw_succ, Px.mul_comm]

theorem frob_iter (hP : M.Pr p) (u : Px p) (h : List Nat) : ∀ m, pw (hor u h) (p ^ m) = hor (pw u (p ^ m)) h
  | 0 => by rw [Nat.pow_zero, pw_one, pw_one]
  | m + 1 => by rw [Nat.pow_succ, ← pw_pw, frob_iter hP u h m, frob_hor hP, pw_pw]
theorem hor_isP (hP : M.Pr p) {u : Px p} (hu : IsP p u) : ∀ h : List Nat, IsP p (hor u h)
  | [] => IsP.zero
  | c :: h => (IsP.const (by have := hP.1; omega) c).add (by have := hP.1; omega) (hu.mul hP (hor_isP hP hu h))
theorem hor_cg (hP : M.Pr p) {g : List Nat} {u v : Px p} (hu : IsP p u) (hv : IsP p v) (c : Cg p g u v) : ∀ h : List Nat, Cg p g (hor u h) (hor v h)
  | [] => Cg.refl _
  | a :: h => (Cg.refl _).add (by have := hP.1; omega) (Cg.mul hP (hor_isP hP hu h) hv c (hor_cg hP hu hv c h))
theorem isP_x (hP : M.Pr p) : IsP p (xX p) := by rw [← ev_xx]; exact IsP.ev (pol_xx hP)

/-- If x is its own p^m-th power, the degree is at most m. -/
theorem deg_le (hP : M.Pr p) {g : List Nat} (hg : Irr p g) {m : Nat} (hm : 1 ≤ m) (c : Cg p g (pw (xX p) (p ^ m)) (xX p)) : g.length - 1 ≤ m := by
  have hp2 := hP.1
  have hp : 0 < p := by omega
  have h2 := hg.two
  have hN : 2 ≤ p ^ m := Nat.le_trans hp2 (by have := Nat.pow_le_pow_right hp hm; rwa [Nat.pow_one] at this)
  obtain ⟨K, hK⟩ : ∃ K, p ^ m = K + 2 := ⟨p ^ m - 2, by omega⟩
  have hx := isP_x hP
  have hall : ∀ h : List Nat, Pol p h → Cg p g (pw (ev p h) (p ^ m)) (ev p h) := fun h _ => by
    rw [← hor_x h, frob_iter hP]
    exact hor_cg hP (hx.pw hP _) hx c h
  have hmem : ∀ r, r ∈ resid p (g.length - 1) → Pol p r ∧ r.length < g.length := fun r hr => by
    have := (mem_resid hp _ r).1 hr; exact ⟨this.1, by omega⟩
  have h := root_count hP hg (p ^ m) ((0 : Px p) :: (-1 : Px p) :: (List.replicate K 0 ++ [1])) (by simp [hK]) (by simp [List.getLast?_cons]) (fun y hy => ?_) (resid p (g.length - 1)) (fun r hr => (hmem r hr).1) ?_ fun r hr => ?_
  · rw [resid_len] at h
    exact (Nat.pow_le_pow_iff_right (by omega)).1 h
  · simp only [List.mem_cons, List.mem_append, List.mem_replicate, List.not_mem_nil, or_false] at hy
    rcases hy with rfl | rfl | ⟨_, rfl⟩ | rfl
    · exact IsP.zero
    · exact (IsP.one hP).neg hp
    · exact IsP.zero
    · exact IsP.one hP
  · refine List.Pairwise.imp_of_mem ?_ (resid_nodup (p := p) (g.length - 1))
    intro a b ha hb hab hc
    have h1 := hmem a ha
    have h3 := hmem b hb
    exact hab (low_cg hP h1.1 h3.1 hg.pol h1.2 h3.2 hc)
  · have e : hX (ev p r) ((0 : Px p) :: (-1 : Px p) :: (List.replicate K 0 ++ [1])) = pw (ev p r) (p ^ m) - ev p r := by
      show (0 : Px p) + ev p r * (-1 + ev p r * hX (ev p r) (List.replicate K 0 ++ [1])) = _
      rw [hX_rep, Px.zero_add, Px.mul_add, Px.mul_neg, Px.mul_one, hK, pw_succ, pw_succ, Px.sub_def, Px.add_comm]
      congr 1; ac_rfl
    rw [e]
    exact hall r (hmem r hr).1

/-- x is its own p^(d k)-th power. -/
theorem x_iter (hP : M.Pr p) {g : List Nat} {d : Nat} (c : Cg p g (pw (xX p) (p ^ d)) (xX p)) : ∀ k, Cg p g (pw (xX p) (p ^ (d * k))) (xX p)
  | 0 => by rw [Nat.mul_zero, Nat.pow_zero, pw_one]; exact Cg.refl _
  | k + 1 => by
    have hp : 0 < p := by have := hP.1; omega
    rw [Nat.mul_succ, Nat.pow_add, ← pw_pw]
    have hx := isP_x hP
    exact (Cg.pw hP (hx.pw hP _) hx (x_iter hP c k) _).trans hp c

/-! ### Rabin's test -/
def yR (p : Nat) (f : List Nat) : Nat → List Nat
  | 0 => [0, 1]
  | k + 1 => raiseLoop p f p [1] (remP p (yR p f k) f) p
theorem yR_is (hP : M.Pr p) {f : List Nat} (hf : Pol p f) (h3 : 3 ≤ f.length) : ∀ k, Pol p (yR p f k) ∧ (yR p f k).length < f.length ∧ Cg p f (ev p (yR p f k)) (pw (xX p) (p ^ k))
  | 0 => ⟨pol_xx hP, by show 2 < _; omega, by rw [Nat.pow_zero, pw_one]; exact Cg.of_eq ev_xx⟩
  | k + 1 => by
    have hp : 0 < p := by have := hP.1; omega
    obtain ⟨i1, i2, i3⟩ := yR_is hP hf h3 k
    have D := div_is hP i1 hf (by omega)
    have h := raise_cg hP hf (by omega) p [1] (remP p (yR p f k) f) p (Nat.le_refl _) (pol_one hP) D.rpol
    refine ⟨h.1, raise_len hP hf (by omega) p [1] _ p (pol_one hP) D.rpol (by simp; omega), ?_⟩
    have h1 := h.2
    rw [ev_one, Px.one_mul] at h1
    refine h1.trans hp ?_
    rw [Nat.pow_succ, ← pw_pw]
    have c := ((rem_cg hP i1 hf (by omega)).symm hp).trans hp i3
    exact c.pw hP (IsP.ev D.rpol) ((isP_x hP).pw hP _) p

structure Rab (p : Nat) (f : List Nat) (n : Nat) : Prop where
  last : yR p f n = [0, 1]
  gcds : ∀ q, M.Pr q → q ∣ n → (gcdP p f (difP p (yR p f (n / q)) [0, 1])).length ≤ 1

theorem rab_gcd (hP : M.Pr p) {f g : List Nat} (hf : Pol p f) (h3 : 3 ≤ f.length) (hg : Pol p g) (hgf : Dv p g f) (h2 : 2 ≤ g.length) {m : Nat} (c : Cg p g (pw (xX p) (p ^ m)) (xX p)) : 1 < (gcdP p f (difP p (yR p f m) [0, 1])).length := by
  have hp : 0 < p := by have := hP.1; omega
  obtain ⟨i1, i2, i3⟩ := yR_is hP hf h3 m
  have hdp := pol_dif hp (yR p f m) [0, 1]
  have G := gcdP_is hP hf hdp
  have h1 : Dv p g (difP p (yR p f m) [0, 1]) := by
    rw [← dx_iff, ev_dif hp _ (pol_xx hP).red, ev_xx]
    have i4 : Cg p g (ev p (yR p f m)) (pw (xX p) (p ^ m)) := DX.trans hP hgf i3
    exact i4.trans hp c
  have h4 := G.greatest hP hgf h1
  have h0 : (gcdP p f (difP p (yR p f m) [0, 1])).length ≠ 0 := fun h => by
    have := (G.zero.1 (List.eq_nil_of_length_eq_zero h)).1
    rw [this] at h3; simp at h3
  have := (h4.len hP hg G.pol h0).1
  omega

theorem rab_iff (hP : M.Pr p) {f : List Nat} (hf : Pol p f) {n : Nat} (hn : f.length = n + 1) (h2 : 2 ≤ n) : Rab p f n ↔ Irr p f := by
  have hp2 := hP.1
  have hp : 0 < p := by omega
  have h3 : 3 ≤ f.length := by omega
  have hx := isP_x hP
  constructor
  · intro R
    obtain ⟨g, hg, hgf⟩ := exists_irr hP f.length (Nat.le_refl _) hf (by omega)
    obtain ⟨d, hd⟩ : ∃ d, g.length = d + 1 := ⟨g.length - 1, by have := hg.irr.two; omega⟩
    have hd1 : 1 ≤ d := by have := hg.irr.two; omega
    have cn : Cg p g (pw (xX p) (p ^ n)) (xX p) := by
      have i3 := (yR_is hP hf h3 n).2.2
      rw [R.last, ev_xx] at i3
      exact Cg.symm hp (DX.trans hP hgf i3)
    have cd : Cg p g (pw (xX p) (p ^ d)) (xX p) := by
      have := fermat hP hg.irr (pol_xx hP)
      rwa [ev_xx, hd, Nat.add_sub_cancel] at this
    have hdn : d ∣ n := by
      refine Nat.dvd_of_mod_eq_zero (Classical.byContradiction fun h0 => ?_)
      have hlt := Nat.mod_lt n (show 0 < d by omega)
      have c1 : Cg p g (pw (xX p) (p ^ (n % d))) (xX p) := by
        have e : n = d * (n / d) + n % d := (Nat.div_add_mod n d).symm
        have c2 := cn
        rw [e, Nat.pow_add, ← pw_pw] at c2
        exact (Cg.pw hP hx (hx.pw hP _) (Cg.symm hp (x_iter hP cd (n / d))) _).trans hp c2
      have := deg_le hP hg.irr (by omega) c1
      omega
    obtain ⟨e, he⟩ := hdn
    by_cases he1 : e = 1
    · subst he1
      have hlen : g.length = f.length := by omega
      refine ⟨hf, by omega, fun k hk hkd => ?_⟩
      have := hg.irr.dv k hk (hkd.trans hP (Dv.back hP hg.irr.pol hf (by omega) hlen hgf))
      omega
    · exfalso
      have he0 : e ≠ 0 := fun h => by subst h; omega
      obtain ⟨q, hq, hqe⟩ := M.exists_prime e (by omega)
      obtain ⟨k, rfl⟩ := hqe
      have hq2 := hq.1
      have hnq : n / q = d * k := by
        rw [he, show d * (q * k) = d * k * q by ac_rfl]; exact Nat.mul_div_cancel _ (by omega)
      have h4 := R.gcds q hq ⟨d * k, by rw [he]; ac_rfl⟩
      have h5 := rab_gcd hP hf h3 hg.irr.pol hgf (by omega) (m := n / q) (by rw [hnq]; exact x_iter hP cd k)
      omega
  · intro I
    refine ⟨?_, fun q hq hqn => ?_⟩
    · obtain ⟨i1, i2, i3⟩ := yR_is hP hf h3 n
      have c := fermat hP I (pol_xx hP)
      rw [ev_xx, hn, Nat.add_sub_cancel] at c
      refine low_cg hP i1 (pol_xx hP) hf i2 (by show 2 < _; omega) ?_
      rw [ev_xx]; exact i3.trans hp c
    · refine Classical.byContradiction fun hgt => ?_
      have hdp := pol_dif hp (yR p f (n / q)) [0, 1]
      have G := gcdP_is hP hf hdp
      have h4 := (I.dv _ G.pol G.left).resolve_left (by omega)
      have h5 : Dv p f (difP p (yR p f (n / q)) [0, 1]) := (Dv.back hP G.pol hf (by omega) h4 G.left).trans hP G.right
      rw [← dx_iff, ev_dif hp _ (pol_xx hP).red, ev_xx] at h5
      have c : Cg p f (pw (xX p) (p ^ (n / q))) (xX p) := ((yR_is hP hf h3 (n / q)).2.2.symm hp).trans hp h5
      have hq2 := hq.1
      have hnq1 : 1 ≤ n / q := Nat.div_pos (Nat.le_of_dvd (by omega) hqn) (by omega)
      have h6 := deg_le hP I hnq1 c
      have h7 : n / q ≤ n / 2 := Nat.div_le_div_left hq2 (by omega)
      omega

end Q
end Go.Proofs.YtbehihanhfmmhaaGreat

namespace Go.Proofs.YtbehihanhfmmhaaGreat
namespace Q

def polB' (p : Nat) (f : List Nat) : Bool := f.all (fun c => decide (c < p)) && decide (f.getD (f.length - 1) 0 ≠ 0)
theorem pol_of_B {p : Nat} {f : List Nat} (h : polB' p f = true) : Pol p f := by
  unfold polB' at h
  rw [Bool.and_eq_true, List.all_eq_true, decide_eq_true_iff] at h
  exact pol_of (fun x hx => by simpa using h.1 x hx) (.inr h.2)

def stepOk (p : Nat) (res : List Nat) : Nat → List Nat → Bool
  | 0, _ => false
  | n + 1, f => polB' p f && ((irredP p f && f == res) || (!irredP p f && (List.range f.length).any (fun j => f.getD j 0 != p - 1) && ((advanceP p f).length == f.length) && stepOk p res n (advanceP p f)))
theorem stepOk_is {p : Nat} {res : List Nat} : ∀ (n : Nat) (f : List Nat), stepOk p res n f = true → FirstOk p res n f
  | 0, f, h => by simp [stepOk] at h
  | n + 1, f, h => by
    rw [stepOk, Bool.and_eq_true, Bool.or_eq_true] at h
    refine ⟨pol_of_B h.1, ?_⟩
    rcases h.2 with h2 | h2
    · rw [Bool.and_eq_true, beq_iff_eq] at h2
      exact .inl h2
    · simp only [Bool.and_eq_true, Bool.not_eq_true', List.any_eq_true, List.mem_range, bne_iff_ne, beq_iff_eq] at h2
      exact .inr ⟨h2.1.1.1, h2.1.1.2, h2.1.2, stepOk_is n _ h2.2⟩

/-- The k-th monic polynomial of degree n, number by number. -/
def digS (p n k : Nat) : Nat → List Nat
  | 0 => List.replicate n 0 ++ [1]
  | i + 1 => (digS p n k i).set i (k / p ^ i % p)
def dig (p n k : Nat) : List Nat := digS p n k n
theorem digS_len (p n k : Nat) : ∀ i, (digS p n k i).length = n + 1
  | 0 => by simp [digS]
  | i + 1 => by rw [digS, List.length_set, digS_len p n k i]
theorem digS_last (p n k : Nat) : ∀ i, i ≤ n → (digS p n k i).getD n 0 = 1
  | 0, _ => by simp [digS, List.getD]
  | i + 1, h => by
    rw [digS, List.getD_eq_getElem?_getD, List.getElem?_set_ne (by omega), ← List.getD_eq_getElem?_getD]
    exact digS_last p n k i (by omega)
theorem digS_red {p : Nat} (hp : 2 ≤ p) (n k : Nat) : ∀ i, Red p (digS p n k i)
  | 0 => fun x hx => by
    simp only [digS, List.mem_append, List.mem_replicate, List.mem_singleton] at hx
    omega
  | i + 1 => fun x hx => by
    rcases List.mem_or_eq_of_mem_set hx with h | h
    · exact digS_red hp n k i x h
    · rw [h]; exact Nat.mod_lt _ (by omega)
theorem dig_pol {p : Nat} (hp : 2 ≤ p) (n k : Nat) : Pol p (dig p n k) ∧ (dig p n k).length = n + 1 := by
  have hl := digS_len p n k n
  refine ⟨pol_of (digS_red hp n k n) (.inr ?_), hl⟩
  unfold dig
  rw [hl, Nat.add_sub_cancel, digS_last p n k n (Nat.le_refl _)]
  omega

/-- The rounds over all of them: how many are irreducible, none if the first of them is not res. -/
def scanB (p n : Nat) (res : List Nat) : Nat → Nat → Nat → Option Nat
  | 0, _, c => some c
  | m + 1, k, c => if irredP p (dig p n k) then (if c = 0 ∧ dig p n k ≠ res then none else scanB p n res m (k + 1) (c + 1)) else scanB p n res m (k + 1) c

def resOf (p n : Nat) : List Nat := (firstLoop p 130 (List.replicate n 0 ++ [1])).getD []
def allB (p n : Nat) : Bool := stepOk p (resOf p n) 130 (List.replicate n 0 ++ [1]) && (scanB p n (resOf p n) (p ^ n) 0 0 == some (countP p n n).toNat) && decide (0 ≤ countP p n n) && ((resOf p n).length == n + 1)

set_option maxRecDepth 100000 in
theorem all_ok : ∀ x ∈ [(2, 1), (2, 2), (2, 3), (2, 4), (2, 5), (2, 6), (3, 1), (3, 2), (3, 3), (3, 4), (5, 1), (5, 2), (5, 3), (7, 1), (7, 2)], allB x.1 x.2 = true := by decide +kernel

structure AllIs (p n T : Nat) (res : List Nat) : Prop where
  first : FirstOk p res 130 (List.replicate n 0 ++ [1])
  scan : scanB p n res (p ^ n) 0 0 = some T
  count : countP p n n = (T : Int)
  len : res.length = n + 1
theorem all_is {p n : Nat} (hp : p = 2 ∨ p = 3 ∨ p = 5 ∨ p = 7) (h1 : 1 ≤ n) (h6 : n ≤ 6) (hm : p ^ n ≤ 130) : ∃ T res, AllIs p n T res := by
  have h : allB p n = true := by
    have hmem : (p, n) ∈ [(2, 1), (2, 2), (2, 3), (2, 4), (2, 5), (2, 6), (3, 1), (3, 2), (3, 3), (3, 4), (5, 1), (5, 2), (5, 3), (7, 1), (7, 2)] := by
      rcases (by omega : n = 1 ∨ n = 2 ∨ n = 3 ∨ n = 4 ∨ n = 5 ∨ n = 6) with rfl | rfl | rfl | rfl | rfl | rfl <;> rcases hp with rfl | rfl | rfl | rfl <;> first | decide | (exfalso; revert hm; decide)
    exact all_ok _ hmem
  unfold allB at h
  simp only [Bool.and_eq_true, beq_iff_eq, decide_eq_true_iff] at h
  exact ⟨(countP p n n).toNat, resOf p n, stepOk_is _ _ h.1.1.1, h.1.1.2, by omega, h.2⟩

end Q
end Go.Proofs.YtbehihanhfmmhaaGreat

namespace Go.Proofs.YtbehihanhfmmhaaGreat
namespace Q
variable {p : Nat}

/-- x^N - x. -/
def xN (p N : Nat) : List Nat := [0, p - 1] ++ List.replicate (N - 2) 0 ++ [1]
theorem xN_is (hP : M.Pr p) {N : Nat} (hN : 3 ≤ N) : Pol p (xN p N) ∧ (xN p N).length = N + 1 ∧ Mon (xN p N) ∧ ev p (xN p N) = pw (xX p) N - xX p := by
  have hp2 := hP.1
  have hl : (xN p N).length = N + 1 := by simp [xN]; omega
  have hlast : (xN p N).getD N 0 = 1 := by
    unfold xN
    rw [List.getD_eq_getElem?_getD, List.getElem?_append_right (by simp; omega)]
    simp [show N - (N - 2 + 1 + 1) = 0 by omega]
  have hm : Mon (xN p N) := ⟨by omega, by rw [hl, Nat.add_sub_cancel]; exact hlast⟩
  refine ⟨pol_of (fun x hx => ?_) (.inr (by rw [hm.2]; omega)), hl, hm, ?_⟩
  · simp only [xN, List.mem_append, List.mem_replicate, List.mem_cons, List.not_mem_nil, or_false] at hx
    omega
  · rw [← hor_x]
    have e : xN p N = 0 :: (p - 1) :: (List.replicate (N - 2) 0 ++ [1]) := by simp [xN]
    rw [e]
    show ev p [0] + xX p * (ev p [p - 1] + xX p * hor (xX p) (List.replicate (N - 2) 0 ++ [1])) = _
    rw [hor_zeros]
    have e1 : hor (xX p) [1] = 1 := by show ev p [1] + xX p * 0 = 1; rw [ev_one, Px.mul_zero, Px.add_zero]
    have e2 : ev p [p - 1] = -1 := by
      have h : ev p [p - 1] + ev p [1] = 0 := by
        rw [ev_const_add, show p - 1 + 1 = p by omega]
        exact ev_const_dvd ⟨1, by omega⟩
      rw [ev_one, Px.add_comm] at h
      exact Px.neg_eq h
    rw [e1, e2, ev_const_zero, Px.zero_add, Px.mul_one, Px.mul_add, Px.mul_neg, Px.mul_one]
    obtain ⟨K, hK⟩ : ∃ K, N = K + 2 := ⟨N - 2, by omega⟩
    rw [hK, Nat.add_sub_cancel, pw_succ, pw_succ, Px.sub_def, Px.add_comm]
    congr 1; ac_rfl

def xN' (_p N : Nat) : List Nat := List.replicate N 0 ++ [1]
theorem xD_is (hP : M.Pr p) {N : Nat} (hN : 2 ≤ N) : Pol p (difP p (xN' p N) [0, 1]) ∧ (difP p (xN' p N) [0, 1]).length = N + 1 ∧ ev p (difP p (xN' p N) [0, 1]) = pw (xX p) N - xX p := by
  have hp2 := hP.1
  have hp : 0 < p := by omega
  have hl : (xN' p N).length = N + 1 := by simp [xN']
  have hev : ev p (difP p (xN' p N) [0, 1]) = pw (xX p) N - xX p := by
    rw [ev_dif hp _ (pol_xx hP).red, ev_xx, ← hor_x (xN' p N)]
    unfold xN'
    rw [hor_zeros]
    have e1 : hor (xX p) [1] = 1 := by show ev p [1] + xX p * 0 = 1; rw [ev_one, Px.mul_zero, Px.add_zero]
    rw [e1, Px.mul_one]
  refine ⟨pol_dif hp _ _, ?_, hev⟩
  have h1 := dif_len (p := p) hp (f := xN' p N) (g := [0, 1])
  rw [hl] at h1
  have h2 : (difP p (xN' p N) [0, 1]).getD N 0 = 1 := by
    rw [dif_getD]
    have e1 : (xN' p N).getD N 0 = 1 := by simp [xN', List.getD]
    have e2 : [0, 1].getD N 0 = 0 := getD_out (by simp; omega)
    rw [e1, e2, Nat.sub_zero, Nat.add_mod_right]; exact Nat.mod_eq_of_lt (by omega)
  have h3 : ¬ (difP p (xN' p N) [0, 1]).length ≤ N := fun h => by rw [getD_out h] at h2; omega
  simp at h1
  omega

theorem Dr_neg (a : Px p) : Dr (-a) = -Dr a := by
  refine Px.neg_eq ?_
  rw [← Dr_add, Px.add_neg]
  have : Dr (0 : Px p) + Dr (0 : Px p) = Dr (0 : Px p) + 0 := by rw [← Dr_add, Px.add_zero, Px.add_zero]
  rw [Px.add_comm, Px.add_comm (Dr 0) 0] at this
  exact Px.add_cancel this
theorem Dr_x (hP : M.Pr p) : Dr (xX p) = 1 := by
  have h : deriv p [0, 1] = [1] := by
    have hp2 := hP.1
    unfold deriv
    simp only [List.length_cons, List.length_nil]
    have : (List.range (0 + 1 + 1 - 1)).map (fun i => (i + 1) * [0, 1].getD (i + 1) 0 % p) = [1] := by
      simp [List.range_succ]; exact Nat.mod_eq_of_lt (by omega)
    rw [this]; rfl
  rw [← ev_xx, ← ev_deriv, h, ev_one]

theorem sum_pow_lt (hp : 2 ≤ p) : ∀ m, ((List.range m).map fun j => p ^ (j + 1)).sum < p ^ (m + 1)
  | 0 => by simp; omega
  | m + 1 => by
    have ih := sum_pow_lt hp m
    rw [List.range_succ, List.map_append, List.sum_append]
    simp only [List.map_cons, List.map_nil, List.sum_cons, List.sum_nil, Nat.add_zero]
    have : 2 * p ^ (m + 1) ≤ p * p ^ (m + 1) := Nat.mul_le_mul_right _ hp
    rw [Nat.pow_succ p (m + 1), Nat.mul_comm _ p]; omega

theorem prodL_len (hP : M.Pr p) : ∀ {l : List (List Nat)}, (∀ g ∈ l, Pol p g ∧ g.length ≠ 0) → (prodL p l).length = 1 + (l.map fun g => g.length - 1).sum
  | [], _ => rfl
  | g :: l, h => by
    have hg := h g (by simp)
    have hl : ∀ x ∈ l, Pol p x ∧ x.length ≠ 0 := fun x hx => h x (by simp [hx])
    have ih := prodL_len hP hl
    rw [prodL, prod_length hg.2 (by omega), ih, List.map_cons, List.sum_cons]; omega

/-- In every degree there is an irreducible polynomial. -/
theorem exists_deg (hP : M.Pr p) (n : Nat) (h1 : 1 ≤ n) : ∃ g, MIrr p g ∧ g.length = n + 1 := by
  have hp2 := hP.1
  have hp : 0 < p := by omega
  by_cases hn1 : n = 1
  · subst hn1
    refine ⟨lin p 0, ⟨⟨pol_lin hp2 0, by simp [lin], fun d hd hdv => ?_⟩, by simp [lin], by simp [lin]⟩, rfl⟩
    have h := hdv.len hP hd (pol_lin hp2 0) (by simp [lin])
    simp [lin] at h ⊢
    have h0 : d.length ≠ 0 := fun e => h.2 (List.eq_nil_of_length_eq_zero e)
    omega
  · have hpow : ∀ j, 1 ≤ j → p ≤ p ^ j := fun j hj => by have := Nat.pow_le_pow_right hp hj; rwa [Nat.pow_one] at this
    have hN4 : 4 ≤ p ^ n := Nat.le_trans (show 4 ≤ p * p by have := Nat.mul_le_mul hp2 hp2; omega) (by have := Nat.pow_le_pow_right hp (show 2 ≤ n by omega); rwa [Nat.pow_two] at this)
    obtain ⟨f1, f2, f3, f4⟩ := xN_is hP (N := p ^ n) (by omega)
    obtain ⟨F, hF⟩ : ∃ F, F = xN p (p ^ n) := ⟨_, rfl⟩
    rw [← hF] at f1 f2 f3 f4
    have hx := isP_x hP
    -- the derivative is -1
    have hd : ev p (deriv p F) = -1 := by
      obtain ⟨K, hK⟩ : ∃ K, p ^ n = K + 1 := ⟨p ^ n - 1, by omega⟩
      have hpK : p ∣ K + 1 := by rw [← hK]; exact ⟨p ^ (n - 1), by rw [← Nat.pow_succ']; congr 1; omega⟩
      rw [ev_deriv, f4, Px.sub_def, Dr_add, Dr_neg, Dr_x hP, hK, Dr_pw, ev_const_dvd hpK, Px.zero_mul, Px.zero_mul, Px.zero_add]
    have hdp := drv_pol hp F
    have hG : gcdP p F (deriv p F) = [1] := by
      have G := gcdP_is hP f1 hdp
      have hne : gcdP p F (deriv p F) ≠ [] := fun h => by have := (G.zero.1 h).1; rw [this] at f2; simp at f2
      have mG := G.mon.resolve_left hne
      refine mon_len1 mG ?_
      refine dv_one hP G.pol ?_
      rw [← dx_iff, ev_one]
      have h5 := dx_iff.2 G.right
      rw [hd] at h5
      have h6 := h5.neg hp
      rwa [Px.neg_neg] at h6
    obtain ⟨l, hl, el⟩ := exists_fac hP _ (Nat.le_refl _) f1 f3
    have hln : l.Nodup := by
      rw [List.nodup_iff_count]
      intro g
      by_cases hg : g ∈ l
      · have h3 := count_gcd hP f1 (hl g hg) hl (E := []) (by simp) (c := 1) (by omega) (by omega) (by rw [ev_one, Px.one_mul]; exact el) (by rw [hG]; rfl)
        rw [List.count_nil] at h3
        split at h3
        · have := List.count_pos_iff.2 hg; omega
        · omega
      · rw [List.count_eq_zero_of_not_mem hg]; omega
    have hdv : ∀ g ∈ l, Cg p g (pw (xX p) (p ^ n)) (xX p) := fun g hg => by
      unfold Cg
      rw [← f4, el, dx_iff]
      exact dv_prodL_mem hP (fun x hx => (hl x hx).irr.pol) hg
    refine Classical.byContradiction fun hno => ?_
    have hdeg : ∀ g ∈ l, g.length - 1 < n := fun g hg => by
      have h5 := deg_le hP (hl g hg).irr h1 (hdv g hg)
      have h6 := (hl g hg).irr.two
      refine Nat.lt_of_le_of_ne h5 fun e => hno ⟨g, hl g hg, by omega⟩
    -- the product of the lesser ones
    obtain ⟨Ws, hWs⟩ : ∃ Ws, Ws = (List.range (n - 1)).map fun j => difP p (xN' p (p ^ (j + 1))) [0, 1] := ⟨_, rfl⟩
    have hW : ∀ j, j < n - 1 → Pol p (difP p (xN' p (p ^ (j + 1))) [0, 1]) ∧ (difP p (xN' p (p ^ (j + 1))) [0, 1]).length = p ^ (j + 1) + 1 ∧ ev p (difP p (xN' p (p ^ (j + 1))) [0, 1]) = pw (xX p) (p ^ (j + 1)) - xX p := fun j _ => xD_is hP (Nat.le_trans hp2 (hpow (j + 1) (by omega)))
    have hWp : ∀ w ∈ Ws, Pol p w ∧ w.length ≠ 0 := fun w hw => by
      rw [hWs] at hw
      obtain ⟨j, hj, rfl⟩ := List.mem_map.1 hw
      have := hW j (List.mem_range.1 hj)
      exact ⟨this.1, by omega⟩
    have hall : DX p (prodL p l) (ev p (prodL p Ws)) := by
      refine dx_prodL hP (IsP.ev (prodL_pol hP fun w hw => (hWp w hw).1)) hln hl fun g hg => ?_
      have h5 := hdeg g hg
      have h6 := (hl g hg).irr.two
      obtain ⟨j, hj⟩ : ∃ j, g.length - 1 = j + 1 := ⟨g.length - 2, by omega⟩
      have hmem : difP p (xN' p (p ^ (j + 1))) [0, 1] ∈ Ws := by rw [hWs]; exact List.mem_map.2 ⟨j, List.mem_range.2 (by omega), rfl⟩
      have h7 : DX p g (ev p (difP p (xN' p (p ^ (j + 1))) [0, 1])) := by
        rw [(hW j (by omega)).2.2]
        have := fermat hP (hl g hg).irr (pol_xx hP)
        rwa [ev_xx, hj] at this
      exact dx_iff.2 ((dx_iff.1 h7).trans hP (dv_prodL_mem hP (fun w hw => (hWp w hw).1) hmem))
    have hFW : Dv p F (prodL p Ws) := by
      rw [← dx_iff]
      unfold DX at hall ⊢
      rw [el]; exact hall
    have hWl := prodL_len hP hWp
    have hle := (hFW.len hP f1 (prodL_pol hP fun w hw => (hWp w hw).1) (by omega)).1
    have hsum : (Ws.map fun g => g.length - 1) = (List.range (n - 1)).map fun j => p ^ (j + 1) := by
      rw [hWs, List.map_map]
      refine List.map_congr_left fun j hj => ?_
      show (difP p (xN' p (p ^ (j + 1))) [0, 1]).length - 1 = _
      rw [(hW j (List.mem_range.1 hj)).2.1]; omega
    rw [hsum] at hWl
    have hlt := sum_pow_lt hp2 (n - 1)
    rw [show n - 1 + 1 = n by omega] at hlt
    omega

end Q
end Go.Proofs.YtbehihanhfmmhaaGreat

namespace Go.Proofs.YtbehihanhfmmhaaGreat
open Go.RowKit

theorem Q.mobL_get {L : List (Nat × Nat)} {k : Nat} (h : k < L.length) : Q.mobL (L.drop k) = if 1 < L[k].2 then 0 else - Q.mobL (L.drop (k + 1)) := by
  rw [List.drop_eq_getElem_cons h, Q.mobL]

theorem flat_exp {L : List (Nat × Nat)} {k : Nat} (h : k < L.length) : (flat L)[k * 2 + 1]? = some (.int .i64 (L[k].2 : Int)) := by
  induction L generalizing k with
  | nil => simp at h
  | cons x L ih =>
    have e : flat (x :: L) = .int .i64 (x.1 : Int) :: .int .i64 (x.2 : Int) :: flat L := rfl
    cases k with
    | zero => rw [e]; rfl
    | succ k =>
      rw [e, show (k + 1) * 2 + 1 = (k * 2 + 1) + 1 + 1 by omega, List.getElem?_cons_succ, List.getElem?_cons_succ, ih (by simpa using h)]
      rfl

end Go.Proofs.YtbehihanhfmmhaaGreat
namespace Go.Proofs.YtbehihanhfmmhaaGreat
open Go.RowKit

set_option maxRecDepth 100000 in
set_option maxHeartbeats 4000000 in
theorem rpower_is (p n : Nat) (F W0 : List Nat) (v1 v2 : Value) (w : World) (hP : Hid (M.Pr p)) (hp2 : p ≤ 1021) (hn : n ≤ 1000000) (h1 : Hid (Rd w v1 1 F.length (nats F))) (h2 : Hid (Rd w v2 1 W0.length (nats W0)))
    (hF : Hid (Q.Pol p F)) (hM : Hid (Q.Pol p W0)) (hl1 : F.length ≤ 40000) (hl2 : W0.length ≤ 40000) (hm2 : 2 ≤ W0.length) :
    Calls Tryz.prog 23 #[.int .i64 p, v1, .int .i64 n, v2] w (RetL w (Q.raiseLoop p W0 n [1] (Q.remP p F W0) n)) := by
  have hp : 2 ≤ p := hP.out.1
  obtain ⟨a1, c1, hv1⟩ := h1.out.shape
  obtain ⟨a2, c2, hv2⟩ := h2.out.shape
  subst hv1 hv2
  obtain ⟨fin, hfin⟩ : ∃ fin, fin = Q.raiseLoop p W0 n [1] (Q.remP p F W0) n := ⟨_, rfl⟩
  have HF0 := Lib.hid hfin
  rw [← hfin]
  have HB0 : Hid (Below w.heap.size w (w.alloc (.cells #[.int .i64 1] 3))) := (Below.refl _ _).alloc (Nat.le_refl _) _
  have HN0 : Hid (NewL w (w.alloc (.cells #[.int .i64 1] 3)) (.slice (some ⟨w.heap.size, 0, none⟩) 1 1) [1]) := lit1_own w 1
  have HR1 : Hid (Rd (w.alloc (.cells #[.int .i64 1] 3)) (.slice a1 F.length c1) 1 F.length (nats F)) := h1.out.below HB0.out (Nat.le_refl _)
  have HR2 : Hid (Rd (w.alloc (.cells #[.int .i64 1] 3)) (.slice a2 W0.length c2) 1 W0.length (nats W0)) := h2.out.below HB0.out (Nat.le_refl _)
  have HD0 := Lib.hid (Q.div_is hP.out hF.out hM.out (by omega))
  have HP1 : Hid (Q.Pol p [1]) := Q.pol_one hP.out
  clear hfin h1
  go_enter Tryz.func23, Tryz.ntmps23
  go_wp2_with (fail)
  refine (rDiv_is p F W0 _ _ _ hP hp2 HR1 HR2 hF hM (by omega) (by omega)).mono ?_
  rintro e w1 ⟨⟨vq, vr, rfl, hNq, hNr⟩, hB1⟩
  have HB1 := Lib.hid (HB0.out.trans (hB1.mono HB0.out.size))
  have HO1 : Hid (NewL w w1 (.slice (some ⟨w.heap.size, 0, none⟩) 1 1) [1]) := HN0.out.keep hB1
  have HS1 : Hid (NewL w w1 vr (Q.remP p F W0)) := hNr.from HB0.out.size
  obtain ⟨aq, cq, hvq⟩ := hNq.rd.shape
  obtain ⟨ar, cr, hvr⟩ := hNr.rd.shape
  subst hvq hvr
  have HPS : Hid (Q.Pol p (Q.remP p F W0)) := HD0.out.rpol
  have hls : (Q.remP p F W0).length < W0.length := HD0.out.rlen
  clear hNq hNr hB1 HR1 HR2 HN0
  go_wp2_with (fail)
  go_loopw [9, 1, 2] (fun ov sv nv wx => ∃ (e g m1 m2 cp1 cp2 : Nat) (b1 b2 : Option Addr) (r s : List Nat), ov = .slice b1 m1 cp1 ∧ sv = .slice b2 m2 cp2 ∧ nv = .int .i64 e ∧ e ≤ g ∧ e ≤ n ∧ Hid (Q.raiseLoop p W0 g r s e = fin) ∧ Hid (m1 = r.length ∧ m2 = s.length) ∧ Hid (Q.Pol p r ∧ r.length < W0.length ∧ Q.Pol p s ∧ s.length < W0.length) ∧ Hid (NewL w wx (.slice b1 m1 cp1) r) ∧ Hid (NewL w wx (.slice b2 m2 cp2) s) ∧ Hid (Below w.heap.size w wx)) (fun _ _ nv _ => (intOf nv).toNat)
  case atStart => exact ⟨n, n, 1, _, 1, cr, _, ar, [1], _, rfl, rfl, rfl, by omega, by omega, HF0.out.symm, ⟨rfl, rfl⟩, ⟨HP1.out, by simp; omega, HPS.out, hls⟩, HO1, HS1, HB1⟩
  case round =>
    obtain ⟨e, g, m1, m2, cp1, cp2, b1, b2, r, s, rfl, rfl, rfl, heg, hen, HE, HM, HQ, HNR, HNS, HB⟩ := hrel
    by_cases he : 0 < e
    · obtain ⟨g', hg⟩ : ∃ g', g = g' + 1 := ⟨g - 1, by omega⟩
      have hpr := HQ.out.1
      have hrl := HQ.out.2.1
      have hps := HQ.out.2.2.1
      have hsl := HQ.out.2.2.2
      have HPR := Lib.hid hpr
      have HPSS := Lib.hid hps
      have HEE : Hid (Q.raiseLoop p W0 g' (if e % 2 = 1 then Q.remP p (Q.prodP' p r s) W0 else r) (Q.remP p (Q.prodP' p s s) W0) (e / 2) = fin) := by
        have h := HE.out
        rw [hg, Q.raiseLoop, if_neg (by omega)] at h; exact h
      have HPP : Hid (Q.Pol p (Q.prodP' p r s)) := Q.pol_prod hP.out hpr hps
      have HPP2 : Hid (Q.Pol p (Q.prodP' p s s)) := Q.pol_prod hP.out hps hps
      have hpl1 : (Q.prodP' p r s).length ≤ 80000 := by
        by_cases h0 : r.length = 0 ∨ s.length = 0
        · rw [Q.prod_nil h0]; simp
        · rw [Q.prod_length (by omega) (by omega)]; omega
      have hpl2 : (Q.prodP' p s s).length ≤ 80000 := by
        by_cases h0 : s.length = 0 ∨ s.length = 0
        · rw [Q.prod_nil h0]; simp
        · rw [Q.prod_length (by omega) (by omega)]; omega
      have HD1 := Lib.hid (Q.div_is hP.out HPP.out hM.out (by omega))
      have HD2 := Lib.hid (Q.div_is hP.out HPP2.out hM.out (by omega))
      have HRR : Hid (Rd wr (.slice b1 m1 cp1) 1 r.length (nats r)) := HNR.out.rd
      have HRS : Hid (Rd wr (.slice b2 m2 cp2) 1 s.length (nats s)) := HNS.out.rd
      have HRM : Hid (Rd wr (.slice a2 W0.length c2) 1 W0.length (nats W0)) := h2.out.below HB.out (Nat.le_refl _)
      obtain ⟨e2, he2⟩ : ∃ e2, e2 = e / 2 := ⟨_, rfl⟩
      have q1 : (e : Int) / 2 = (e2 : Int) := by rw [he2]; rfl
      have q2 : (e : Int).tdiv 2 = (e2 : Int) := by rw [he2]; rfl
      have he2a : e2 ≤ g' := by omega
      have he2b : e2 ≤ n := by omega
      have he2c : e2 < e := by omega
      rw [← he2] at HEE
      have hgt : (0 : Int) < (e : Int) := by omega
      by_cases hodd : e % 2 = 1
      · have t1 : ((e : Int) % 2 == 1) = true := by rw [beq_iff_eq]; omega
        have t2 : ((e : Int).tmod 2 == 1) = true := by rw [beq_iff_eq, Int.tmod_eq_emod_of_nonneg (by omega)]; omega
        rw [if_pos hodd] at HEE
        clear HE hg hpr hps he2 hodd HM HQ
        go_wp2_with (fail)
        refine (rMul_is p r s _ _ _ hP hp2 HRR HRS HPR HPSS (by omega) (by omega)).mono ?_
        rintro z u1 ⟨⟨vp, rfl, hNp⟩, hC1⟩
        have HRP : Hid (Rd u1 vp 1 (Q.prodP' p r s).length (nats (Q.prodP' p r s))) := hNp.rd
        obtain ⟨ap, cpp, hvp⟩ := hNp.rd.shape
        subst hvp
        have HC1 := Lib.hid hC1
        have HRM1 : Hid (Rd u1 (.slice a2 W0.length c2) 1 W0.length (nats W0)) := HRM.out.below hC1 (Nat.le_refl _)
        clear hNp hC1
        go_wp2_with (fail)
        refine (rDiv_is p (Q.prodP' p r s) W0 _ _ _ hP hp2 HRP HRM1 HPP hM (by omega) (by omega)).mono ?_
        rintro z u2 ⟨⟨vq, vr, rfl, hNq, hNr⟩, hC2⟩
        have HC2 := Lib.hid (HC1.out.trans (hC2.mono HC1.out.size))
        have HNR2 : Hid (NewL w u2 vr (Q.remP p (Q.prodP' p r s) W0)) := hNr.from (Nat.le_trans HB.out.size HC1.out.size)
        obtain ⟨aq, cq, hvq⟩ := hNq.rd.shape
        obtain ⟨ar2, cr2, hvr2⟩ := hNr.rd.shape
        subst hvq hvr2
        have HRS2 : Hid (Rd u2 (.slice b2 m2 cp2) 1 s.length (nats s)) := HRS.out.below HC2.out (Nat.le_refl _)
        have HRM2 : Hid (Rd u2 (.slice a2 W0.length c2) 1 W0.length (nats W0)) := HRM.out.below HC2.out (Nat.le_refl _)
        clear hNq hNr hC2
        go_wp2_with (fail)
        refine (rMul_is p s s _ _ _ hP hp2 HRS2 HRS2 HPSS HPSS (by omega) (by omega)).mono ?_
        rintro z u3 ⟨⟨vp, rfl, hNp⟩, hC3⟩
        have HRP3 : Hid (Rd u3 vp 1 (Q.prodP' p s s).length (nats (Q.prodP' p s s))) := hNp.rd
        obtain ⟨ap3, cpp3, hvp3⟩ := hNp.rd.shape
        subst hvp3
        have HC3 := Lib.hid (HC2.out.trans (hC3.mono HC2.out.size))
        have HRM3 : Hid (Rd u3 (.slice a2 W0.length c2) 1 W0.length (nats W0)) := HRM2.out.below hC3 (Nat.le_refl _)
        have HNR3 := Lib.hid (HNR2.out.keep hC3)
        clear hNp hC3
        go_wp2_with (fail)
        refine (rDiv_is p (Q.prodP' p s s) W0 _ _ _ hP hp2 HRP3 HRM3 HPP2 hM (by omega) (by omega)).mono ?_
        rintro z u4 ⟨⟨vq, vr, rfl, hNq, hNr⟩, hC4⟩
        have HC4 := Lib.hid (HB.out.trans ((HC3.out.trans (hC4.mono HC3.out.size)).mono HB.out.size))
        have HNS4 : Hid (NewL w u4 vr (Q.remP p (Q.prodP' p s s) W0)) := hNr.from (Nat.le_trans HB.out.size HC3.out.size)
        have HNR4 : Hid (NewL w u4 (.slice ar2 (Q.remP p (Q.prodP' p r s) W0).length cr2) (Q.remP p (Q.prodP' p r s) W0)) := HNR3.out.keep hC4
        obtain ⟨aq4, cq4, hvq4⟩ := hNq.rd.shape
        obtain ⟨ar4, cr4, hvr4⟩ := hNr.rd.shape
        subst hvq4 hvr4
        have HQ4 : Hid (Q.Pol p (Q.remP p (Q.prodP' p r s) W0) ∧ (Q.remP p (Q.prodP' p r s) W0).length < W0.length ∧ Q.Pol p (Q.remP p (Q.prodP' p s s) W0) ∧ (Q.remP p (Q.prodP' p s s) W0).length < W0.length) := ⟨HD1.out.rpol, HD1.out.rlen, HD2.out.rpol, HD2.out.rlen⟩
        clear hNq hNr hC4
        go_wp2_with (fail)
        go_roundw
        case rel => exact ⟨e2, g', _, _, cr2, cr4, ar2, ar4, _, _, rfl, rfl, rfl, he2a, he2b, HEE, ⟨rfl, rfl⟩, HQ4, HNR4, HNS4, HC4⟩
        case measure => simp [intOf]; omega
      · have t1 : ((e : Int) % 2 == 1) = false := by rw [beq_eq_false_iff_ne]; omega
        have t2 : ((e : Int).tmod 2 == 1) = false := by rw [beq_eq_false_iff_ne, Int.tmod_eq_emod_of_nonneg (by omega)]; omega
        rw [if_neg hodd] at HEE
        clear HE hg hpr hps he2 hodd HQ
        go_wp2_with (fail)
        refine (rMul_is p s s _ _ _ hP hp2 HRS HRS HPSS HPSS (by omega) (by omega)).mono ?_
        rintro z u3 ⟨⟨vp, rfl, hNp⟩, hC3⟩
        have HRP3 : Hid (Rd u3 vp 1 (Q.prodP' p s s).length (nats (Q.prodP' p s s))) := hNp.rd
        obtain ⟨ap3, cpp3, hvp3⟩ := hNp.rd.shape
        subst hvp3
        have HC3 := Lib.hid hC3
        have HRM3 : Hid (Rd u3 (.slice a2 W0.length c2) 1 W0.length (nats W0)) := HRM.out.below hC3 (Nat.le_refl _)
        have HNR3 := Lib.hid (HNR.out.keep hC3)
        clear hNp hC3
        go_wp2_with (fail)
        refine (rDiv_is p (Q.prodP' p s s) W0 _ _ _ hP hp2 HRP3 HRM3 HPP2 hM (by omega) (by omega)).mono ?_
        rintro z u4 ⟨⟨vq, vr, rfl, hNq, hNr⟩, hC4⟩
        have HC4 := Lib.hid (HB.out.trans ((HC3.out.trans (hC4.mono HC3.out.size)).mono HB.out.size))
        have HNS4 : Hid (NewL w u4 vr (Q.remP p (Q.prodP' p s s) W0)) := hNr.from (Nat.le_trans HB.out.size HC3.out.size)
        have HNR4 : Hid (NewL w u4 (.slice b1 m1 cp1) r) := HNR3.out.keep hC4
        obtain ⟨aq4, cq4, hvq4⟩ := hNq.rd.shape
        obtain ⟨ar4, cr4, hvr4⟩ := hNr.rd.shape
        subst hvq4 hvr4
        have HQ4 : Hid (Q.Pol p r ∧ r.length < W0.length ∧ Q.Pol p (Q.remP p (Q.prodP' p s s) W0) ∧ (Q.remP p (Q.prodP' p s s) W0).length < W0.length) := ⟨HPR.out, hrl, HD2.out.rpol, HD2.out.rlen⟩
        have HM4 : Hid (m1 = r.length) := HM.out.1
        clear hNq hNr hC4
        go_wp2_with (fail)
        go_roundw
        case rel => exact ⟨e2, g', m1, _, cp1, cr4, b1, ar4, r, _, rfl, rfl, rfl, he2a, he2b, HEE, ⟨HM4.out, rfl⟩, HQ4, HNR4, HNS4, HC4⟩
        case measure => simp [intOf]; omega
    · have he0 : e = 0 := by omega
      subst he0
      have HRF : Hid (NewL w wr (.slice b1 m1 cp1) fin) := by
        have h := HE.out
        have hr : r = fin := by
          cases g with
          | zero => exact h
          | succ g => rw [Q.raiseLoop, if_pos rfl] at h; exact h
        show NewL _ _ _ _
        rw [← hr]; exact HNR.out
      clear HE HM HQ HNR HNS
      go_wp2_with (fail)
      go_ret
      exact ⟨⟨_, rfl, HRF.out⟩, HB.out⟩

theorem flat_prime {L : List (Nat × Nat)} {k : Nat} (h : k < L.length) : (flat L)[k * 2]? = some (.int .i64 (L[k].1 : Int)) := by
  induction L generalizing k with
  | nil => simp at h
  | cons x L ih =>
    have e : flat (x :: L) = .int .i64 (x.1 : Int) :: .int .i64 (x.2 : Int) :: flat L := rfl
    cases k with
    | zero => rw [e]; rfl
    | succ k =>
      rw [e, show (k + 1) * 2 = (k * 2) + 1 + 1 by omega, List.getElem?_cons_succ, List.getElem?_cons_succ, ih (by simpa using h)]
      rfl

theorem Q.irr_two {p : Nat} {f : List Nat} (hP : M.Pr p) (hf : Q.Pol p f) (h : f.length = 2) : Q.Irr p f :=
  ⟨hf, by omega, fun d hd hdv => by
    have := hdv.len hP hd hf (by omega)
    have h0 : d.length ≠ 0 := this.2
    omega⟩

set_option maxRecDepth 100000 in
set_option maxHeartbeats 8000000 in
theorem rIrr_is (p : Nat) (F : List Nat) (v : Value) (t : Bool) (w : World) (hP : Hid (M.Pr p)) (hp2 : p ≤ 1021) (hr : Hid (Rd w v 1 F.length (nats F))) (hF : Hid (Q.Pol p F)) (hl : F.length ≤ 34) (ht : Hid (Q.Irr p F ↔ t = true)) :
    Calls Tryz.prog 10 #[.int .i64 p, v] w fun x w' => x = .returned (.bool t) ∧ Below w.heap.size w w' := by
  have hp : 2 ≤ p := hP.out.1
  obtain ⟨a, c, hv⟩ := hr.out.shape
  subst hv
  by_cases h1 : F.length < 2
  · have HT : Hid (false = t) := by
      cases t with
      | false => rfl
      | true => have := (ht.out.2 rfl).two; omega
    have hd : decide ((F.length : Int) - 1 < 1) = true := by rw [decide_eq_true_iff]; omega
    have hd2 : (F.length : Int) - 1 < 1 := by omega
    clear h1
    go_enter Tryz.func10, Tryz.ntmps10
    go_wp2_with (fail)
    go_ret
    exact ⟨by rw [← HT.out]; rfl, Below.refl _ _⟩
  · obtain ⟨n, hn⟩ : ∃ n, F.length = n + 1 := ⟨F.length - 1, by omega⟩
    have HN := Lib.hid hn
    have HR0 : Hid (Rd w (.slice a (n + 1) c) 1 F.length (nats F)) := by show Rd _ _ _ _ _; rw [← hn]; exact hr.out
    rw [hn] at hl ⊢
    have hn1 : ((n + 1 : Nat) : Int) - 1 = (n : Int) := by omega
    have hnm : (n : Int) + 1 - 1 = (n : Int) := by omega
    have hd : decide ((n : Int) < 1) = false := by rw [decide_eq_false_iff_not]; omega
    by_cases h2 : n = 1
    · have HT : Hid (true = t) := (ht.out.1 (Q.irr_two hP.out hF.out (by omega))).symm
      have hd2 : ((n : Int) == 1) = true := by simp [h2]
      clear h1 h2 hn
      go_enter Tryz.func10, Tryz.ntmps10
      go_wp2_with (fail)
      go_ret
      exact ⟨by rw [← HT.out]; rfl, Below.refl _ _⟩
    · have hd2 : ((n : Int) == 1) = false := by rw [beq_eq_false_iff_ne]; omega
      have hn2 : 2 ≤ n := by omega
      have HRAB := Lib.hid (Q.rab_iff hP.out hF.out hn hn2)
      have HY := Lib.hid (Q.yR_is hP.out hF.out (by omega))
      obtain ⟨L, hL0⟩ := M.exists_fac n (by omega)
      have hL : Hid (M.IsFac (n : Int).toNat L) := by rw [Int.toNat_natCast]; exact hL0
      have HLF := Lib.hid hL0
      have hlen : L.length ≤ 30 := hL0.1.length_le (by rw [hL0.2]; omega)
      have HXP : Hid (Q.Pol p [0, 1]) := Q.pol_xx hP.out
      have HBX : Hid (Below w.heap.size w (w.alloc (.cells #[.int .i64 0, .int .i64 1] 3))) := (Below.refl _ _).alloc (Nat.le_refl _) _
      have HRX : Hid (Rd (w.alloc (.cells #[.int .i64 0, .int .i64 1] 3)) (.slice (some ⟨w.heap.size, 0, none⟩) 2 2) 1 [0, 1].length (nats [0, 1])) := lit2 w 0 1 3
      clear h1 h2 hn hL0
      go_enter Tryz.func10, Tryz.ntmps10
      go_wp2_with (fail)
      refine (refFactor_any (n : Int) L _ (by omega) (by omega) hL).mono ?_
      rintro e w1 ⟨⟨vl, rfl, hown⟩, hB⟩
      have HB1 := Lib.hid (HBX.out.trans (hB.mono HBX.out.size))
      have HRX1 : Hid (Rd w1 (.slice (some ⟨w.heap.size, 0, none⟩) 2 2) 1 [0, 1].length (nats [0, 1])) := HRX.out.below hB (Nat.le_refl _)
      have hrd := Rd.of_own hown
      obtain ⟨hfl, al, capl, hvl, hcapl, hcell⟩ := hrd
      subst hvl
      obtain ⟨m, hm⟩ : ∃ m, m = L.length := ⟨_, rfl⟩
      have HC : Hid (∀ k (h : k < L.length), ∃ b, al = some ⟨b, 0, none⟩ ∧ b < w1.heap.size ∧ w1.cell? ⟨b, k * 2, none⟩ = some (.int .i64 (L[k].1 : Int))) := fun k h => by
        rcases hcell with h0 | ⟨b, rfl, hb, hc⟩
        · omega
        · exact ⟨b, rfl, hb, hc _ _ (flat_prime h)⟩
      have HM := Lib.hid hm
      have HRF1 : Hid (Rd w1 (.slice a (n + 1) c) 1 F.length (nats F)) := HR0.out.below HB1.out (Nat.le_refl _)
      rw [← hm] at hlen hcapl ⊢
      clear hown hB hcell hfl hm
      have hmN : (n : Int) < (n : Int) + 1 := by omega
      go_wp2_with (fail)
      go_loopw [8, 9] (fun yv kv wx => ∃ (K k m1 cp : Nat) (b1 : Option Addr), yv = .slice b1 m1 cp ∧ kv = .int .i64 K ∧ k ≤ n ∧ K ≤ n + 1 ∧ Hid (K = k + 1) ∧ Hid (m1 = (Q.yR p F k).length) ∧ Hid (Rd wx (.slice b1 m1 cp) 1 (Q.yR p F k).length (nats (Q.yR p F k))) ∧ Hid (∀ q, M.Pr q → q ∣ n → n / q ≤ k → (Q.gcdP p F (Q.difP p (Q.yR p F (n / q)) [0, 1])).length ≤ 1) ∧ Hid (Below w1.heap.size w1 wx)) (fun _ kv _ => n + 1 - (intOf kv).toNat)
      case atStart => exact ⟨1, 0, 2, 2, _, rfl, by first | rfl | go_num, by omega, by omega, rfl, rfl, HRX1, (fun q hq hqn h => absurd (Nat.div_pos (Nat.le_of_dvd (by omega) hqn) (by have := hq.1; omega)) (by omega)), Below.refl _ _⟩
      case round =>
        obtain ⟨K, k, m1, cp, b1, rfl, rfl, hk, hKn, HKk, HMY, HRY, HG, HB⟩ := hrel
        have HRF : Hid (Rd wr (.slice a (n + 1) c) 1 F.length (nats F)) := HRF1.out.below HB.out (Nat.le_refl _)
        have HRX2 : Hid (Rd wr (.slice (some ⟨w.heap.size, 0, none⟩) 2 2) 1 [0, 1].length (nats [0, 1])) := HRX1.out.below HB.out (Nat.le_refl _)
        by_cases hlt : k < n
        · have hle2 : K ≤ n := by have := HKk.out; omega
          obtain ⟨hy1, hy2, _⟩ := HY.out k
          have HPY := Lib.hid hy1
          obtain ⟨hz1, hz2, _⟩ := HY.out (k + 1)
          have HPZ := Lib.hid hz1
          have hyl : (Q.yR p F k).length ≤ 34 := by have := HN.out; omega
          have hzl : (Q.yR p F (k + 1)).length ≤ 34 := by have := HN.out; omega
          have hF2 : 2 ≤ F.length := by have := HN.out; omega
          have hF34 : F.length ≤ 34 := by have := HN.out; omega
          clear hy1 hy2 hz1 hz2
          go_wp2_with (fail)
          refine (rpower_is p p (Q.yR p F k) F _ _ _ hP hp2 (by omega) HRY HRF HPY hF (by omega) (by omega) hF2).mono ?_
          rintro e w3 ⟨⟨vy, rfl, hNy⟩, hB3⟩
          have hye : Q.raiseLoop p F p [1] (Q.remP p (Q.yR p F k) F) p = Q.yR p F (k + 1) := rfl
          rw [hye] at hNy
          have HB3 := Lib.hid (HB.out.trans (hB3.mono HB.out.size))
          have HRY3 : Hid (Rd w3 vy 1 (Q.yR p F (k + 1)).length (nats (Q.yR p F (k + 1)))) := hNy.rd
          obtain ⟨by3, cy3, hvy⟩ := hNy.rd.shape
          subst hvy
          have HRF3 : Hid (Rd w3 (.slice a (n + 1) c) 1 F.length (nats F)) := HRF.out.below hB3 (Nat.le_refl _)
          have HRX3 : Hid (Rd w3 (.slice (some ⟨w.heap.size, 0, none⟩) 2 2) 1 [0, 1].length (nats [0, 1])) := HRX2.out.below hB3 (Nat.le_refl _)
          obtain ⟨Y, hY⟩ : ∃ Y, Y = Q.yR p F (k + 1) := ⟨_, rfl⟩
          rw [← hY] at HRY3 HPZ hzl ⊢
          have HYE := Lib.hid hY
          obtain ⟨D, hD⟩ : ∃ D, D = Q.difP p Y [0, 1] := ⟨_, rfl⟩
          obtain ⟨G, hG⟩ : ∃ G, G = Q.gcdP p F D := ⟨_, rfl⟩
          have HPD : Hid (Q.Pol p D) := by rw [hD]; exact Q.pol_dif (by omega) _ _
          have hDl : D.length ≤ 34 := by rw [hD]; have := Q.dif_len (p := p) (by omega) (f := Y) (g := [0, 1]); simp at this; omega
          have HDE := Lib.hid hD
          have HGE := Lib.hid hG
          have HG0 : Hid (∀ i (h : i < L.length), i < 0 → k + 1 = n / L[i].1 → G.length ≤ 1) := fun i h h0 => by omega
          clear hNy hB3 hye hY hD hG HRY HMY HPY
          go_wp2_with (fail)
          go_loopw [10] (fun iv wx => ∃ (i : Nat), iv = .int .i64 i ∧ i ≤ m ∧ Hid (∀ j (h : j < L.length), j < i → k + 1 = n / L[j].1 → G.length ≤ 1) ∧ Hid (Below w3.heap.size w3 wx)) (fun iv _ => m - (intOf iv).toNat)
          case atStart => exact ⟨0, rfl, by omega, HG0, Below.refl _ _⟩
          case round =>
            obtain ⟨i, rfl, hi, HI, HBi⟩ := hrel
            have HB13 := Lib.hid (HB3.out.trans (HBi.out.mono HB3.out.size))
            by_cases him : i < m
            · have hiL : i < L.length := by have := HM.out; omega
              obtain ⟨bl, hbl, hbs, hcl⟩ := HC.out i hiL
              subst hbl
              have hcl2 : wr.cell? ⟨bl, i * 2, none⟩ = some (.int .i64 (L[i].1 : Int)) := by rw [HB13.out.cell (p := ⟨bl, i * 2, none⟩) hbs]; exact hcl
              have hgq := HLF.out.1.gt L[i] (List.getElem_mem hiL)
              obtain ⟨q, hq⟩ : ∃ q, q = L[i].1 := ⟨_, rfl⟩
              rw [← hq] at hcl2 hgq
              have hq2 : 2 ≤ q := hgq.2.1.1
              have hqd : q ∣ n := by
                have := M.dvd_prodP (List.getElem_mem hiL) hgq.2.2
                rw [HLF.out.2, ← hq] at this; exact this
              have hqle : q ≤ n := Nat.le_of_dvd (by omega) hqd
              obtain ⟨d, hdd⟩ : ∃ d, d = n / q := ⟨_, rfl⟩
              have hdle : d ≤ n := by rw [hdd]; exact Nat.div_le_self _ _
              have z1 : (n : Int) / (q : Int) = (d : Int) := by rw [hdd]; rfl
              have z2 : (n : Int).tdiv (q : Int) = (d : Int) := by rw [hdd]; rfl
              have hzq : ((q : Int) == 0) = false := by rw [beq_eq_false_iff_ne]; omega
              have HQP : Hid (M.Pr q) := hgq.2.1
              have HQD := Lib.hid hqd
              have HDD := Lib.hid hdd
              have HQE := Lib.hid hq
              clear hcl hgq hq hqd hdd
              by_cases hkd : k + 1 = d
              · have t1 : ((K : Int) == (d : Int)) = true := by rw [beq_iff_eq]; have := HKk.out; omega
                have HRYi : Hid (Rd wr (.slice by3 Y.length cy3) 1 Y.length (nats Y)) := HRY3.out.below HBi.out (Nat.le_refl _)
                have HRXi : Hid (Rd wr (.slice (some ⟨w.heap.size, 0, none⟩) 2 2) 1 [0, 1].length (nats [0, 1])) := HRX3.out.below HBi.out (Nat.le_refl _)
                have HKD := Lib.hid hkd
                clear hkd
                go_wp2_with (fail)
                refine (rSub_is p Y [0, 1] _ _ _ hp hp2 HRYi HRXi (Lib.hid HPZ.out.red) (Lib.hid HXP.out.red) (by omega) (by simp)).mono ?_
                rintro e w4 ⟨⟨vd, rfl, hNd⟩, hB4⟩
                rw [← HDE.out] at hNd
                have HRD4 : Hid (Rd w4 vd 1 D.length (nats D)) := hNd.rd
                obtain ⟨bd, cd, hvd⟩ := hNd.rd.shape
                subst hvd
                have HB4 := Lib.hid (HBi.out.trans (hB4.mono HBi.out.size))
                have HRF4 : Hid (Rd w4 (.slice a (n + 1) c) 1 F.length (nats F)) := HRF3.out.below HB4.out (Nat.le_refl _)
                clear hNd hB4
                go_wp2_with (fail)
                refine (rgcd_is p F D _ _ _ hP hp2 HRF4 HRD4 hF HPD (by omega) (by omega)).mono ?_
                rintro e w5 ⟨⟨vg, rfl, hNg⟩, hB5⟩
                rw [← HGE.out] at hNg
                obtain ⟨bg, cg, hvg⟩ := hNg.rd.shape
                subst hvg
                have HB5 := Lib.hid (HB4.out.trans (hB5.mono HB4.out.size))
                have HBW := Lib.hid (HB1.out.trans ((HB3.out.trans (HB5.out.mono HB3.out.size)).mono HB1.out.size))
                obtain ⟨gl, hgl⟩ : ∃ gl, gl = G.length := ⟨_, rfl⟩
                rw [← hgl]
                have HGL := Lib.hid hgl
                clear hNg hB5 hgl
                by_cases hg1 : 1 < gl
                · have HT : Hid (false = t) := by
                    cases t with
                    | false => rfl
                    | true =>
                      have h5 := (HRAB.out.2 (ht.out.2 rfl)).gcds q HQP.out HQD.out
                      rw [← HDD.out, ← HKD.out, ← HYE.out, ← HDE.out, ← HGE.out, ← HGL.out] at h5
                      omega
                  have t2 : decide ((1 : Int) < (gl : Int)) = true := by rw [decide_eq_true_iff]; omega
                  clear hg1
                  go_wp2_with (fail)
                  go_ret
                  exact ⟨by rw [← HT.out]; rfl, HBW.out⟩
                · have t2 : decide ((1 : Int) < (gl : Int)) = false := by rw [decide_eq_false_iff_not]; omega
                  have HI2 : Hid (∀ j (h : j < L.length), j < i + 1 → k + 1 = n / L[j].1 → G.length ≤ 1) := fun j h h1 h2 => by
                    have := HGL.out; omega
                  clear hg1
                  go_wp2_with (fail)
                  go_roundw
                  case rel => exact ⟨i + 1, by go_num, by omega, HI2, HB5⟩
                  case measure => simp [intOf]; omega
              · have t1 : ((K : Int) == (d : Int)) = false := by rw [beq_eq_false_iff_ne]; have := HKk.out; omega
                have HI2 : Hid (∀ j (h : j < L.length), j < i + 1 → k + 1 = n / L[j].1 → G.length ≤ 1) := fun j h h1 h2 => by
                  by_cases e : j = i
                  · subst e
                    rw [← HQE.out, ← HDD.out] at h2
                    exact absurd h2 hkd
                  · exact HI.out j h (by omega) h2
                clear hkd
                go_wp2_with (fail)
                go_roundw
                case rel => exact ⟨i + 1, by go_num, by omega, HI2, HBi⟩
                case measure => simp [intOf]; omega
            · have him2 : i = m := by omega
              subst him2
              have HG2 : Hid (∀ q, M.Pr q → q ∣ n → n / q ≤ k + 1 → (Q.gcdP p F (Q.difP p (Q.yR p F (n / q)) [0, 1])).length ≤ 1) := fun q hq hqn h => by
                by_cases e : n / q = k + 1
                · obtain ⟨x, hx, hxq⟩ := HLF.out.1.mem_of_dvd hq (by rw [HLF.out.2]; exact hqn)
                  obtain ⟨j, hj, rfl⟩ := List.getElem_of_mem hx
                  have h5 := HI.out j hj (by have := HM.out; omega) (by rw [hxq]; exact e.symm)
                  rw [e, ← HYE.out, ← HDE.out, ← HGE.out]; exact h5
                · exact HG.out q hq hqn (by omega)
              have HRYi : Hid (Rd wr (.slice by3 Y.length cy3) 1 (Q.yR p F (k + 1)).length (nats (Q.yR p F (k + 1)))) := by rw [← HYE.out]; exact HRY3.out.below HBi.out (Nat.le_refl _)
              have HMY2 : Hid (Y.length = (Q.yR p F (k + 1)).length) := by show _ = _; rw [HYE.out]
              have HKk2 : Hid (K + 1 = k + 1 + 1) := by have := HKk.out; show _ = _; omega
              clear HI
              go_wp2_with (fail)
              go_roundw
              case rel => exact ⟨K + 1, k + 1, _, cy3, by3, rfl, by go_num, by omega, by omega, HKk2, HMY2, HRYi, HG2, HB13⟩
              case measure => simp [intOf]; omega
        · have hkn : k = n := by omega
          subst hkn
          have hle : ¬ K ≤ k := by have := HKk.out; omega
          have hyl : (Q.yR p F k).length ≤ 34 := by have := (HY.out k).2.1; have := HN.out; omega
          have HT : Hid (Q.yR p F k = [0, 1] ↔ t = true) := by
            rw [← ht.out, ← HRAB.out]
            exact ⟨fun h => ⟨h, fun q hq hqn => HG.out q hq hqn (Nat.div_le_self _ _)⟩, fun h => h.last⟩
          have HBW := Lib.hid (HB1.out.trans (HB.out.mono HB1.out.size))
          clear HG
          go_wp2_with (fail)
          refine (Same_is (Q.yR p F k) [0, 1] _ _ t _ HRY HRX2 (by omega) (by simp) HT).mono ?_
          rintro e w5 ⟨rfl, nn, hw⟩
          have HB5 : Hid (Below w.heap.size w w5) := by rw [hw]; exact below_drewN HBW.out _
          clear hw
          go_wp2_with (fail)
          go_ret
          exact ⟨rfl, HB5.out⟩

end Go.Proofs.YtbehihanhfmmhaaGreat

namespace Go.Proofs.YtbehihanhfmmhaaGreat
open Go.RowKit

theorem LSt.push_drew {w wr w1 : World} {v v' : Value} {F : List Nat} {x k : Nat} {o : Obj} (h : LSt w wr v F) (hk : k = F.length + 1)
    (hown : w1.ownsRow w.heap.size 3 1 v' k (nats F ++ [.int .i64 (x : Int)])) (hg : (wr.alloc o).drew.grownBy w1 v.ownBlock) : LSt w w1 v' (F ++ [x]) := by
  have hlt := h.1.lt
  refine ⟨?_, ((h.2.alloc h.2.size o).drew).grown hg (by have := h.2.size; simp; omega) (fun b hb => by have := (hlt b hb).1; omega)⟩
  unfold NewL
  rw [nats_append, show (F ++ [x]).length = k by simp; omega]
  exact hown

set_option maxRecDepth 100000 in
set_option maxHeartbeats 2000000 in
theorem rDeriv_is (p : Nat) (F : List Nat) (v1 : Value) (w : World) (hp : 2 ≤ p) (hp2 : p ≤ 1021) (h1 : Hid (Rd w v1 1 F.length (nats F))) (hF : Hid (Q.Red p F)) (hl1 : F.length ≤ 100000) :
    Calls Tryz.prog 26 #[.int .i64 p, v1] w (RetL w (Q.deriv p F)) := by
  obtain ⟨_, a1, cap1, rfl, hcap1, _⟩ := h1.out
  have HC1 : Hid (∀ i, i < F.length → ∃ b, a1 = some ⟨b, 0, none⟩ ∧ b < w.heap.size ∧ w.cell? ⟨b, i, none⟩ = some (.int .i64 (F.getD i 0 : Nat))) := fun i hi => h1.out.at i hi
  have hzp : ((p : Int) == 0) = false := by rw [beq_eq_false_iff_ne]; omega
  obtain ⟨C, hC⟩ : ∃ C, C = (List.range (F.length - 1)).map fun i => (i + 1) * F.getD (i + 1) 0 % p := ⟨_, rfl⟩
  obtain ⟨n, hn⟩ : ∃ n, n = F.length := ⟨_, rfl⟩
  have hCg : Hid (∀ j (h : j < C.length), C[j] = (j + 1) * F.getD (j + 1) 0 % p) := fun j hj => by subst hC; simp
  have hCC : Hid (C.length = n - 1 ∧ Q.trim C = Q.deriv p F) := ⟨by rw [hC, hn]; simp, by rw [hC]; rfl⟩
  have HN := Lib.hid hn
  rw [← hn] at hl1 hcap1 ⊢
  clear hC hn h1
  obtain ⟨i0, hi, hz0, hz1, hz2⟩ := info_parts Tryz.infoZ
  go_enter Tryz.func26, Tryz.ntmps26
  go_wp2_with (fail)
  go_loopw [5, 6] (fun lv iv wx => ∃ (k j : Nat), iv = .int .i64 k ∧ Hid (k = j + 1) ∧ Hid (j ≤ n - 1) ∧ Hid (LSt w wx lv (C.take j))) (fun _ iv _ => n - (intOf iv).toNat)
  case atStart => exact ⟨1, 0, rfl, rfl, Nat.zero_le _, by show LSt _ _ _ _; rw [List.take_zero]; exact LSt.start w⟩
  case round =>
    obtain ⟨k, j, rfl, HK, HJ, HS⟩ := hrel
    have hkl : (C.take j).length = j := by rw [List.length_take, hCC.out.1]; have := HJ.out; omega
    obtain ⟨a3, cap3, hv3, hc3, hc4⟩ := HS.out.shape
    subst hv3
    rw [hkl] at HS hc3 ⊢
    by_cases hlt : k < n
    · have hjl : j < C.length := by rw [hCC.out.1]; have := HK.out; omega
      obtain ⟨b1, rfl, hb1, c1'⟩ := HC1.out k (by rw [← HN.out]; exact hlt)
      obtain ⟨x, hx⟩ : ∃ x, x = F.getD k 0 := ⟨_, rfl⟩
      have hxp : x < p := by rw [hx]; exact hF.out.getD (by omega) k
      have c1 : wr.cell? ⟨b1, k, none⟩ = some (.int .i64 (x : Int)) := by rw [HS.out.2.cell (p := ⟨b1, k, none⟩) hb1, c1', hx]
      obtain ⟨r, hr⟩ : ∃ r, r = k % p := ⟨_, rfl⟩
      have hrp : r < p := by rw [hr]; exact Nat.mod_lt _ (by omega)
      have hkr : (k : Int) % (p : Int) = (r : Int) := by rw [hr, Int.natCast_emod]
      have hxy : ((r : Int) * (x : Int)) % (p : Int) = (((r * x) % p : Nat) : Int) := by rw [Int.natCast_emod, Int.natCast_mul]
      have hm := mul_bd1021 r x p hrp hxp hp2
      have hp0 : (p = 0) = False := eq_false (by omega)
      have hkt : (k : Int).tmod (p : Int) = (r : Int) := by rw [Int.tmod_eq_emod_of_nonneg (by omega)]; exact hkr
      have hwr : IntKind.i64.wrap ((r : Int) * (x : Int)) = (r : Int) * (x : Int) := IntWalk.i64_in _ (by omega)
      have hxt : ((r : Int) * (x : Int)).tmod (p : Int) = (((r * x) % p : Nat) : Int) := by rw [Int.tmod_eq_emod_of_nonneg hm.1]; exact hxy
      have hle := HS.out.2.size
      have hk0 : (0 : Int) ≤ (k : Int) := Int.natCast_nonneg _
      have hown1 : (Value.slice a3 j cap3).ownBlock ≠ some b1 := fun e => by
        have h1 := HS.out.1.lt _ e
        omega
      have HT : Hid (C.take (j + 1) = C.take j ++ [(r * x) % p]) := by
        show _ = _
        rw [List.take_succ_eq_append_getElem hjl, hCg.out j hjl, hx, hr, ← HK.out, Nat.mod_mul_mod]
      obtain ⟨z, hz⟩ : ∃ z, z = (r * x) % p := ⟨_, rfl⟩
      rw [← hz] at hxy HT hxt
      have HOWN : Hid (wr.ownsRow w.heap.size 3 1 (.slice a3 j cap3) j (nats (C.take j))) := by
        have := HS.out.1; unfold NewL at this; rw [hkl] at this; exact this
      have HKL := Lib.hid hkl
      have hklt : (k : Int) < (n : Int) := by omega
      have hjk : j < k := by have := HK.out; omega
      clear hx hz hkl c1' hr
      go_wp2_with (fail)
      go_region_held3 (fun w' => w'.cell? ⟨b1, k, none⟩ = some (.int .i64 (x : Int)))
        (first | go_keep | (rw [hgrow.cell_far _ (by simp; omega) (Ne.symm hown1)]; assumption))
        ((refine step_append_lies _ (by rfl) _ _ _ (by rfl) w.heap.size 3 i0 (.int .i64 0) 1 8 Tryz.underlying22 hi hz0 hz1 hz2 rfl (by omega) (.slice a3 j cap3) j (nats (C.take j)) (by rfl) ((HOWN.out.alloc _).drew) ⟨wr.heap.size, 0, none⟩ 1 1 [.int .i64 z] (by rfl) (by rfl) (World.news_of_block (cs := #[.int .i64 z]) (t := 3) (fr := (0, 0)) (heap_alloc_new wr _)) (by simp [Value.oneCell']) (by omega) (by unfold maxLen; omega) (by omega) (by have := HS.out.2.size; simp; omega) (wr.heap.size + 1) (by simp) ?_; intro gg cap w3 hown3 hgrow hat hlt3))
      have HS4 : Hid (LSt w w3 (.slice (some ⟨gg, 0, none⟩) (j + 1) cap) (C.take (j + 1))) := by
        show LSt _ _ _ _
        rw [HT.out]
        exact HS.out.push_drew (by rw [HKL.out]) hown3 hgrow
      clear hown3 hgrow
      go_wp2_with (fail)
      go_roundw
      case rel => exact ⟨k + 1, j + 1, by go_num, by show _ = _; rw [HK.out], by show _ ≤ _; have := hCC.out.1; omega, HS4⟩
      case measure => simp [intOf]; omega
    · have hj : j = C.length := by rw [hCC.out.1]; have h1 := HJ.out; have h2 := HK.out; omega
      have hCt : C.take j = C := List.take_of_length_le (by omega)
      rw [hCt] at HS
      have HRD : Hid (Rd wr (.slice a3 j cap3) 1 C.length (nats C)) := by
        have := HS.out.1.rd
        rw [← hj] at this ⊢
        exact this
      clear hCt hkl hj
      go_wp2_with (fail)
      refine (rtrim_is C _ _ HRD (by rw [hCC.out.1]; omega)).mono ?_
      rintro e w5 ⟨⟨v5, rfl, hN5⟩, hB5⟩
      have HR : Hid (NewL w w5 v5 (Q.deriv p F) ∧ Below w.heap.size w w5) := by
        rw [hCC.out.2] at hN5
        exact ⟨hN5.from HS.out.2.size, HS.out.2.trans (hB5.mono HS.out.2.size)⟩
      obtain ⟨a6, cap6, hv6⟩ := HR.out.1.rd.shape
      subst hv6
      clear hN5 hB5
      go_wp2_with (fail)
      go_ret
      exact ⟨⟨_, rfl, HR.out.1⟩, HR.out.2⟩

end Go.Proofs.YtbehihanhfmmhaaGreat

namespace Go.Proofs.YtbehihanhfmmhaaGreat
open Go.RowKit

theorem add_off (b o i : Nat) : (⟨b, o, none⟩ : Addr).add i = ⟨b, o + i, none⟩ := by unfold Addr.add; split <;> simp_all

set_option maxRecDepth 100000 in
set_option maxHeartbeats 1000000 in
theorem rtrimO_is (F : List Nat) (b o n cap : Nat) (w : World) (hn : n = F.length) (hv : Hid (∀ i, i < F.length → w.cell? ⟨b, o + i, none⟩ = some (.int .i64 (F.getD i 0 : Nat)))) (hb : b < w.heap.size) (hcap : n ≤ cap) (hl : n ≤ 1000000) :
    Calls Tryz.prog 53 #[.slice (some ⟨b, o, none⟩) n cap] w (RetL w (Q.trim F)) := by
  obtain ⟨T, hT⟩ : ∃ T, T = Q.trimLen F := ⟨_, rfl⟩
  have hTn : T ≤ n := by rw [hT, hn]; exact Q.trimLen_le F
  have HT0 : Hid (∀ j, T ≤ j → F.getD j 0 = 0) := fun j hj => Q.trimLen_zero F j (by omega)
  have HT1 : Hid (0 < T → F.getD (T - 1) 0 ≠ 0) := fun h => by rw [hT]; exact Q.trimLen_last F (by omega)
  have HN := Lib.hid (And.intro hn hT)
  clear hn hT
  obtain ⟨i0, hi, hz0, hz1, hz2⟩ := info_parts Tryz.infoZ
  go_enter Tryz.func53, Tryz.ntmps53
  go_wp2_with (fail)
  go_loopw [3] (fun iv wx => ∃ (k : Nat), iv = .int .i64 k ∧ T ≤ k ∧ k ≤ n ∧ wx = w) (fun iv _ => (intOf iv).toNat)
  case atStart => exact ⟨n, rfl, hTn, by omega, rfl⟩
  case round =>
    obtain ⟨k, rfl, hk1, hk2, rfl⟩ := hrel
    by_cases hlt : T < k
    · obtain ⟨j, rfl⟩ : ∃ j, k = j + 1 := ⟨k - 1, by omega⟩
      have c := hv.out j (by have := HN.out.1; omega)
      rw [HT0.out j (by omega)] at c
      have hp : decide ((0 : Int) < ((j + 1 : Nat) : Int)) = true := by rw [decide_eq_true_iff]; omega
      have hj1 : ((j + 1 : Nat) : Int) - 1 = (j : Int) := by omega
      have hj2 : (j : Int) < (n : Int) := by omega
      go_wp2_with (fail)
      go_roundw
      case rel => exact ⟨j, by first | rfl | go_num, by omega, by omega, by first | rfl | trivial⟩
      case measure => simp [intOf]
    · obtain rfl : k = T := by omega
      have HF : Hid ((nats (F.take k)).length = k * 1) := by show _ = _; rw [nats_length, List.length_take, ← HN.out.1]; omega
      have HR : ∀ (v' : Value) (w1 : World), w1.ownsRow wr.heap.size 3 1 v' k (nats (F.take k)) → Below wr.heap.size wr w1 → NewL wr w1 v' (Q.trim F) ∧ Below wr.heap.size wr w1 := fun v' w1 h1 h2 => by
        refine ⟨?_, h2⟩
        unfold NewL
        rw [Q.trim_length, ← HN.out.2]
        have : Q.trim F = F.take k := by rw [HN.out.2]; rfl
        rw [this]; exact h1
      have HRR := Lib.hid HR
      clear HR
      by_cases h0 : k = 0
      · subst h0
        have hd0 : decide ((0 : Int) < ((0 : Nat) : Int)) = false := rfl
        go_wp2_with (at_builtin; refine wpList_append_own _ rfl _ _ 22 rfl wr.heap.size 3 i0 (.int .i64 0) 1 8 Tryz.underlying22 hi hz0 hz1 hz2 rfl (by decide) _ 0 [] rfl (World.ownsRow_nil _ _ _ _) ⟨b, o, none⟩ 0 cap [] rfl rfl (by simp) (by simp) (by unfold maxLen; omega) (by omega) (by simp) ?_)
        intro v' w1 hown hgrow _
        have hB1 : Below wr.heap.size wr w1 := (Below.refl _ _).grown hgrow (Nat.le_refl _) (by intro g hg; simp [Value.ownBlock] at hg)
        have HR := Lib.hid (HRR.out v' w1 hown hB1)
        clear hown hgrow hB1
        go_wp2_with (fail)
        go_ret
        exact ⟨⟨_, rfl, HR.out.1⟩, HR.out.2⟩
      · obtain ⟨j, hj⟩ : ∃ j, k = j + 1 := ⟨k - 1, by omega⟩
        have c := hv.out j (by have := HN.out.1; omega)
        obtain ⟨x, hx⟩ : ∃ x, x = F.getD j 0 := ⟨_, rfl⟩
        have hx0 : ((x : Int) == 0) = false := by
          rw [beq_eq_false_iff_ne, hx]
          have := HT1.out (by omega)
          rw [hj, Nat.add_sub_cancel] at this
          omega
        rw [← hx] at c
        have hp : decide ((0 : Int) < (k : Int)) = true := by rw [decide_eq_true_iff]; omega
        have hj1 : (k : Int) - 1 = (j : Int) := by omega
        have hj2 : (j : Int) < (n : Int) := by omega
        have HC : Hid (∀ i u, (nats (F.take k))[i]? = some u → wr.cell? ((⟨b, o, none⟩ : Addr).add i) = some u) := fun i u hu => by
          have hik : i < (F.take k).length := by
            rcases Nat.lt_or_ge i (F.take k).length with h | h
            · exact h
            · rw [List.getElem?_eq_none (by rw [nats_length]; exact h)] at hu; cases hu
          have hiF : i < F.length := by rw [List.length_take] at hik; omega
          rw [nats_get (F.take k) i hik, List.getElem_take] at hu
          injection hu with hu
          rw [add_off, ← hu, hv.out i hiF, Q.getD_get hiF]
        have H1' := Lib.hid (nats_one (F.take k))
        clear hx hj
        go_wp2_with (at_builtin; refine wpList_append_own _ rfl _ _ 22 rfl wr.heap.size 3 i0 (.int .i64 0) 1 8 Tryz.underlying22 hi hz0 hz1 hz2 rfl (by decide) _ 0 [] rfl (World.ownsRow_nil _ _ _ _) ⟨b, o, none⟩ k cap (nats (F.take k)) rfl HF.out HC.out H1'.out (by unfold maxLen; omega) (by omega) (by simp) ?_)
        intro v' w1 hown hgrow _
        have hB1 : Below wr.heap.size wr w1 := (Below.refl _ _).grown hgrow (Nat.le_refl _) (by intro g hg; simp [Value.ownBlock] at hg)
        have HR := Lib.hid (HRR.out v' w1 hown hB1)
        clear hown hgrow hB1
        go_wp2_with (fail)
        go_ret
        exact ⟨⟨_, rfl, HR.out.1⟩, HR.out.2⟩

end Go.Proofs.YtbehihanhfmmhaaGreat

namespace Go.Proofs.YtbehihanhfmmhaaGreat
namespace Q
variable {p : Nat}

def combK (p n : Nat) (r row : List Nat) (t : Nat) : List Nat := (List.range (2 * n)).map fun k => (r.getD k 0 + (p - t) * row.getD k 0) % p
def clrK (p n : Nat) (rows : List (List Nat)) (d c : Nat) : List (List Nat) := rows.mapIdx fun i r => if d < i then combK p n r (rowAt rows d) (r.getD c 0 * invM p ((rowAt rows d).getD c 0) % p) else r
def elimK (p n : Nat) : Nat → Nat → List (List Nat) → Nat × List (List Nat)
  | 0, d, rows => (d, rows)
  | k + 1, d, rows =>
    let a := firstRow rows (n - (k + 1)) d (n - d)
    if a = n then elimK p n k d rows else elimK p n k (d + 1) (clrK p n (swapRows rows a d) d (n - (k + 1)))

/-- The sum of the entries behind the first n of a row, times the rows of M. -/
def recM (n : Nat) (r : List Nat) (M : Nat → Nat → Int) (k : Nat) : Int := sm n fun j => cf r (n + j) * M j k

structure KInv (p n : Nat) (M : Nat → Nat → Int) (c d : Nat) (rows : List (List Nat)) : Prop where
  len : rows.length = n
  red : ∀ i, i < n → Red p (rowAt rows i)
  rl : ∀ i, i < n → (rowAt rows i).length = 2 * n
  dn : d ≤ n
  lin : ∀ i, i < n → ∀ k, k < n → (p : Int) ∣ recM n (rowAt rows i) M k - cf (rowAt rows i) k
  span : ∀ h : Nat → Int, ∃ a : Nat → Int, ∀ j, j < n → (p : Int) ∣ h j - sm n fun i => a i * cf (rowAt rows i) (n + j)
  piv : ∃ pc : Nat → Nat, ∀ e, e < d → pc e < c ∧ pc e < n ∧ (rowAt rows e).getD (pc e) 0 ≠ 0 ∧ ∀ i, e < i → i < n → (rowAt rows i).getD (pc e) 0 = 0
  zero : ∀ i, d ≤ i → i < n → ∀ k, k < c → (rowAt rows i).getD k 0 = 0

theorem combK_getD (n : Nat) (r row : List Nat) (t k : Nat) (hk : k < 2 * n) : (combK p n r row t).getD k 0 = (r.getD k 0 + (p - t) * row.getD k 0) % p := by
  unfold combK
  rw [List.getD_eq_getElem?_getD, List.getElem?_map, List.getElem?_range hk]; rfl

theorem clrK_row (n : Nat) (rows : List (List Nat)) (d c i : Nat) (hi : i < rows.length) : rowAt (clrK p n rows d c) i = if d < i then combK p n (rowAt rows i) (rowAt rows d) ((rowAt rows i).getD c 0 * invM p ((rowAt rows d).getD c 0) % p) else rowAt rows i := by
  unfold clrK rowAt
  rw [List.getD_eq_getElem?_getD, List.getElem?_mapIdx, List.getElem?_eq_getElem hi]
  simp [List.getD_eq_getElem?_getD, List.getElem?_eq_getElem hi]

theorem clrK_len (n : Nat) (rows : List (List Nat)) (d c : Nat) : (clrK p n rows d c).length = rows.length := by simp [clrK]

/-- One entry of a cleared row, as an integer. -/
theorem combK_cf (n : Nat) (r row : List Nat) {t k : Nat} (ht : t ≤ p) (hk : k < 2 * n) : (p : Int) ∣ cf (combK p n r row t) k - (cf r k - (t : Int) * cf row k) := by
  unfold cf
  rw [combK_getD n r row t k hk]
  have h1 := dvd_mod (p := p) (r.getD k 0 + (p - t) * row.getD k 0)
  generalize r.getD k 0 = x at *
  generalize row.getD k 0 = y at *
  have h2 : ((x + (p - t) * y : Nat) : Int) = (x : Int) - (t : Int) * (y : Int) + (p : Int) * (y : Int) := by
    obtain ⟨s, rfl⟩ : ∃ s, p = t + s := ⟨p - t, by omega⟩
    rw [show t + s - t = s by omega]
    push_cast
    rw [Int.add_mul]; omega
  rw [h2] at h1
  obtain ⟨q, hq⟩ := h1
  exact ⟨q + y, by rw [Int.mul_add, ← hq]; omega⟩

theorem sm_swap {n : Nat} (F : Nat → Int) {a d : Nat} (ha : a < n) (hd : d < n) : sm n (fun i => F (if i = d then a else if i = a then d else i)) = sm n F := by
  by_cases had : a = d
  · subst had
    refine sm_congr fun i _ => ?_
    by_cases h : i = a
    · simp [h]
    · simp [h]
  · have e : ∀ i, F (if i = d then a else if i = a then d else i) = F i + (if i = d then F a - F d else 0) + (if i = a then F d - F a else 0) := by
      intro i
      by_cases h1 : i = d
      · subst h1; rw [if_pos rfl, if_pos rfl, if_neg (fun h => had h.symm)]; omega
      · by_cases h2 : i = a
        · subst h2; rw [if_neg h1, if_pos rfl, if_neg h1, if_pos rfl]; omega
        · rw [if_neg h1, if_neg h2, if_neg h1, if_neg h2]; omega
    rw [sm_congr (fun i _ => e i), sm_add, sm_add, sm_delta hd, sm_delta ha]; omega

theorem KInv.swap {n c d a : Nat} {M : Nat → Nat → Int} {rows : List (List Nat)} (h : KInv p n M c d rows) (hda : d ≤ a) (ha : a < n) : KInv p n M c d (swapRows rows a d) := by
  have hl := h.len
  have hrow : ∀ i, rowAt (swapRows rows a d) i = rowAt rows (if i = d then a else if i = a then d else i) := by
    intro i
    rw [swap_rowAt rows a d i (by omega) (by omega)]
    by_cases h1 : i = d
    · rw [if_pos h1, if_pos h1]
    · rw [if_neg h1, if_neg h1]
      by_cases h2 : i = a
      · rw [if_pos h2, if_pos h2]
      · rw [if_neg h2, if_neg h2]
  have hlt : ∀ i, i < n → (if i = d then a else if i = a then d else i) < n := by intro i hi; split; exact (by omega); split <;> omega
  have hge : ∀ i, d ≤ i → d ≤ (if i = d then a else if i = a then d else i) := by intro i hi; split; exact (by omega); split <;> omega
  refine ⟨by rw [swap_length]; exact hl, fun i hi => by rw [hrow]; exact h.red _ (hlt i hi), fun i hi => by rw [hrow]; exact h.rl _ (hlt i hi), h.dn, fun i hi k hk => by rw [hrow]; exact h.lin _ (hlt i hi) k hk, fun f => ?_, ?_, fun i h1 h2 k hk => by rw [hrow]; exact h.zero _ (hge i h1) (hlt i h2) k hk⟩
  · obtain ⟨b, hb⟩ := h.span f
    refine ⟨fun i => b (if i = d then a else if i = a then d else i), fun j hj => ?_⟩
    have := sm_swap (n := n) (fun i => b i * cf (rowAt rows i) (n + j)) ha (show d < n by omega)
    rw [sm_congr (fun i _ => by rw [hrow]), this]
    exact hb j hj
  · obtain ⟨pc, hpc⟩ := h.piv
    refine ⟨pc, fun e he => ?_⟩
    obtain ⟨h1, h2, h3, h4⟩ := hpc e he
    refine ⟨h1, h2, ?_, fun i hei hi => ?_⟩
    · rw [hrow, if_neg (by omega), if_neg (by omega)]; exact h3
    · rw [hrow]
      refine h4 _ ?_ (hlt i hi)
      by_cases hid : d ≤ i
      · have := hge i hid; omega
      · rw [if_neg (by omega), if_neg (by omega)]; exact hei

theorem combK_red (hp : 0 < p) (n : Nat) (r row : List Nat) (t : Nat) : Red p (combK p n r row t) := by
  intro x hx
  unfold combK at hx
  obtain ⟨k, _, rfl⟩ := List.mem_map.1 hx
  exact Nat.mod_lt _ hp

/-- What is cleared away is put back. -/
theorem sm_back {n d : Nat} (hd : d < n) (a t R R' : Nat → Int) (hR : ∀ i, i < n → (p : Int) ∣ R' i - (R i - t i * R d)) (ht : t d = 0) :
    (p : Int) ∣ sm n (fun i => a i * R i) - sm n (fun i => (a i + if i = d then sm n (fun i => a i * t i) else 0) * R' i) := by
  have h1 : (p : Int) ∣ sm n (fun i => (a i + if i = d then sm n (fun i => a i * t i) else 0) * R' i) - sm n (fun i => (a i + if i = d then sm n (fun i => a i * t i) else 0) * (R i - t i * R d)) := by
    refine sm_dvd_sub fun i hi => ?_
    rw [← Int.mul_sub]
    exact dmr _ (hR i hi)
  have h2 : sm n (fun i => (a i + if i = d then sm n (fun i => a i * t i) else 0) * (R i - t i * R d)) = sm n (fun i => a i * R i) := by
    have e : ∀ i, (a i + if i = d then sm n (fun i => a i * t i) else 0) * (R i - t i * R d) = a i * R i + (a i * t i) * (- R d) + (if i = d then sm n (fun i => a i * t i) * R d else 0) := by
      intro i
      by_cases h : i = d
      · subst h
        rw [if_pos rfl, if_pos rfl, ht]
        generalize sm n (fun i => a i * t i) = z
        generalize R i = y
        generalize a i = x
        rw [Int.zero_mul, Int.sub_zero, Int.add_mul, Int.mul_zero, Int.zero_mul]; omega
      · rw [if_neg h, if_neg h, Int.add_zero, Int.mul_sub, Int.add_zero, ← Int.mul_assoc, Int.mul_neg]; omega
    rw [sm_congr (fun i _ => e i), sm_add, sm_add, sm_mul', sm_delta hd]
    generalize sm n (fun i => a i * t i) = z
    generalize sm n (fun i => a i * R i) = y
    rw [Int.mul_neg]; omega
  rw [h2] at h1
  obtain ⟨q, hq⟩ := h1
  exact ⟨-q, by rw [Int.mul_neg, ← hq]; omega⟩

theorem KInv.clear (hP : M.Pr p) {n c d : Nat} {M : Nat → Nat → Int} {rows : List (List Nat)} (h : KInv p n M c d rows) (hd : d < n) (hc : c < n) (hpv : (rowAt rows d).getD c 0 ≠ 0) : KInv p n M (c + 1) (d + 1) (clrK p n rows d c) := by
  have hp2 := hP.1
  have hp : 0 < p := by omega
  have hl := h.len
  obtain ⟨t, ht⟩ : ∃ t : Nat → Nat, t = fun i => if d < i then (rowAt rows i).getD c 0 * invM p ((rowAt rows d).getD c 0) % p else 0 := ⟨_, rfl⟩
  have htp : ∀ i, t i ≤ p := by
    intro i; rw [ht]; dsimp only; split
    · exact Nat.le_of_lt (Nat.mod_lt _ hp)
    · omega
  have htd : t d = 0 := by rw [ht]; dsimp only; rw [if_neg (by omega)]
  have hrow : ∀ i, i < n → rowAt (clrK p n rows d c) i = if d < i then combK p n (rowAt rows i) (rowAt rows d) (t i) else rowAt rows i := by
    intro i hi
    rw [clrK_row n rows d c i (by omega)]
    by_cases h1 : d < i
    · rw [if_pos h1, if_pos h1, ht]; dsimp only; rw [if_pos h1]
    · rw [if_neg h1, if_neg h1]
  have hcf : ∀ i, i < n → ∀ k, k < 2 * n → (p : Int) ∣ cf (rowAt (clrK p n rows d c) i) k - (cf (rowAt rows i) k - (t i : Int) * cf (rowAt rows d) k) := by
    intro i hi k hk
    rw [hrow i hi]
    by_cases h1 : d < i
    · rw [if_pos h1]; exact combK_cf n _ _ (htp i) hk
    · have h0 : t i = 0 := by rw [ht]; dsimp only; rw [if_neg h1]
      rw [if_neg h1, h0]; exact ⟨0, by simp⟩
  have hz : ∀ i, d < i → i < n → ∀ k, k < 2 * n → (rowAt rows i).getD k 0 = 0 → (rowAt rows d).getD k 0 = 0 → (rowAt (clrK p n rows d c) i).getD k 0 = 0 := by
    intro i h1 h2 k hk h3 h4
    rw [hrow i h2, if_pos h1, combK_getD n _ _ _ k hk, h3, h4]; simp
  have hcol : ∀ i, d < i → i < n → (rowAt (clrK p n rows d c) i).getD c 0 = 0 := by
    intro i h1 h2
    have hr : Red p (rowAt rows i) := h.red i h2
    have hdr : Red p (rowAt rows d) := h.red d hd
    rw [hrow i h2, if_pos h1, combK_getD n _ _ _ c (by omega), ht]
    dsimp only
    rw [if_pos h1]
    have hi := inv_spec hP (hdr.getD hp c) hpv
    generalize (rowAt rows i).getD c 0 = x
    generalize (rowAt rows d).getD c 0 = y at hi ⊢
    have h5 : (x * invM p y % p) * y % p = x % p := by
      rw [Nat.mod_mul_mod, Nat.mul_assoc, Nat.mul_mod, Nat.mul_comm (invM p y) y, hi.2.1, Nat.mul_one, Nat.mod_mod]
    have h6 : x * invM p y % p < p := Nat.mod_lt _ hp
    generalize x * invM p y % p = z at h5 h6
    have h7 : (x + (p - z) * y + z * y) % p = x % p := by
      rw [Nat.add_assoc, ← Nat.add_mul, show p - z + z = p by omega, Nat.add_mul_mod_self_left]
    rw [Nat.add_mod, h5] at h7
    have h8 : (x + (p - z) * y) % p < p := Nat.mod_lt _ hp
    have h9 : x % p < p := Nat.mod_lt _ hp
    generalize (x + (p - z) * y) % p = u at h7 h8 ⊢
    generalize x % p = v at h7 h9
    rcases Nat.lt_or_ge (u + v) p with h10 | h10
    · rw [Nat.mod_eq_of_lt h10] at h7; omega
    · rw [Nat.mod_eq_sub_mod h10, Nat.mod_eq_of_lt (by omega)] at h7; omega
  refine ⟨by rw [clrK_len]; exact hl, ?_, ?_, by omega, ?_, ?_, ?_, ?_⟩
  · intro i hi
    rw [hrow i hi]; split
    · exact combK_red hp n _ _ _
    · exact h.red i hi
  · intro i hi
    rw [hrow i hi]; split
    · simp [combK]
    · exact h.rl i hi
  · intro i hi k hk
    have e1 : (p : Int) ∣ recM n (rowAt (clrK p n rows d c) i) M k - (recM n (rowAt rows i) M k - (t i : Int) * recM n (rowAt rows d) M k) := by
      unfold recM
      rw [← sm_mul]
      have e2 : sm n (fun j => cf (rowAt rows i) (n + j) * M j k) - sm n (fun j => (t i : Int) * (cf (rowAt rows d) (n + j) * M j k)) = sm n fun j => (cf (rowAt rows i) (n + j) - (t i : Int) * cf (rowAt rows d) (n + j)) * M j k := by
        have e3 : sm n (fun j => cf (rowAt rows i) (n + j) * M j k) = sm n (fun j => (cf (rowAt rows i) (n + j) - (t i : Int) * cf (rowAt rows d) (n + j)) * M j k) + sm n (fun j => (t i : Int) * (cf (rowAt rows d) (n + j) * M j k)) := by
          rw [← sm_add]
          refine sm_congr fun j _ => ?_
          rw [Int.sub_mul, Int.mul_assoc]; omega
        rw [e3]; omega
      rw [e2]
      refine sm_dvd_sub fun j hj => ?_
      exact dvd_cf_mul (hcf i hi (n + j) (by omega))
    have e4 := h.lin i hi k hk
    have e5 := dmr (t i : Int) (h.lin d hd k hk)
    have e6 := hcf i hi k (by omega)
    rw [Int.mul_sub] at e5
    generalize recM n (rowAt (clrK p n rows d c) i) M k = A at *
    generalize recM n (rowAt rows i) M k = B at *
    generalize (t i : Int) * recM n (rowAt rows d) M k = C at *
    generalize (t i : Int) * cf (rowAt rows d) k = D at *
    generalize cf (rowAt (clrK p n rows d c) i) k = E at *
    generalize cf (rowAt rows i) k = F at *
    have e7 := Int.dvd_sub (Int.dvd_add e1 (Int.dvd_sub e4 e5)) e6
    rw [show A - (B - C) + (B - F - (C - D)) - (E - (F - D)) = A - E by omega] at e7
    exact e7
  · intro f
    obtain ⟨a, ha⟩ := h.span f
    refine ⟨fun i => a i + if i = d then sm n (fun i => a i * (t i : Int)) else 0, fun j hj => ?_⟩
    have h1 := ha j hj
    have h2 := sm_back (p := p) hd a (fun i => (t i : Int)) (fun i => cf (rowAt rows i) (n + j)) (fun i => cf (rowAt (clrK p n rows d c) i) (n + j)) (fun i hi => hcf i hi (n + j) (by omega)) (by show (t d : Int) = 0; rw [htd]; rfl)
    have h3 := Int.dvd_add h1 h2
    generalize sm n (fun i => a i * cf (rowAt rows i) (n + j)) = X at *
    rw [show f j - X + (X - sm n fun i => (a i + if i = d then sm n (fun i => a i * (t i : Int)) else 0) * cf (rowAt (clrK p n rows d c) i) (n + j)) = f j - sm n fun i => (a i + if i = d then sm n (fun i => a i * (t i : Int)) else 0) * cf (rowAt (clrK p n rows d c) i) (n + j) by omega] at h3
    exact h3
  · obtain ⟨pc, hpc⟩ := h.piv
    refine ⟨fun e => if e = d then c else pc e, fun e he => ?_⟩
    dsimp only
    by_cases hed : e = d
    · subst hed
      rw [if_pos rfl]
      refine ⟨by omega, hc, ?_, fun i h1 h2 => hcol i h1 h2⟩
      rw [hrow e hd, if_neg (by omega)]; exact hpv
    · rw [if_neg hed]
      obtain ⟨h1, h2, h3, h4⟩ := hpc e (by omega)
      refine ⟨by omega, h2, ?_, fun i h5 h6 => ?_⟩
      · rw [hrow e (by omega), if_neg (by omega)]; exact h3
      · by_cases h7 : d < i
        · exact hz i h7 h6 _ (by omega) (h4 i h5 h6) (h4 d (by omega) hd)
        · rw [hrow i h6, if_neg h7]; exact h4 i h5 h6
  · intro i h1 h2 k hk
    by_cases hkc : k = c
    · subst hkc; exact hcol i (by omega) h2
    · exact hz i (by omega) h2 k (by omega) (h.zero i (by omega) h2 k (by omega)) (h.zero d (Nat.le_refl _) hd k (by omega))

theorem elim_inv (hP : M.Pr p) {n : Nat} {M : Nat → Nat → Int} : ∀ (k d : Nat) (rows : List (List Nat)), k ≤ n → KInv p n M (n - k) d rows → KInv p n M n (elimK p n k d rows).1 (elimK p n k d rows).2
  | 0, d, rows, _, h => h
  | k + 1, d, rows, hk, h => by
    have hf := firstRow_is rows (n - (k + 1)) (n - d) d
    have hdn := h.dn
    rw [elimK]
    by_cases ha : firstRow rows (n - (k + 1)) d (n - d) = n
    · rw [if_pos ha]
      refine elim_inv hP k d rows (by omega) ?_
      refine ⟨h.len, h.red, h.rl, h.dn, h.lin, h.span, ?_, ?_⟩
      · obtain ⟨pc, hpc⟩ := h.piv
        exact ⟨pc, fun e he => by obtain ⟨h1, h2⟩ := hpc e he; exact ⟨by omega, h2⟩⟩
      · intro i h1 h2 q hq
        by_cases hqc : q = n - (k + 1)
        · subst hqc; exact hf.2.2.1 i h1 (by omega)
        · exact h.zero i h1 h2 q (by omega)
    · rw [if_neg ha]
      have hlt : firstRow rows (n - (k + 1)) d (n - d) < n := by have := hf.2.1; omega
      have hs := h.swap hf.1 hlt
      have hpv : (rowAt (swapRows rows (firstRow rows (n - (k + 1)) d (n - d)) d) d).getD (n - (k + 1)) 0 ≠ 0 := by
        rw [swap_rowAt rows _ d d (by rw [h.len]; exact hlt) (by rw [h.len]; have := hf.1; omega), if_pos rfl]
        exact hf.2.2.2 (by omega)
      have hc := hs.clear hP (by have := hf.1; omega) (by omega) hpv
      rw [show n - (k + 1) + 1 = n - k by omega] at hc
      exact elim_inv hP k (d + 1) _ (by omega) hc

/-- What is behind the pivots spans the left kernel. -/
theorem KInv.span_ker (hP : M.Pr p) {n d : Nat} {M : Nat → Nat → Int} {rows : List (List Nat)} (h : KInv p n M n d rows) (f : Nat → Int) (hf : ∀ k, k < n → (p : Int) ∣ sm n fun j => f j * M j k) :
    ∃ a : Nat → Int, (∀ i, i < d → (p : Int) ∣ a i) ∧ ∀ j, j < n → (p : Int) ∣ f j - sm n fun i => a i * cf (rowAt rows i) (n + j) := by
  obtain ⟨a, ha⟩ := h.span f
  refine ⟨a, ?_, ha⟩
  have hE : ∀ k, k < n → (p : Int) ∣ sm n fun i => a i * cf (rowAt rows i) k := by
    intro k hk
    have h1 : (p : Int) ∣ (sm n fun j => f j * M j k) - sm n fun j => (sm n fun i => a i * cf (rowAt rows i) (n + j)) * M j k :=
      sm_dvd_sub fun j hj => dvd_cf_mul (ha j hj)
    have h2 : (sm n fun j => (sm n fun i => a i * cf (rowAt rows i) (n + j)) * M j k) = sm n fun i => a i * recM n (rowAt rows i) M k := by
      unfold recM
      have : ∀ (m : Nat), (sm n fun j => (sm m fun i => a i * cf (rowAt rows i) (n + j)) * M j k) = sm m fun i => a i * sm n fun j => cf (rowAt rows i) (n + j) * M j k := by
        intro m
        induction m with
        | zero => exact sm_zero fun j _ => by show 0 * _ = _; rw [Int.zero_mul]
        | succ m ih =>
          show (sm n fun j => ((sm m fun i => a i * cf (rowAt rows i) (n + j)) + a m * cf (rowAt rows m) (n + j)) * M j k) = (sm m fun i => a i * sm n fun j => cf (rowAt rows i) (n + j) * M j k) + a m * sm n fun j => cf (rowAt rows m) (n + j) * M j k
          rw [← ih, ← sm_mul, ← sm_add]
          exact sm_congr fun j _ => by rw [Int.add_mul, Int.mul_assoc (a m)]
      exact this n
    have h3 : (p : Int) ∣ (sm n fun i => a i * recM n (rowAt rows i) M k) - sm n fun i => a i * cf (rowAt rows i) k := sm_dvd_sub fun i hi => by rw [← Int.mul_sub]; exact dmr _ (h.lin i hi k hk)
    rw [h2] at h1
    have h4 := hf k hk
    have h5 := Int.dvd_sub (Int.dvd_sub h4 h1) h3
    generalize (sm n fun j => f j * M j k) = X at *
    generalize (sm n fun i => a i * recM n (rowAt rows i) M k) = Y at *
    rw [show X - (X - Y) - (Y - sm n fun i => a i * cf (rowAt rows i) k) = sm n fun i => a i * cf (rowAt rows i) k by omega] at h5
    exact h5
  obtain ⟨pc, hpc⟩ := h.piv
  intro i
  induction i using Nat.strongRecOn with
  | _ i ih =>
    intro hi
    obtain ⟨h1, h2, h3, h4⟩ := hpc i hi
    have hdn := h.dn
    have h5 := hE (pc i) h2
    have h6 : (p : Int) ∣ (sm n fun e => a e * cf (rowAt rows e) (pc i)) - sm n fun e => if e = i then a i * cf (rowAt rows i) (pc i) else 0 := by
      refine sm_dvd_sub fun e he => ?_
      by_cases hei : e = i
      · subst hei; rw [if_pos rfl]; exact ⟨0, by simp⟩
      · rw [if_neg hei, Int.sub_zero]
        rcases Nat.lt_or_gt_of_ne hei with h7 | h7
        · obtain ⟨q, hq⟩ := ih e h7 (by omega)
          exact ⟨q * cf (rowAt rows e) (pc i), by rw [hq, Int.mul_assoc]⟩
        · have := h4 e h7 he
          unfold cf; rw [this]; exact ⟨0, by simp⟩
    rw [sm_delta (show i < n by omega)] at h6
    have h7 : (p : Int) ∣ a i * cf (rowAt rows i) (pc i) := by
      have := Int.dvd_sub h5 h6
      generalize (sm n fun e => a e * cf (rowAt rows e) (pc i)) = X at *
      rw [show X - (X - a i * cf (rowAt rows i) (pc i)) = a i * cf (rowAt rows i) (pc i) by omega] at this
      exact this
    have hred : Red p (rowAt rows i) := h.red i (by omega)
    have hlt := hred.getD (by have := hP.1; omega) (pc i)
    rcases hP.int_dvd_mul h7 with h8 | h8
    · exact h8
    · exfalso
      unfold cf at h8
      have h9 : p ∣ (rowAt rows i).getD (pc i) 0 := by exact_mod_cast h8
      have := Nat.le_of_dvd (by omega) h9
      omega

end Q
end Go.Proofs.YtbehihanhfmmhaaGreat

namespace Go.Proofs.YtbehihanhfmmhaaGreat
namespace Q
variable {p : Nat}

/-- x^(ip) modulo f, as the reference reckons it. -/
def rPow (p : Nat) (f : List Nat) (i : Nat) : List Nat := raiseLoop p f (i * p) [1] (remP p [0, 1] f) (i * p)

theorem rPow_eq (hP : M.Pr p) {f : List Nat} (hf : Pol p f) (h2 : 2 ≤ f.length) (i : Nat) : rPow p f i = powSeq p f (raiseP p [0, 1] p f) i := by
  have hp : 0 < p := by have := hP.1; omega
  have D := div_is hP (pol_xx hP) hf (by omega)
  have h1 := raise_cg hP hf (by omega) (i * p) [1] (remP p [0, 1] f) (i * p) (Nat.le_refl _) (pol_one hP) D.rpol
  have h3 := raise_len hP hf (by omega) (i * p) [1] (remP p [0, 1] f) (i * p) (pol_one hP) D.rpol (by simp; omega)
  obtain ⟨q1, q2, q3⟩ := powSeq_is hP hf h2 (step_is hP hf h2) i
  refine low_cg hP h1.1 q1 hf h3 q2 ?_
  refine h1.2.trans hp ?_
  rw [ev_one, Px.one_mul]
  have h4 := (rem_cg hP (pol_xx hP) hf (by omega)).symm hp
  rw [ev_xx] at h4
  have h5 := h4.pw hP (IsP.ev D.rpol) (ev_xx (p := p) ▸ IsP.ev (pol_xx hP)) (i * p)
  refine h5.trans hp ?_
  rw [show i * p = p * i from Nat.mul_comm _ _, ← pw_pw]
  exact q3.symm hp

/-- The rows that are eliminated: what x^(ip) - x^i is modulo f, and which it was. -/
def rRow (p n : Nat) (m : List Nat) (i : Nat) : List Nat := (List.range (2 * n)).map fun k => if k < n then (if k = i then (m.getD k 0 + p - 1) % p else m.getD k 0) else if k = n + i then 1 else 0
def rRows (p : Nat) (f : List Nat) : List (List Nat) := (List.range (f.length - 1)).map fun i => rRow p (f.length - 1) (powSeq p f (raiseP p [0, 1] p f) i) i
def rM (p : Nat) (f : List Nat) (j k : Nat) : Int := cf (powSeq p f (raiseP p [0, 1] p f) j) k - if k = j then 1 else 0

theorem rRows_row (f : List Nat) {i : Nat} (hi : i < f.length - 1) : rowAt (rRows p f) i = rRow p (f.length - 1) (powSeq p f (raiseP p [0, 1] p f) i) i := by
  unfold rowAt rRows
  simp [List.getD, hi]

theorem rRow_getD (n : Nat) (m : List Nat) (i k : Nat) (hk : k < 2 * n) : (rRow p n m i).getD k 0 = if k < n then (if k = i then (m.getD k 0 + p - 1) % p else m.getD k 0) else if k = n + i then 1 else 0 := by
  unfold rRow
  rw [List.getD_eq_getElem?_getD, List.getElem?_map, List.getElem?_range hk]; rfl

theorem rRows_start (hP : M.Pr p) {f : List Nat} (hf : Pol p f) (h2 : 2 ≤ f.length) : KInv p (f.length - 1) (rM p f) 0 0 (rRows p f) := by
  have hp2 := hP.1
  have hp : 0 < p := by omega
  obtain ⟨n, hn⟩ : ∃ n, n = f.length - 1 := ⟨_, rfl⟩
  have hrow : ∀ i, i < n → rowAt (rRows p f) i = rRow p n (powSeq p f (raiseP p [0, 1] p f) i) i := fun i hi => by rw [hn]; exact rRows_row f (by omega)
  have hid : ∀ i, i < n → ∀ j, j < n → cf (rowAt (rRows p f) i) (n + j) = if j = i then 1 else 0 := by
    intro i hi j hj
    unfold cf
    rw [hrow i hi, rRow_getD n _ i (n + j) (by omega), if_neg (by omega)]
    by_cases h : j = i
    · subst h; rw [if_pos rfl, if_pos rfl]; rfl
    · rw [if_neg (by omega), if_neg h]; rfl
  rw [← hn]
  refine ⟨by simp [rRows, hn], fun i hi x hx => ?_, fun i hi => by rw [hrow i hi]; simp [rRow], Nat.zero_le _, fun i hi k hk => ?_, fun h => ⟨h, fun j hj => ?_⟩, ⟨fun _ => 0, fun e he => by omega⟩, fun i _ _ k hk => by omega⟩
  · rw [hrow i hi] at hx
    unfold rRow at hx
    obtain ⟨k, _, rfl⟩ := List.mem_map.1 hx
    have hpol := (powSeq_is hP hf h2 (step_is hP hf h2) i).1
    split
    · split
      · exact Nat.mod_lt _ hp
      · exact hpol.red.getD hp k
    · split <;> omega
  · have e : recM n (rowAt (rRows p f) i) (rM p f) k = rM p f i k := by
      unfold recM
      rw [sm_congr (G := fun j => if j = i then rM p f i k else 0) (fun j hj => by
        rw [hid i hi j hj]
        by_cases h : j = i
        · subst h; rw [if_pos rfl, if_pos rfl, Int.one_mul]
        · rw [if_neg h, if_neg h, Int.zero_mul]), sm_delta hi]
    rw [e]
    unfold rM cf
    rw [hrow i hi, rRow_getD n _ i k (by omega), if_pos hk]
    by_cases h : k = i
    · subst h
      rw [if_pos rfl, if_pos rfl]
      have h1 := dvd_mod (p := p) ((powSeq p f (raiseP p [0, 1] p f) k).getD k 0 + p - 1)
      generalize (powSeq p f (raiseP p [0, 1] p f) k).getD k 0 = a at h1 ⊢
      obtain ⟨q, hq⟩ := h1
      exact ⟨-q - 1, by rw [Int.mul_sub, Int.mul_neg, ← hq]; omega⟩
    · rw [if_neg h, if_neg h]; exact ⟨0, by simp⟩
  · rw [sm_congr (G := fun i => if i = j then h j else 0) (fun i hi => by
      rw [hid i hi j hj]
      by_cases hij : i = j
      · subst hij; rw [if_pos rfl, if_pos rfl, Int.mul_one]
      · rw [if_neg (fun e => hij e.symm), if_neg hij, Int.mul_zero]), sm_delta hj]
    exact ⟨0, by simp⟩

def rEl (p : Nat) (f : List Nat) : Nat × List (List Nat) := elimK p (f.length - 1) (f.length - 1) 0 (rRows p f)
def rVec (p : Nat) (f : List Nat) (i : Nat) : List Nat := trim ((rowAt (rEl p f).2 ((rEl p f).1 + i)).drop (f.length - 1))
def rKer (p : Nat) (f : List Nat) : List (List Nat) := (List.range (f.length - 1 - (rEl p f).1)).map (rVec p f)

theorem rEl_inv (hP : M.Pr p) {f : List Nat} (hf : Pol p f) (h2 : 2 ≤ f.length) : KInv p (f.length - 1) (rM p f) (f.length - 1) (rEl p f).1 (rEl p f).2 := by
  have h := rRows_start hP hf h2
  have := elim_inv hP (f.length - 1) 0 (rRows p f) (Nat.le_refl _) (by rw [Nat.sub_self]; exact h)
  exact this

theorem rVec_cf (f : List Nat) (i j : Nat) : cf (rVec p f i) j = cf (rowAt (rEl p f).2 ((rEl p f).1 + i)) (f.length - 1 + j) := by
  unfold rVec
  rw [cf_trim]
  unfold cf
  simp [List.getD_eq_getElem?_getD, List.getElem?_drop]

/-- Fixed: what the sum with the rows of rM says. -/
theorem rM_fx (hP : M.Pr p) {f : List Nat} (hf : Pol p f) (h2 : 2 ≤ f.length) {h : List Nat} (hh : Pol p h) (hl : h.length < f.length) :
    (∀ k, k < f.length - 1 → (p : Int) ∣ sm (f.length - 1) fun j => cf h j * rM p f j k) ↔ Fx p f h := by
  have hp2 := hP.1
  rw [← ker_iff hP hf h2 hh hl]
  have key : ∀ k, k < f.length - 1 → ((p : Int) ∣ (sm (f.length - 1) fun j => cf h j * rM p f j k) ↔ (p : Int) ∣ dot (f.length - 1) (rowAt (fixedMat p f) k) (cf h)) := by
    intro k hk
    have h1 := dot_fixed hp2 f hk (cf h)
    have e : (sm (f.length - 1) fun j => cf h j * rM p f j k) = (sm (f.length - 1) fun j => cf h j * cf (powSeq p f (raiseP p [0, 1] p f) j) k) - cf h k := by
      have e1 : (sm (f.length - 1) fun j => cf h j * cf (powSeq p f (raiseP p [0, 1] p f) j) k) = (sm (f.length - 1) fun j => cf h j * rM p f j k) + sm (f.length - 1) fun j => if j = k then cf h k else 0 := by
        rw [← sm_add]
        refine sm_congr fun j _ => ?_
        unfold rM
        by_cases hj : j = k
        · subst hj; rw [if_pos rfl, if_pos rfl, Int.mul_sub, Int.mul_one]; omega
        · rw [if_neg (fun e => hj e.symm), if_neg hj, Int.sub_zero, Int.add_zero]
      rw [e1, sm_delta hk]; omega
    rw [e]
    generalize dot (f.length - 1) (rowAt (fixedMat p f) k) (cf h) = A at *
    generalize (sm (f.length - 1) fun j => cf h j * cf (powSeq p f (raiseP p [0, 1] p f) j) k) - cf h k = B at *
    constructor
    · intro h3
      have := Int.dvd_add h1 h3
      rwa [Int.sub_add_cancel] at this
    · intro h3
      have := Int.dvd_sub h3 h1
      rwa [Int.sub_sub_self] at this
  exact ⟨fun H k hk => (key k hk).1 (H k hk), fun H k hk => (key k hk).2 (H k hk)⟩

theorem rVec_is (hP : M.Pr p) {f : List Nat} (hf : Pol p f) (h2 : 2 ≤ f.length) {i : Nat} (hi : i < f.length - 1 - (rEl p f).1) : Pol p (rVec p f i) ∧ (rVec p f i).length < f.length ∧ Fx p f (rVec p f i) := by
  have K := rEl_inv hP hf h2
  have hin : (rEl p f).1 + i < f.length - 1 := by omega
  have hpol : Pol p (rVec p f i) := Red.trim (fun x hx => K.red _ hin x (List.mem_of_mem_drop hx))
  have hlen : (rVec p f i).length < f.length := by
    unfold rVec
    rw [trim_length]
    refine Nat.lt_of_le_of_lt (trimLen_le _) ?_
    rw [List.length_drop, K.rl _ hin]; omega
  refine ⟨hpol, hlen, (rM_fx hP hf h2 hpol hlen).1 fun k hk => ?_⟩
  have h1 := K.lin _ hin k hk
  have h3 : cf (rowAt (rEl p f).2 ((rEl p f).1 + i)) k = 0 := by unfold cf; rw [K.zero _ (by omega) hin k hk]; rfl
  rw [h3, Int.sub_zero] at h1
  unfold recM at h1
  rw [sm_congr (fun j _ => by rw [rVec_cf])]
  exact h1

theorem sm_split (d : Nat) (F : Nat → Int) : ∀ m, sm (d + m) F = sm d F + sm m fun i => F (d + i)
  | 0 => by simp [sm]
  | m + 1 => by rw [← Nat.add_assoc, sm, sm_split d F m, sm]; omega

/-- A fixed polynomial is a sum of the reference's vectors. -/
theorem rKer_span (hP : M.Pr p) {f h : List Nat} (hf : Pol p f) (h2 : 2 ≤ f.length) (hh : Pol p h) (hl : h.length < f.length) (hx : Fx p f h) :
    ∃ a : Nat → Nat, (∀ i, a i < p) ∧ ev p h = sx (f.length - 1 - (rEl p f).1) fun i => ev p [a i] * ev p (rVec p f i) := by
  have hp2 := hP.1
  have hp : 0 < p := by omega
  have K := rEl_inv hP hf h2
  have hd := K.dn
  obtain ⟨b, hb1, hb2⟩ := K.span_ker hP (cf h) ((rM_fx hP hf h2 hh hl).2 hx)
  have hpz : (p : Int) ≠ 0 := by omega
  refine ⟨fun i => (b ((rEl p f).1 + i) % p).toNat, fun i => ?_, ?_⟩
  · have h0 := Int.emod_nonneg (b ((rEl p f).1 + i)) hpz
    have h1 := Int.emod_lt_of_pos (b ((rEl p f).1 + i)) (show (0 : Int) < p by omega)
    show (b ((rEl p f).1 + i) % p).toNat < p
    omega
  · have e : ∀ m, (sx m fun i => ev p [(b ((rEl p f).1 + i) % p).toNat] * ev p (rVec p f i)) = Px.of p fun c => sm m fun i => b ((rEl p f).1 + i) * cf (rVec p f i) c := by
      intro m
      induction m with
      | zero => exact Px.zero_of
      | succ m ih =>
        rw [sx, ih]
        have e : ev p [(b ((rEl p f).1 + m) % p).toNat] * ev p (rVec p f m) = Px.of p fun c => b ((rEl p f).1 + m) * cf (rVec p f m) c := by
          unfold ev
          rw [Px.mul_of]
          refine Px.eq fun c => ?_
          have h0 := Int.emod_nonneg (b ((rEl p f).1 + m)) hpz
          have e1 : cf [(b ((rEl p f).1 + m) % p).toNat] = fun k => if k = 0 then b ((rEl p f).1 + m) % p else 0 := by
            funext k
            rcases k with _ | k
            · simp [cf, Int.toNat_of_nonneg h0]
            · simp [cf]
          rw [e1, cau_mono, if_pos (Nat.zero_le _), Nat.sub_zero]
          have h1 := Int.mul_ediv_add_emod (b ((rEl p f).1 + m)) p
          refine ⟨-(b ((rEl p f).1 + m) / p * cf (rVec p f m) c), ?_⟩
          generalize b ((rEl p f).1 + m) % p = r at *
          generalize b ((rEl p f).1 + m) / p = q at *
          generalize b ((rEl p f).1 + m) = z at *
          rw [← h1, Int.add_mul, Int.mul_neg, Int.mul_assoc]; omega
        rw [e, Px.add_of]
        congr 1
    rw [e]
    refine Px.eq fun c => ?_
    by_cases hc : c < f.length - 1
    · have h1 := hb2 c hc
      obtain ⟨m, hm⟩ : ∃ m, m = f.length - 1 - (rEl p f).1 := ⟨_, rfl⟩
      have e2 := sm_split (rEl p f).1 (fun i => b i * cf (rowAt (rEl p f).2 i) (f.length - 1 + c)) m
      rw [show (rEl p f).1 + m = f.length - 1 by omega] at e2
      rw [e2] at h1
      have e3 : (sm m fun i => b ((rEl p f).1 + i) * cf (rVec p f i) c) = sm m fun i => b ((rEl p f).1 + i) * cf (rowAt (rEl p f).2 ((rEl p f).1 + i)) (f.length - 1 + c) := sm_congr fun i _ => by rw [rVec_cf]
      rw [← hm, e3]
      have h3 : (p : Int) ∣ sm (rEl p f).1 fun i => b i * cf (rowAt (rEl p f).2 i) (f.length - 1 + c) := sm_dvd fun i hi => by
        obtain ⟨q, hq⟩ := hb1 i hi
        exact ⟨q * cf (rowAt (rEl p f).2 i) (f.length - 1 + c), by rw [hq, Int.mul_assoc]⟩
      have h4 := Int.dvd_add h1 h3
      generalize (sm m fun i => b ((rEl p f).1 + i) * cf (rowAt (rEl p f).2 ((rEl p f).1 + i)) (f.length - 1 + c)) = X at *
      generalize (sm (rEl p f).1 fun i => b i * cf (rowAt (rEl p f).2 i) (f.length - 1 + c)) = Z at *
      rw [show cf h c - (Z + X) + Z = cf h c - X by omega] at h4
      obtain ⟨k, hk⟩ := h4
      exact ⟨k, by omega⟩
    · refine ⟨0, ?_⟩
      rw [cf_out (by omega), sm_zero fun i hi => by rw [cf_out (f := rVec p f i) (by have := (rVec_is hP hf h2 (i := i) hi).2.1; omega), Int.mul_zero]]; simp

end Q
end Go.Proofs.YtbehihanhfmmhaaGreat

namespace Go.Proofs.YtbehihanhfmmhaaGreat
namespace Q
variable {p : Nat}

/-! ### A row -/
def rowK (n : Nat) (m : List Nat) (k : Nat) : List Nat := (List.range (2 * n)).map fun j => if j < k then m.getD j 0 else 0
theorem rowK_length (n : Nat) (m : List Nat) (k : Nat) : (rowK n m k).length = 2 * n := by simp [rowK]
theorem rowK_getD (n : Nat) (m : List Nat) (k j : Nat) (h : j < 2 * n) : (rowK n m k).getD j 0 = if j < k then m.getD j 0 else 0 := by
  rw [getD_get (by rw [rowK_length]; exact h)]; simp [rowK]
theorem rowK_zero (n : Nat) (m : List Nat) : List.replicate (2 * n) 0 = rowK n m 0 := by
  refine ext_getD (by simp [rowK_length]) fun i hi => ?_
  rw [List.length_replicate] at hi
  rw [rowK_getD _ _ _ _ hi, if_neg (by omega), List.getD_eq_getElem?_getD, List.getElem?_replicate]
  simp [hi]
theorem rowK_step (n : Nat) (m : List Nat) (k : Nat) (hk : k < 2 * n) : (rowK n m k).set k (m.getD k 0) = rowK n m (k + 1) := by
  refine ext_getD (by simp [rowK_length]) fun i hi => ?_
  rw [List.length_set, rowK_length] at hi
  rw [rowK_getD _ _ _ _ hi, List.getD_eq_getElem?_getD, List.getElem?_set]
  by_cases h : k = i
  · subst h
    rw [if_pos rfl, if_pos (by rw [rowK_length]; exact hi), if_pos (by omega)]; rfl
  · rw [if_neg h, ← List.getD_eq_getElem?_getD, rowK_getD _ _ _ _ hi]
    by_cases h1 : i < k
    · rw [if_pos h1, if_pos (by omega)]
    · rw [if_neg h1, if_neg (by omega)]
theorem rowK_done (n : Nat) (m : List Nat) (i : Nat) (hi : i < n) : ((rowK n m n).set i ((m.getD i 0 + p - 1) % p)).set (n + i) 1 = rRow p n m i := by
  refine ext_getD (by simp [rowK_length, rRow]) fun j hj => ?_
  rw [List.length_set, List.length_set, rowK_length] at hj
  rw [rRow_getD _ _ _ _ hj, List.getD_eq_getElem?_getD, List.getElem?_set]
  by_cases h : n + i = j
  · subst h
    rw [if_pos rfl, if_pos (by rw [List.length_set, rowK_length]; exact hj), if_neg (by omega), if_pos rfl]; rfl
  · rw [if_neg h, List.getElem?_set]
    by_cases h1 : i = j
    · subst h1
      rw [if_pos rfl, if_pos (by rw [rowK_length]; exact hj), if_pos hi, if_pos rfl]; rfl
    · rw [if_neg h1, ← List.getD_eq_getElem?_getD, rowK_getD _ _ _ _ hj]
      by_cases h2 : j < n
      · rw [if_pos h2, if_pos h2, if_neg (Ne.symm h1)]
      · rw [if_neg h2, if_neg h2, if_neg (by omega)]
theorem rRows_take (f : List Nat) (i : Nat) (hi : i < f.length - 1) : (rRows p f).take (i + 1) = (rRows p f).take i ++ [rRow p (f.length - 1) (powSeq p f (raiseP p [0, 1] p f) i) i] := by
  rw [List.take_succ_eq_append_getElem (by simpa [rRows] using hi)]
  simp [rRows]
theorem rRows_len (f : List Nat) : (rRows p f).length = f.length - 1 := by simp [rRows]

/-! ### The rows that are cleared -/
def RK (p n : Nat) (rows : List (List Nat)) : Prop := rows.length = n ∧ ∀ X ∈ rows, Red p X ∧ X.length = 2 * n
theorem RK.getD {n : Nat} {rows : List (List Nat)} (h : RK p n rows) {i : Nat} (hi : i < n) : Red p (rows.getD i []) ∧ (rows.getD i []).length = 2 * n := by
  have hl : i < rows.length := by rw [h.1]; exact hi
  exact h.2 _ (by simp [List.getD, hl])
theorem RK.set {n : Nat} {rows : List (List Nat)} (h : RK p n rows) {i : Nat} {X : List Nat} (hX : Red p X ∧ X.length = 2 * n) : RK p n (rows.set i X) := by
  refine ⟨by rw [List.length_set]; exact h.1, fun Y hY => ?_⟩
  rcases List.mem_or_eq_of_mem_set hY with h1 | h1
  · exact h.2 Y h1
  · rw [h1]; exact hX
theorem RK.swap {n : Nat} {rows : List (List Nat)} (h : RK p n rows) {i d : Nat} (hi : i < n) (hd : d < n) : RK p n (swapRows rows i d) :=
  (h.set (h.getD hd)).set (h.getD hi)
theorem combK_length (n : Nat) (r row : List Nat) (t : Nat) : (combK p n r row t).length = 2 * n := by simp [combK]
theorem combK_take (n : Nat) (r row : List Nat) (t k : Nat) (hk : k < 2 * n) : (combK p n r row t).take (k + 1) = (combK p n r row t).take k ++ [(r.getD k 0 + (p - t) * row.getD k 0) % p] := by
  rw [List.take_succ_eq_append_getElem (by rw [combK_length]; exact hk)]
  simp [combK]
def clrJ (p n : Nat) (rows : List (List Nat)) (d c i : Nat) : List (List Nat) := rows.mapIdx fun j r => if d < j ∧ j < i then combK p n r (rowAt rows d) (r.getD c 0 * invM p ((rowAt rows d).getD c 0) % p) else r
theorem clrJ_len (n : Nat) (rows : List (List Nat)) (d c i : Nat) : (clrJ p n rows d c i).length = rows.length := by simp [clrJ]
theorem clrJ_zero (n : Nat) (rows : List (List Nat)) (d c : Nat) : clrJ p n rows d c (d + 1) = rows := by
  refine List.ext_getElem (clrJ_len _ _ _ _ _) fun j h1 h2 => ?_
  simp only [clrJ, List.getElem_mapIdx]
  rw [if_neg (by omega)]
theorem clrJ_done (n : Nat) (rows : List (List Nat)) (d c i : Nat) (h : rows.length ≤ i) : clrJ p n rows d c i = clrK p n rows d c := by
  refine List.ext_getElem (by simp [clrJ, clrK]) fun j h1 h2 => ?_
  rw [clrJ_len] at h1
  simp only [clrJ, clrK, List.getElem_mapIdx]
  by_cases h3 : d < j
  · rw [if_pos ⟨h3, by omega⟩, if_pos h3]
  · rw [if_neg (fun h4 => h3 h4.1), if_neg h3]
theorem clrJ_getD (n : Nat) (rows : List (List Nat)) (d c i j : Nat) (h : ¬ (d < j ∧ j < i)) : (clrJ p n rows d c i).getD j [] = rows.getD j [] := by
  by_cases hj : j < rows.length
  · rw [List.getD_eq_getElem?_getD, List.getD_eq_getElem?_getD, List.getElem?_eq_getElem (by rw [clrJ_len]; exact hj), List.getElem?_eq_getElem hj]
    simp only [clrJ, List.getElem_mapIdx]
    rw [if_neg h]
  · rw [List.getD_eq_getElem?_getD, List.getD_eq_getElem?_getD, List.getElem?_eq_none (by rw [clrJ_len]; omega), List.getElem?_eq_none (by omega)]
theorem clrJ_step (n : Nat) (rows : List (List Nat)) (d c i : Nat) (hd : d < i) (hi : i < rows.length) :
    (clrJ p n rows d c i).set i (combK p n (rows.getD i []) (rows.getD d []) ((rows.getD i []).getD c 0 * invM p ((rows.getD d []).getD c 0) % p)) = clrJ p n rows d c (i + 1) := by
  refine List.ext_getElem (by simp [clrJ]) fun j h1 h2 => ?_
  rw [List.getElem_set]
  by_cases h : i = j
  · subst h
    rw [if_pos rfl]
    simp only [clrJ, List.getElem_mapIdx]
    rw [if_pos ⟨hd, by omega⟩]
    simp [rowAt, List.getD, hi]
  · rw [if_neg h]
    simp only [clrJ, List.getElem_mapIdx]
    by_cases h3 : d < j ∧ j < i
    · rw [if_pos h3, if_pos ⟨h3.1, by omega⟩]
    · rw [if_neg h3, if_neg (fun h4 => h3 ⟨h4.1, by omega⟩)]
theorem RK.clrJ (hp : 0 < p) {n : Nat} {rows : List (List Nat)} (h : RK p n rows) (d c i : Nat) : RK p n (clrJ p n rows d c i) := by
  refine ⟨by rw [clrJ_len]; exact h.1, fun Y hY => ?_⟩
  unfold Q.clrJ at hY
  rw [List.mem_mapIdx] at hY
  obtain ⟨j, hj, rfl⟩ := hY
  have h3 := h.2 _ (List.getElem_mem hj)
  split
  · exact ⟨combK_red hp _ _ _ _, combK_length _ _ _ _⟩
  · exact h3
theorem rRows_ok (hP : M.Pr p) {f : List Nat} (hf : Pol p f) (h2 : 2 ≤ f.length) : RK p (f.length - 1) (rRows p f) := by
  have h := rRows_start hP hf h2
  refine ⟨h.len, fun X hX => ?_⟩
  obtain ⟨i, hi, rfl⟩ := List.getElem_of_mem hX
  have hi' : i < f.length - 1 := by rw [rRows_len] at hi; exact hi
  have e : rowAt (rRows p f) i = (rRows p f)[i] := by simp [rowAt, List.getD, hi]
  rw [← e]
  exact ⟨h.red i hi', h.rl i hi'⟩
theorem elimK_skip {n c d : Nat} {rows : List (List Nat)} (hc : c < n) (hf : firstRow rows c d (n - d) = n) : elimK p n (n - c) d rows = elimK p n (n - (c + 1)) d rows := by
  rw [show n - c = (n - (c + 1)) + 1 by omega, elimK, show n - (n - (c + 1) + 1) = c by omega]
  simp only [hf, if_true]
theorem elimK_take {n c d a : Nat} {rows : List (List Nat)} (hc : c < n) (hf : firstRow rows c d (n - d) = a) (ha : a ≠ n) : elimK p n (n - c) d rows = elimK p n (n - (c + 1)) (d + 1) (clrK p n (swapRows rows a d) d c) := by
  rw [show n - c = (n - (c + 1)) + 1 by omega, elimK, show n - (n - (c + 1) + 1) = c by omega]
  simp only [hf]
  rw [if_neg ha]
theorem rKer_take (f : List Nat) (j : Nat) : (List.range (j + 1)).map (rVec p f) = (List.range j).map (rVec p f) ++ [rVec p f j] := by rw [List.range_succ, List.map_append]; rfl

end Q
end Go.Proofs.YtbehihanhfmmhaaGreat

namespace Go.Proofs.YtbehihanhfmmhaaGreat
open Go.RowKit

set_option maxRecDepth 100000 in
set_option maxHeartbeats 4000000 in
theorem rkernel_is (p n : Nat) (F : List Nat) (v : Value) (w : World) (hP : Hid (M.Pr p)) (hp2 : p ≤ 1021) (hr : Hid (Rd w v 1 F.length (nats F))) (hF : Hid (Q.Pol p F)) (hn : F.length = n + 1) (hn1 : 1 ≤ n) (hl : n ≤ 900) :
    Calls Tryz.prog 54 #[.int .i64 p, v] w (RetV w (Q.rKer p F)) := by
  have hp : 2 ≤ p := hP.out.1
  obtain ⟨a, cv, rfl⟩ := hr.out.shape
  have HN := Lib.hid hn
  have HR : Hid (Rd w (.slice a (n + 1) cv) 1 F.length (nats F)) := by show Rd _ _ _ _ _; rw [← hn]; exact hr.out
  have hnn : ((n + 1 : Nat) : Int) - 1 = (n : Int) := by omega
  rw [hn]
  clear hn hr
  obtain ⟨n2, hn2⟩ : ∃ n2, n2 = 2 * n := ⟨_, rfl⟩
  have HN2 := Lib.hid hn2
  have hnm : 2 * (n : Int) = (n2 : Int) := by omega
  have hn2l : n2 ≤ 2000 := by omega
  have hn2n : n + n = n2 := by omega
  clear hn2
  have HS := Lib.hid (Q.step_is hP.out hF.out (by have := HN.out; omega))
  have HP01 : Hid (Q.Pol p [0, 1]) := Q.pol_xx hP.out
  have HPW : Hid (∀ i, Q.Pol p (Q.powSeq p F (Q.raiseP p [0, 1] p F) i) ∧ (Q.powSeq p F (Q.raiseP p [0, 1] p F) i).length ≤ n) := fun i => by
    obtain ⟨q1, q2, _⟩ := Q.powSeq_is hP.out hF.out (by have := HN.out; omega) HS.out i
    exact ⟨q1, by have := HN.out; omega⟩
  have HPE : Hid (∀ i, Q.raiseLoop p F (i * p) [1] (Q.remP p [0, 1] F) (i * p) = Q.powSeq p F (Q.raiseP p [0, 1] p F) i) := fun i => Q.rPow_eq hP.out hF.out (by have := HN.out; omega) i
  have HTK : Hid (∀ i, i < n → (Q.rRows p F).take (i + 1) = (Q.rRows p F).take i ++ [Q.rRow p n (Q.powSeq p F (Q.raiseP p [0, 1] p F) i) i]) := fun i hi => by
    have := Q.rRows_take (p := p) F i (by have := HN.out; omega)
    rw [show F.length - 1 = n by have := HN.out; omega] at this
    exact this
  have HROK : Hid (Q.RK p n (Q.rRows p F)) := by
    have := Q.rRows_ok hP.out hF.out (by have := HN.out; omega)
    rw [show F.length - 1 = n by have := HN.out; omega] at this
    exact this
  have HEL : Hid (Q.rEl p F = Q.elimK p n (n - 0) 0 (Q.rRows p F)) := by
    show _ = _
    unfold Q.rEl
    rw [show F.length - 1 = n by have := HN.out; omega, Nat.sub_zero]
  have HEV : Hid (∀ d rows j, Q.rEl p F = (d, rows) → Q.rVec p F j = Q.trim ((rows.getD (d + j) []).drop n)) := fun d rows j h => by
    unfold Q.rVec
    rw [h, show F.length - 1 = n by have := HN.out; omega]; rfl
  have HEK : Hid (∀ d rows, Q.rEl p F = (d, rows) → Q.rKer p F = (List.range (n - d)).map (Q.rVec p F)) := fun d rows h => by
    unfold Q.rKer
    rw [h, show F.length - 1 = n by have := HN.out; omega]
  obtain ⟨i0, hi, hz0, hz1, hz2⟩ := info_parts Tryz.infoZ
  obtain ⟨i1, hi1, hy0, hy1, hy2⟩ := info_parts Tryz.infoS
  have hzp : ((p : Int) == 0) = false := by rw [beq_eq_false_iff_ne]; omega
  have HV0 : Hid (MxV w w (.slice none 0 0) [] []) := MxV.nil (Below.refl _ _)
  go_enter Tryz.func54, Tryz.ntmps54
  go_wp2_with (fail)
  go_loopw [6, 7] (fun rv iv wr => ∃ (i cp : Nat) (ar : Option Addr) (vs : List Value) (Rs : List (List Nat)), rv = .slice ar i cp ∧ iv = .int .i64 i ∧ i ≤ n ∧ Hid (i = Rs.length) ∧ Hid (MxV w wr (.slice ar i cp) vs Rs) ∧ Hid (Rs = (Q.rRows p F).take i)) (fun _ iv _ => n - (intOf iv).toNat)
  case atStart => exact ⟨0, 0, none, [], [], rfl, rfl, by omega, (by show _ = _; rfl), HV0, (by show _ = _; rfl)⟩
  case round =>
    obtain ⟨i, cp, ar, vs, Rs, rfl, rfl, hi', HI, HV, HRs⟩ := hrel
    by_cases hlt : i < n
    · skip
      obtain ⟨N, hN⟩ : ∃ N, N = i * p := ⟨_, rfl⟩
      have hNl : N ≤ 1000000 := by
        have := Nat.mul_le_mul (show i ≤ 900 by omega) hp2
        omega
      have hNi : (i : Int) * (p : Int) = (N : Int) := by rw [hN]; exact (Int.natCast_mul i p).symm
      have HNE := Lib.hid hN
      have hA : Below wr.heap.size wr (wr.alloc (.cells #[.int .i64 0, .int .i64 1] 3)) := (Below.refl _ _).alloc (Nat.le_refl _) _
      have hr01 : Hid (Rd (wr.alloc (.cells #[.int .i64 0, .int .i64 1] 3)) (.slice (some ⟨wr.heap.size, 0, none⟩) 2 2) 1 [0, 1].length (nats [0, 1])) := Rd.of_own (lit2_own wr 0 1)
      have hrF : Hid (Rd (wr.alloc (.cells #[.int .i64 0, .int .i64 1] 3)) (.slice a (n + 1) cv) 1 F.length (nats F)) := HR.out.below (HV.out.below.trans (hA.mono HV.out.below.size)) (Nat.le_refl _)
      have HA := Lib.hid hA
      clear hA hN
      go_wp2_with (fail)
      refine (rpower_is p N [0, 1] F _ _ _ hP hp2 hNl hr01 hrF HP01 hF (by simp) (by have := HN.out; omega) (by have := HN.out; omega)).mono ?_
      rintro e w1 ⟨⟨vm, rfl, hNm⟩, hB1⟩
      rw [HNE.out, HPE.out i] at hNm
      obtain ⟨m, hm⟩ : ∃ m, m = Q.powSeq p F (Q.raiseP p [0, 1] p F) i := ⟨_, rfl⟩
      rw [← hm] at hNm
      have HMP : Hid (Q.Pol p m) := by rw [hm]; exact (HPW.out i).1
      have hml : m.length ≤ n := by rw [hm]; exact (HPW.out i).2
      have HME := Lib.hid hm
      have HB1 : Hid (Below wr.heap.size wr w1) := HA.out.trans (hB1.mono HA.out.size)
      have HRm : Hid (Rd w1 vm 1 m.length (nats m)) := hNm.rd
      obtain ⟨am, cm, hvm⟩ := hNm.rd.shape
      subst hvm
      have HV1 : Hid (MxV w w1 (.slice ar i cp) vs Rs) := HV.out.low HB1.out
      clear hNm hB1 hm hr01 hrF HV
      go_wp2_with (at_make; refine wpList_make_full _ rfl _ _ 22 rfl w1.heap.size 3 i0 (.int .i64 0) 1 Tryz.underlying22 hi hz0 hz1 .i64 .i64 _ _ n2 rfl rfl rfl rfl (by rw [hz2]; omega) (by unfold maxLen; omega) (Nat.le_refl _) ?_)
      intro w2 hown2 hgrow2
      have hB2 := below_of_grown hgrow2
      obtain ⟨g, hg⟩ : ∃ g, g = w1.heap.size := ⟨_, rfl⟩
      have HR2 : Hid (RSt w1 w2 g n2 n2 (Q.rowK n m 0)) := by
        refine ⟨?_, hB2⟩
        rw [← Q.rowK_zero, ← HN2.out, ← nats_zeros, hg]; exact hown2
      rw [← hg]
      clear hown2 hgrow2 hB2
      have HG := Lib.hid hg
      clear hg
      go_wp2_with (fail)
      go_loopw [10] (fun kv wq => ∃ (k : Nat), kv = .int .i64 k ∧ k ≤ n ∧ Hid (RSt w1 wq g n2 n2 (Q.rowK n m k))) (fun kv _ => n - (intOf kv).toNat)
      case atStart => exact ⟨0, rfl, by omega, HR2⟩
      case round =>
        obtain ⟨k, rfl, hk, HSk⟩ := hrel
        have HRmk : Hid (Rd wr (.slice am m.length cm) 1 m.length (nats m)) := HRm.out.below HSk.out.below (Nat.le_refl _)
        by_cases hkn : k < n
        · obtain ⟨old, d3⟩ : ∃ old, wr.cell? ⟨g, k, none⟩ = some (.int .i64 old) := ⟨_, HSk.out.cell (by omega)⟩
          have d4 : wr.frozen? ⟨g, k, none⟩ = false := HSk.out.free k
          obtain ⟨x, hx⟩ : ∃ x, x = m.getD k 0 := ⟨_, rfl⟩
          have HSn : Hid (RSt w1 (wr.setCell ⟨g, k, none⟩ (.int .i64 (x : Int))) g n2 n2 (Q.rowK n m (k + 1))) := by
            have := HSk.out.set k x
            rw [hx, Q.rowK_step n m k (by omega), ← hx] at this; exact this
          have HX := Lib.hid hx
          have hkn2 : (k : Int) < (n2 : Int) := by omega
          clear hx
          go_wp2_with (fail)
          refine (at_is m k _ _ HRmk (by omega) (by omega)).mono ?_
          rintro e w3 ⟨rfl, hw3⟩
          rw [← HX.out]
          subst hw3
          go_wp2_with (fail)
          go_roundw
          case rel => exact ⟨k + 1, by go_num, by omega, HSn⟩
          case measure => simp [intOf]; omega
        · obtain rfl : k = n := by omega
          obtain ⟨x, hx⟩ : ∃ x, x = m.getD i 0 := ⟨_, rfl⟩
          have hxp : x < p := by rw [hx]; exact HMP.out.1.getD (by omega) _
          have c1 : wr.cell? ⟨g, i, none⟩ = some (.int .i64 (x : Int)) := by
            rw [HSk.out.cell (by omega), Q.rowK_getD _ _ _ _ (by omega), if_pos hlt, hx]
          have f1 : wr.frozen? ⟨g, i, none⟩ = false := HSk.out.free i
          obtain ⟨X, hX⟩ : ∃ X, X = (x + p - 1) % p := ⟨_, rfl⟩
          have hXp : X < p := by rw [hX]; exact Nat.mod_lt _ (by omega)
          have hXi : ((x : Int) + (p : Int) - 1).tmod (p : Int) = (X : Int) := by
            rw [hX, show (x : Int) + (p : Int) - 1 = ((x + p - 1 : Nat) : Int) by omega]; rfl
          have hw1 : IntKind.i64.wrap ((x : Int) + (p : Int)) = (x : Int) + (p : Int) := IntWalk.i64_in _ (by omega)
          have hw2 : IntKind.i64.wrap ((x : Int) + (p : Int) - 1) = (x : Int) + (p : Int) - 1 := IntWalk.i64_in _ (by omega)
          have hw3 : IntKind.i64.wrap (X : Int) = (X : Int) := IntWalk.i64_in _ (by omega)
          have HROW : Hid (((Q.rowK k m k).set i X).set (k + i) 1 = Q.rRow p k m i) := by
            show _ = _
            rw [hX, hx]; exact Q.rowK_done k m i hlt
          have hik2 : (i : Int) < (n2 : Int) := by omega
          have hki2 : (k : Int) + (i : Int) < (n2 : Int) := by omega
          have HS1 := HSk.out.set i X
          obtain ⟨old, c3⟩ : ∃ old, (wr.setCell ⟨g, i, none⟩ (.int .i64 (X : Int))).cell? ⟨g, k + i, none⟩ = some (.int .i64 old) := ⟨_, HS1.cell (by omega)⟩
          have f3 : (wr.setCell ⟨g, i, none⟩ (.int .i64 (X : Int))).frozen? ⟨g, k + i, none⟩ = false := HS1.free _
          have HS5 : Hid (RSt w1 ((wr.setCell ⟨g, i, none⟩ (.int .i64 (X : Int))).setCell ⟨g, k + i, none⟩ (.int .i64 1)) g n2 n2 (Q.rRow p k m i)) := by
            have := HS1.set (k + i) 1
            rw [HROW.out] at this; exact this
          have HCN := cell_one_new ((wr.setCell ⟨g, i, none⟩ (.int .i64 (X : Int))).setCell ⟨g, k + i, none⟩ (.int .i64 1)) (.slice (some ⟨g, 0, none⟩) n2 n2) 22
          rw [show ((wr.setCell ⟨g, i, none⟩ (.int .i64 (X : Int))).setCell ⟨g, k + i, none⟩ (.int .i64 1)).heap.size = wr.heap.size by simp] at HCN
          have HCN := Lib.hid HCN
          clear hX hx HS1
          go_wp2_with ((at_builtin; refine wpList_append_own _ rfl _ _ 53 rfl w.heap.size 22 i1 (.slice none 0 0) 1 24 Tryz.underlying53 hi1 hy0 hy1 hy2 rfl (by decide) _ _ _ rfl ((HV1.out.low HS5.out.below).own.alloc _) ⟨_, 0, none⟩ 1 1 [.slice (some ⟨g, 0, none⟩) n2 n2] rfl rfl HCN.out (by intro u hu; simp at hu; rw [hu]; rfl) (by unfold maxLen; have := HI.out; omega) (by have := HI.out; omega) (by simp; have h8 := HV1.out.below.size; have h9 := HSk.out.below.size; omega) ?_))
          intro v' w6 hown6 hgrow6 _
          have HV6 : Hid (MxV w w6 v' (vs ++ [.slice (some ⟨g, 0, none⟩) n2 n2]) (Rs ++ [Q.rRow p k m i])) := by
            have hV5 := HV1.out.low HS5.out.below
            refine hV5.append ?_ ?_ hgrow6
            · have := HS5.out.new
              unfold NewL at this
              exact own_base this HV1.out.below.size
            · exact hown6
          have HRs6 : Hid (Rs ++ [Q.rRow p k m i] = (Q.rRows p F).take (i + 1)) := by
            show _ = _
            rw [HTK.out i hlt, ← HME.out, HRs.out]
          have HI6 : Hid (i + 1 = (Rs ++ [Q.rRow p k m i]).length) := by show _ = _; rw [List.length_append, ← HI.out]; rfl
          obtain ⟨a6, cp6, hv6, _⟩ := own_form hown6
          subst hv6
          rw [← HI.out] at HV6 ⊢
          clear hown6 hgrow6
          go_wp2_with (fail)
          go_roundw
          case rel => exact ⟨i + 1, cp6, a6, _, _, rfl, by go_num, by omega, HI6, HV6, HRs6⟩
          case measure => simp [intOf]; omega
    · obtain rfl : n = i := by omega
      obtain ⟨a9, cp9, hv9, hcp9, _, hb9⟩ := own_form HV.out.own
      injection hv9 with e1 e2 e3
      subst e1 e3
      obtain ⟨b, hab, hwb, hbl⟩ := hb9 (by omega)
      subst hab
      have hRe : Rs = Q.rRows p F := by rw [HRs.out]; exact List.take_of_length_le (by rw [Q.rRows_len]; have := HN.out; omega)
      have HM0 : Hid (Mx w wr b n cp vs (Q.rRows p F)) := ⟨by have := HV.out.own; rw [← HI.out] at this; exact this, fun j u M h1 h2 => HV.out.rows j u M h1 (by rw [hRe]; exact h2), by rw [← hRe]; exact HI.out.symm, HV.out.below⟩
      have hcpn : n ≤ cp := by omega
      clear hb9 hcp9 hRe e2 hwb hbl HV HRs HI HTK HPE HPW HS
      go_wp2_with (fail)
      go_loopw [11, 12] (fun dv jv wx => ∃ (d c : Nat) (vs : List Value) (rows : List (List Nat)), dv = .int .i64 d ∧ jv = .int .i64 c ∧ c ≤ n ∧ d ≤ c ∧ Hid (Mx w wx b n cp vs rows) ∧ Hid (Q.RK p n rows) ∧ Hid (Q.rEl p F = Q.elimK p n (n - c) d rows)) (fun _ jv _ => n - (intOf jv).toNat)
      case atStart => exact ⟨0, 0, vs, _, rfl, rfl, by omega, by omega, HM0, HROK, HEL⟩
      case round =>
        obtain ⟨d, c, vs, rows, rfl, rfl, hc, hdc, HM, HO, HE⟩ := hrel
        by_cases hlt : c < n
        · obtain ⟨I, hI⟩ : ∃ I, I = Q.firstRow rows c d (n - d) := ⟨_, rfl⟩
          have HI := Lib.hid hI
          clear hI
          go_wp2_with (fail)
          go_loop [13, 14] (fun pv iv => ∃ (z : Int) (i : Nat), pv = .int .i64 z ∧ iv = .int .i64 i ∧ i ≤ n ∧ d ≤ i ∧ ((z = -1 ∧ Hid (I = Q.firstRow rows c i (n - i))) ∨ ∃ A : Nat, z = (A : Int) ∧ A < n ∧ d ≤ A ∧ Hid (I = A) ∧ Hid ((rows.getD A []).getD c 0 ≠ 0))) (fun _ iv => n - (intOf iv).toNat)
          case atStart => exact ⟨-1, d, rfl, rfl, by omega, by omega, .inl ⟨rfl, HI⟩⟩
          case round =>
            obtain ⟨z, i, rfl, rfl, hi', hdi, hz⟩ := hrel
            rcases hz with ⟨rfl, HII⟩ | ⟨A, rfl, hA, hdA, HIA, HX0⟩
            · by_cases hin : i < n
              · have hXo := HO.out.getD hin
                obtain ⟨X, hX⟩ : ∃ X, X = rows.getD i [] := ⟨_, rfl⟩
                rw [← hX] at hXo
                obtain ⟨aX, cpX, e1, e2, e3⟩ := HM.out.cell hin
                rw [← hX, hXo.2, ← HN2.out] at e1 e2 e3
                obtain ⟨gX, rfl, _, _, hgc, _⟩ := own_cells e2 (by omega)
                obtain ⟨x, hx⟩ : ∃ x, x = X.getD c 0 := ⟨_, rfl⟩
                have e4 : wr.cell? ⟨gX, c, none⟩ = some (.int .i64 (x : Int)) := by rw [hgc c (by omega), hx]
                have HX : Hid (x = (rows.getD i []).getD c 0) := by show _ = _; rw [hx, hX]
                have hin1 : (i : Int) < (n : Int) := by omega
                have hcn2 : (c : Int) < (n2 : Int) := by omega
                clear hX hXo hx e2 e3 hgc
                by_cases hx0 : x = 0
                · have hz : ((x : Int) == 0) = true := by simp [hx0]
                  have HN' : Hid (I = Q.firstRow rows c (i + 1) (n - (i + 1))) := by
                    have h1 := HII.out
                    rw [Q.firstRow_next rows c i (n - i) (by omega) (by rw [← HX.out]; exact hx0)] at h1
                    rw [show n - (i + 1) = n - i - 1 by omega]; exact h1
                  clear hx0
                  go_wp2_with (fail)
                  go_round
                  case rel => exact ⟨-1, i + 1, rfl, by go_num, by omega, by omega, .inl ⟨rfl, HN'⟩⟩
                  case measure => simp [intOf]; omega
                · have hz : ((x : Int) == 0) = false := by simp; omega
                  have HIi : Hid (I = i) := by show _ = _; rw [HII.out]; exact Q.firstRow_stop rows c i (n - i) (.inr (by rw [← HX.out]; exact hx0))
                  have HX0 : Hid ((rows.getD i []).getD c 0 ≠ 0) := by show _ ≠ _; rw [← HX.out]; exact hx0
                  clear hx0
                  go_wp2_with (fail)
                  go_round
                  case rel => exact ⟨(i : Int), i + 1, rfl, by go_num, by omega, by omega, .inr ⟨i, rfl, hin, hdi, HIi, HX0⟩⟩
                  case measure => simp [intOf]; omega
              · obtain rfl : n = i := by omega
                have HE' : Hid (Q.rEl p F = Q.elimK p n (n - (c + 1)) d rows) := by
                  show _ = _
                  rw [HE.out]
                  exact Q.elimK_skip hlt (by rw [← HI.out, HII.out]; exact Q.firstRow_stop rows c n (n - n) (.inl (by omega)))
                clear hin
                go_wp2_with (fail)
                go_roundw
                case rel => exact ⟨d, c + 1, vs, rows, rfl, by go_num, by omega, by omega, HM, HO, HE'⟩
                case measure => simp [intOf]; omega
            · have hA0 : (0 : Int) ≤ (A : Int) := Int.natCast_nonneg A
              have hAn : (A : Int) < (n : Int) := by omega
              have hA1 : decide ((A : Int) < 0) = false := by rw [decide_eq_false_iff_not]; omega
              have hXo := HO.out.getD hA
              have hDo := HO.out.getD (show d < n by omega)
              obtain ⟨X, hX⟩ : ∃ X, X = rows.getD A [] := ⟨_, rfl⟩
              obtain ⟨D, hD⟩ : ∃ D, D = rows.getD d [] := ⟨_, rfl⟩
              rw [← hX] at hXo
              rw [← hD] at hDo
              obtain ⟨aX, cpX, e1, e2, e3⟩ := HM.out.cell hA
              obtain ⟨aD, cpD, q1, q2, q3⟩ := HM.out.cell (show d < n by omega)
              rw [← hX, hXo.2, ← HN2.out] at e1 e2 e3
              rw [← hD, hDo.2, ← HN2.out] at q1 q2 q3
              obtain ⟨gX, rfl, hgX1, hgX2, hgc, _⟩ := own_cells e2 (by omega)
              obtain ⟨x, hx⟩ : ∃ x, x = X.getD c 0 := ⟨_, rfl⟩
              have hxp : x < p := by rw [hx]; exact hXo.1.getD (by omega) _
              have hx0 : x ≠ 0 := by rw [hx, hX]; exact HX0.out
              have hne : gX ≠ b := fun e => own_ty_ne e2 HM.out.own (by decide) (by simp [Value.ownBlock, e])
              have hne' : ¬ b = gX := fun e => hne e.symm
              have f1 := HM.out.free A
              have f2 := HM.out.free d
              obtain ⟨old2, f3⟩ := cell?_setCell_some (w := wr) (p := ⟨b, A, none⟩) (q := ⟨b, d, none⟩) (x := .slice aD n2 cpD) (v := .slice aD n2 cpD) q1
              obtain ⟨S, hS⟩ : ∃ S, S = Q.swapRows rows A d := ⟨_, rfl⟩
              have HSO : Hid (Q.RK p n S) := by rw [hS]; exact HO.out.swap hA (by omega)
              have hRl : rows.length = n := HO.out.1
              have HSX : Hid (S.getD d [] = X) := by
                show _ = _
                rw [hS, Q.swapRows, Q.getD_set _ _ _ _ (by rw [List.length_set, hRl]; omega), if_pos rfl, hX]
              have HM5 : Hid (Mx w ((wr.setCell ⟨b, A, none⟩ (.slice aD n2 cpD)).setCell ⟨b, d, none⟩ (.slice (some ⟨gX, 0, none⟩) n2 cpX)) b n cp ((vs.set A (.slice aD n2 cpD)).set d (.slice (some ⟨gX, 0, none⟩) n2 cpX)) S) := by
                have h1 := HM.out.set (i := A) (v := .slice aD n2 cpD) (M := D) (by rw [hDo.2, ← HN2.out]; exact q2)
                have h2 := h1.set (i := d) (v := .slice (some ⟨gX, 0, none⟩) n2 cpX) (M := X) (by rw [hXo.2, ← HN2.out]; exact own_set_other e2 (own_ty_ne e2 HM.out.own (by decide)) _)
                rw [hX, hD] at h2
                rw [hS]; exact h2
              have HVd : Hid (((vs.set A (.slice aD n2 cpD)).set d (.slice (some ⟨gX, 0, none⟩) n2 cpX))[d]? = some (.slice (some ⟨gX, 0, none⟩) n2 cpX)) := by
                show _ = _
                rw [List.getElem?_set, if_pos rfl, if_pos (by rw [List.length_set, HM.out.vlen]; omega)]
              have g1 : ((wr.setCell ⟨b, A, none⟩ (.slice aD n2 cpD)).setCell ⟨b, d, none⟩ (.slice (some ⟨gX, 0, none⟩) n2 cpX)).cell? ⟨gX, c, none⟩ = some (.int .i64 (x : Int)) := by
                rw [World.cell?_setCell_other _ _ _ _ (by intro e; injection e with e; exact hne' e), World.cell?_setCell_other _ _ _ _ (by intro e; injection e with e; exact hne' e), hgc c (by omega), hx]
              have HE' : Hid (Q.rEl p F = Q.elimK p n (n - (c + 1)) (d + 1) (Q.clrK p n S d c)) := by
                show _ = _
                rw [HE.out, hS]
                exact Q.elimK_take hlt (by rw [← HI.out, HIA.out]) (by omega)
              have HXE : Hid (x = X.getD c 0) := hx
              have HXO := Lib.hid hXo
              have hdn : d < n := by omega
              have hdn1 : (d : Int) < (n : Int) := by omega
              have hcn2 : (c : Int) < (n2 : Int) := by omega
              clear hX hD hXo hDo e2 e3 q2 q3 hx hS hRl hgc HX0 HIA
              by_cases hin : i < n
              all_goals
                have hin1 : decide ((i : Int) < (n : Int)) = decide (i < n) := by simp
                go_wp2_with (fail)
                refine (rinverse_is p x _ hP hp2 hxp hx0).mono ?_
                rintro e w6 ⟨rfl, hw6⟩
                subst hw6
                generalize (wr.setCell ⟨b, A, none⟩ (.slice aD n2 cpD)).setCell ⟨b, d, none⟩ (.slice (some ⟨gX, 0, none⟩) n2 cpX) = W5 at *
                obtain ⟨B, hB⟩ : ∃ B, B = Q.invM p x := ⟨_, rfl⟩
                rw [← hB]
                have hBp : B < p := by rw [hB]; exact (Q.inv_spec hP.out hxp hx0).1
                have HBE : Hid (B = Q.invM p ((S.getD d []).getD c 0)) := by show _ = _; rw [hB, HSX.out, ← HXE.out]
                clear hB g1 f1 f2 f3 e1 q1 hin hin1
                go_wp2_with (fail)
                go_loopw [17] (fun iv wx => ∃ (i : Nat) (vs : List Value), iv = .int .i64 i ∧ d < i ∧ i ≤ n ∧ Hid (Mx w wx b n cp vs (Q.clrJ p n S d c i)) ∧ Hid (vs[d]? = some (.slice (some ⟨gX, 0, none⟩) n2 cpX))) (fun iv _ => n - (intOf iv).toNat)
                case atStart => exact ⟨d + 1, _, by go_num, by omega, by omega, by show Mx _ _ _ _ _ _ _; rw [Q.clrJ_zero]; exact HM5.out, HVd⟩
                case round =>
                  obtain ⟨i, vsi, rfl, hdi2, hi2, HMi, HVdi⟩ := hrel
                  have hSl : S.length = n := HSO.out.1
                  by_cases hin : i < n
                  · obtain ⟨W, rfl⟩ : ∃ W : World, W = wr := ⟨_, rfl⟩
                    have hYo := HSO.out.getD hin
                    obtain ⟨aY, cpY, e1, e2, e3⟩ := HMi.out.cell hin
                    rw [Q.clrJ_getD _ _ _ _ _ _ (by omega), hYo.2, ← HN2.out] at e1 e2 e3
                    obtain ⟨Y, hY⟩ : ∃ Y, Y = S.getD i [] := ⟨_, rfl⟩
                    rw [← hY] at hYo e2
                    obtain ⟨gY, rfl, hgY1, hgY2, hgYc, _⟩ := own_cells e2 (by omega)
                    have hXr := HMi.out.rows d _ X HVdi.out (by
                      have h1 := Q.clrJ_getD (p := p) n S d c i d (by omega)
                      rw [HSX.out] at h1
                      have h2 : d < (Q.clrJ p n S d c i).length := by rw [Q.clrJ_len, hSl]; omega
                      rw [List.getElem?_eq_getElem h2, ← h1]
                      simp [List.getD, h2])
                    rw [HXO.out.2, ← HN2.out] at hXr
                    obtain ⟨gX', hgX', _, hgX3, hgXc, _⟩ := own_cells hXr (by omega)
                    injection hgX' with hgX'
                    injection hgX' with hgX'
                    subst hgX'
                    obtain ⟨y, hy⟩ : ∃ y, y = Y.getD c 0 := ⟨_, rfl⟩
                    have hyp : y < p := by rw [hy]; exact hYo.1.getD (by omega) _
                    have e4 : W.cell? ⟨gY, c, none⟩ = some (.int .i64 (y : Int)) := by rw [hgYc c (by omega), hy]
                    obtain ⟨T, hT⟩ : ∃ T, T = y * B % p := ⟨_, rfl⟩
                    have hTp : T < p := by rw [hT]; exact Nat.mod_lt _ (by omega)
                    have hm := mul_bd1021 y B p hyp hBp hp2
                    have hTe : ((y : Int) * (B : Int)) % (p : Int) = (T : Int) := by rw [hT, Int.natCast_emod, Int.natCast_mul]
                    have hTt : ((y : Int) * (B : Int)).tmod (p : Int) = (T : Int) := by rw [Int.tmod_eq_emod_of_nonneg hm.1]; exact hTe
                    have hTw : IntKind.i64.wrap ((y : Int) * (B : Int)) = (y : Int) * (B : Int) := IntWalk.i64_in _ (by omega)
                    obtain ⟨C, hC⟩ : ∃ C, C = Q.combK p n Y X T := ⟨_, rfl⟩
                    have HCL : Hid (C.length = n2) := by show _ = _; rw [hC, Q.combK_length, HN2.out]
                    have HCT : Hid (∀ k, k < n2 → C.take (k + 1) = C.take k ++ [(Y.getD k 0 + (p - T) * X.getD k 0) % p]) := fun k hk => by rw [hC]; exact Q.combK_take n Y X T k (by have := HN2.out; omega)
                    have HCS : Hid ((Q.clrJ p n S d c i).set i C = Q.clrJ p n S d c (i + 1)) := by
                      show _ = _
                      have h1 := Q.clrJ_step (p := p) n S d c i hdi2 (by omega)
                      rw [← HBE.out, ← hY, ← hy, ← hT, HSX.out, ← hC] at h1
                      exact h1
                    have HYC := Lib.hid hgYc
                    have HXC := Lib.hid hgXc
                    have HYR : Hid (Q.Red p Y) := hYo.1
                    have hbW : b < W.heap.size := (HMi.out.own.lt b rfl).2
                    have hin1 : (i : Int) < (n : Int) := by omega
                    have hL0 : Hid (LSt W W (.slice none 0 0) (C.take 0)) := by show LSt _ _ _ _; rw [List.take_zero]; exact LSt.start W
                    have fb := HMi.out.free i
                    have HFB := Lib.hid fb
                    have HEB := Lib.hid e1
                    clear hY hYo e2 e3 hXr hgYc hgXc hy hT hC hTe fb
                    go_wp2_with (fail)
                    go_loopw [19, 20] (fun lv kv wx => ∃ (k cap3 : Nat) (a3 : Option Addr), lv = .slice a3 k cap3 ∧ kv = .int .i64 k ∧ k ≤ n2 ∧ Hid (LSt W wx (.slice a3 k cap3) (C.take k))) (fun _ kv _ => n2 - (intOf kv).toNat)
                    case atStart => exact ⟨0, 0, none, rfl, rfl, by omega, hL0⟩
                    case round =>
                      obtain ⟨k, cap3, a3, rfl, rfl, hk, HL⟩ := hrel
                      by_cases hkn : k < n2
                      · obtain ⟨yk, hyk⟩ : ∃ yk, yk = Y.getD k 0 := ⟨_, rfl⟩
                        obtain ⟨xk, hxk⟩ : ∃ xk, xk = X.getD k 0 := ⟨_, rfl⟩
                        have hykp : yk < p := by rw [hyk]; exact HYR.out.getD (by omega) _
                        have hxkp : xk < p := by rw [hxk]; exact HXO.out.1.getD (by omega) _
                        have c1 : wr.cell? ⟨b, i, none⟩ = some (.slice (some ⟨gY, 0, none⟩) n2 cpY) := (HL.out.2.cell (p := ⟨b, i, none⟩) hbW).trans HEB.out
                        have c2 : wr.cell? ⟨gY, k, none⟩ = some (.int .i64 (yk : Int)) := (HL.out.2.cell (p := ⟨gY, k, none⟩) hgY2).trans (by rw [HYC.out k hkn, hyk])
                        have c3 : wr.cell? ⟨gX, k, none⟩ = some (.int .i64 (xk : Int)) := (HL.out.2.cell (p := ⟨gX, k, none⟩) hgX3).trans (by rw [HXC.out k hkn, hxk])
                        obtain ⟨U, hU⟩ : ∃ U, U = p - T := ⟨_, rfl⟩
                        have hUp : U ≤ 1021 := by omega
                        have hpU : (p : Int) - (T : Int) = (U : Int) := by omega
                        have hUx := Nat.mul_le_mul hUp (show xk ≤ 1021 by omega)
                        have hUx0 : (0 : Int) ≤ (U : Int) * (xk : Int) ∧ (U : Int) * (xk : Int) ≤ 1042441 := by
                          rw [← Int.natCast_mul]; exact ⟨Int.natCast_nonneg _, by omega⟩
                        obtain ⟨z, hz⟩ : ∃ z, z = (yk + U * xk) % p := ⟨_, rfl⟩
                        have hze : ((yk : Int) + (U : Int) * (xk : Int)) % (p : Int) = (z : Int) := by rw [hz, Int.natCast_emod, Int.natCast_add, Int.natCast_mul]
                        have hzt : ((yk : Int) + (U : Int) * (xk : Int)).tmod (p : Int) = (z : Int) := by rw [Int.tmod_eq_emod_of_nonneg (by omega)]; exact hze
                        have hw0 : IntKind.i64.wrap (U : Int) = (U : Int) := IntWalk.i64_in _ (by omega)
                        have hw1 : IntKind.i64.wrap ((U : Int) * (xk : Int)) = (U : Int) * (xk : Int) := IntWalk.i64_in _ (by omega)
                        have hw2 : IntKind.i64.wrap ((yk : Int) + (U : Int) * (xk : Int)) = (yk : Int) + (U : Int) * (xk : Int) := IntWalk.i64_in _ (by omega)
                        have HT' : Hid (C.take (k + 1) = C.take k ++ [z]) := by show _ = _; rw [HCT.out k hkn, hz, hyk, hxk, hU]
                        have hkl : (C.take k).length = k := by rw [List.length_take, HCL.out]; omega
                        obtain ⟨a3', cap3', hv3, hc3, hc4⟩ := HL.out.shape
                        injection hv3 with h1 h2 h3
                        subst h1 h3
                        rw [hkl] at hc3
                        have HOWN : Hid (wr.ownsRow W.heap.size 3 1 (.slice a3 k cap3) k (nats (C.take k))) := by
                          have := HL.out.1; unfold NewL at this; rw [hkl] at this; exact this
                        have ho1 : (Value.slice a3 k cap3).ownBlock ≠ some b := fun e => by have h1 := HL.out.1.lt _ e; omega
                        have ho2 : (Value.slice a3 k cap3).ownBlock ≠ some gY := fun e => by have h1 := HL.out.1.lt _ e; omega
                        have ho3 : (Value.slice a3 k cap3).ownBlock ≠ some gX := fun e => by have h1 := HL.out.1.lt _ e; omega
                        have HKL := Lib.hid hkl
                        have hle := HL.out.2.size
                        have hp0 : (p = 0) = False := eq_false (by omega)
                        have hin1 : (i : Int) < (n : Int) := by omega
                        have hk2 : (k : Int) < (n2 : Int) := by omega
                        clear hyk hxk hU hz hze hUx h2 hkl
                        go_wp2_with (fail)
                        go_region_held3 (fun w' => w'.cell? ⟨b, i, none⟩ = some (.slice (some ⟨gY, 0, none⟩) n2 cpY) ∧ w'.cell? ⟨gY, k, none⟩ = some (.int .i64 (yk : Int)) ∧ w'.cell? ⟨gX, k, none⟩ = some (.int .i64 (xk : Int)))
                          (first | go_keep | (
                            have hS : (wr.alloc (Obj.cells #[Value.int .i64 z] 3)).drew.cell? ⟨b, i, none⟩ = some (.slice (some ⟨gY, 0, none⟩) n2 cpY) ∧ (wr.alloc (Obj.cells #[Value.int .i64 z] 3)).drew.cell? ⟨gY, k, none⟩ = some (.int .i64 (yk : Int)) ∧ (wr.alloc (Obj.cells #[Value.int .i64 z] 3)).drew.cell? ⟨gX, k, none⟩ = some (.int .i64 (xk : Int)) := by assumption
                            exact ⟨by rw [hgrow.cell_far _ (by simp; omega) (Ne.symm ho1)]; exact hS.1, by rw [hgrow.cell_far _ (by simp; omega) (Ne.symm ho2)]; exact hS.2.1, by rw [hgrow.cell_far _ (by simp; omega) (Ne.symm ho3)]; exact hS.2.2⟩))
                          ((refine step_append_lies _ (by rfl) _ _ _ (by rfl) W.heap.size 3 i0 (.int .i64 0) 1 8 Tryz.underlying22 hi hz0 hz1 hz2 rfl (by omega) (.slice a3 k cap3) k (nats (C.take k)) (by rfl) ((HOWN.out.alloc _).drew) ⟨wr.heap.size, 0, none⟩ 1 1 [.int .i64 z] (by rfl) (by rfl) (World.news_of_block (cs := #[.int .i64 z]) (t := 3) (fr := (0, 0)) (heap_alloc_new wr _)) (by simp [Value.oneCell']) (by omega) (by unfold maxLen; omega) (by omega) (by have := HL.out.2.size; simp; omega) (wr.heap.size + 1) (by simp) ?_; intro gg cap w3 hown3 hgrow hat hlt3))
                        have HL4 : Hid (LSt W w3 (.slice (some ⟨gg, 0, none⟩) (k + 1) cap) (C.take (k + 1))) := by
                          show LSt _ _ _ _
                          rw [HT'.out]
                          exact HL.out.push_drew (by rw [HKL.out]) hown3 hgrow
                        clear hown3 hgrow
                        go_wp2_with (fail)
                        go_roundw
                        case rel => exact ⟨k + 1, cap, _, rfl, by go_num, by omega, HL4⟩
                        case measure => simp [intOf]; omega
                      · obtain rfl : n2 = k := by omega
                        have hCt : C.take n2 = C := List.take_of_length_le (by rw [HCL.out]; omega)
                        have HNC : Hid (wr.ownsRow w.heap.size 3 1 (.slice a3 n2 cap3) C.length (nats C)) := by
                          have h1 := HL.out.1
                          unfold NewL at h1
                          rw [hCt] at h1
                          exact own_base h1 HMi.out.below.size
                        have HMn : Hid (Mx w (wr.setCell ⟨b, i, none⟩ (.slice a3 n2 cap3)) b n cp (vsi.set i (.slice a3 n2 cap3)) (Q.clrJ p n S d c (i + 1))) := by
                          have h1 := (HMi.out.low HL.out.2).set (i := i) (v := .slice a3 n2 cap3) (M := C) HNC.out
                          rw [HCS.out] at h1; exact h1
                        have HVn : Hid ((vsi.set i (.slice a3 n2 cap3))[d]? = some (.slice (some ⟨gX, 0, none⟩) n2 cpX)) := by
                          show _ = _
                          rw [List.getElem?_set, if_neg (by omega)]; exact HVdi.out
                        have c1 : wr.cell? ⟨b, i, none⟩ = some (.slice (some ⟨gY, 0, none⟩) n2 cpY) := (HL.out.2.cell (p := ⟨b, i, none⟩) hbW).trans HEB.out
                        have f1 : wr.frozen? ⟨b, i, none⟩ = false := (HL.out.2.frozen (p := ⟨b, i, none⟩) hbW).trans HFB.out
                        clear hCt
                        go_wp2_with (fail)
                        go_roundw
                        case rel => exact ⟨i + 1, _, by go_num, by omega, by omega, HMn, HVn⟩
                        case measure => simp [intOf]; omega
                  · obtain rfl : n = i := by omega
                    have HMe : Hid (Mx w wr b n cp vsi (Q.clrK p n S d c)) := by
                      have := HMi.out
                      rw [Q.clrJ_done _ _ _ _ _ (by omega)] at this; exact this
                    have HOe : Hid (Q.RK p n (Q.clrK p n S d c)) := by
                      have := HSO.out.clrJ (by omega) d c n
                      rw [Q.clrJ_done _ _ _ _ _ (by omega)] at this; exact this
                    clear hin
                    go_wp2_with (fail)
                    go_roundw
                    case rel => exact ⟨d + 1, c + 1, vsi, _, by go_num, by go_num, by omega, by omega, HMe, HOe, HE'⟩
                    case measure => simp [intOf]; omega
        · obtain rfl : n = c := by omega
          have HEe : Hid (Q.rEl p F = (d, rows)) := by show _ = _; rw [HE.out, Nat.sub_self]; rfl
          obtain ⟨W, rfl⟩ : ∃ W : World, W = wr := ⟨_, rfl⟩
          have HVs : Hid (MxV W W (.slice none 0 0) [] []) := MxV.nil (Below.refl _ _)
          have hdn2 : (n2 : Int) - (n : Int) = (n : Int) := by omega
          have hnn2 : (n : Int) ≤ (n2 : Int) := by omega
          clear HE
          go_wp2_with (fail)
          go_loopw [21, 22] (fun ov iv wx => ∃ (j i cp1 : Nat) (a1 : Option Addr) (vs1 : List Value) (Bs : List (List Nat)), ov = .slice a1 j cp1 ∧ iv = .int .i64 i ∧ i ≤ n ∧ Hid (i = d + j) ∧ Hid (j = Bs.length) ∧ Hid (MxV W wx (.slice a1 j cp1) vs1 Bs) ∧ Hid (Bs = (List.range j).map (Q.rVec p F))) (fun _ iv _ => n - (intOf iv).toNat)
          case atStart => exact ⟨0, d, 0, none, [], [], rfl, rfl, hdc, (by show _ = _; rfl), (by show _ = _; rfl), HVs, (by show _ = _; rfl)⟩
          case round =>
            obtain ⟨j, i, cp1, a1, vs1, Bs, rfl, rfl, hi2, HIJ, HJ, HV, HBs⟩ := hrel
            by_cases hin : i < n
            · have hYo := HO.out.getD hin
              obtain ⟨Y, hY⟩ : ∃ Y, Y = rows.getD i [] := ⟨_, rfl⟩
              obtain ⟨aY, cpY, e1, e2, e3⟩ := (HM.out.low HV.out.below).cell hin
              rw [← hY] at hYo e1 e2
              rw [hYo.2, ← HN2.out] at e1 e2
              have hcY : n2 ≤ cpY := by obtain ⟨_, _, h1, h2, _⟩ := own_form e2; injection h1 with _ _ h1; omega
              obtain ⟨gY, rfl, hgY1, hgY2, hgYc, _⟩ := own_cells e2 (by omega)
              obtain ⟨D, hD⟩ : ∃ D, D = Y.drop n := ⟨_, rfl⟩
              have hDl : n = D.length := by rw [hD, List.length_drop, hYo.2]; omega
              have HRO : Hid (∀ q, q < D.length → wr.cell? ⟨gY, n + q, none⟩ = some (.int .i64 (D.getD q 0 : Nat))) := fun q hq => by
                rw [hgYc (n + q) (by omega), hD]
                simp [List.getD, List.getElem?_drop]
              have HRV : Hid (Q.rVec p F j = Q.trim D) := by
                show _ = _
                rw [HEV.out d rows j HEe.out, ← HIJ.out, ← hY, hD]
              have HDL := Lib.hid hDl
              obtain ⟨cq, hcq⟩ : ∃ cq, cq = cpY - n := ⟨_, rfl⟩
              have hcq1 : (cpY : Int) - (n : Int) = (cq : Int) := by omega
              have hcq2 : n ≤ cq := by omega
              have hin1 : (i : Int) < (n : Int) := by omega
              clear hY hYo e2 e3 hgYc hD hDl hcq
              go_wp2_with (fail)
              refine (rtrimO_is D gY n (n2 - n) (cpY - n) _ (by have := HDL.out; omega) HRO hgY2 (by omega) (by omega)).mono ?_
              rintro e w5 ⟨⟨v5, rfl, hN5⟩, hB5⟩
              rw [← HRV.out] at hN5
              have HV5 : Hid (MxV W w5 (.slice a1 j cp1) vs1 Bs) := HV.out.low hB5
              have HN5 : Hid (w5.ownsRow W.heap.size 3 1 v5 (Q.rVec p F j).length (nats (Q.rVec p F j))) := own_base hN5 HV.out.below.size
              obtain ⟨a5, c5, hv5⟩ := hN5.rd.shape
              subst hv5
              clear hN5 hB5 HRO e1
              go_wp2_with ((at_builtin; refine wpList_append_own _ rfl _ _ 53 rfl W.heap.size 22 i1 (.slice none 0 0) 1 24 Tryz.underlying53 hi1 hy0 hy1 hy2 rfl (by decide) _ _ _ rfl (HV5.out.own.alloc _) ⟨w5.heap.size, 0, none⟩ 1 1 [.slice a5 (Q.rVec p F j).length c5] rfl rfl (cell_one_new _ _ _) (by intro u hu; simp at hu; rw [hu]; rfl) (by unfold maxLen; have := HJ.out; have := HIJ.out; omega) (by have := HJ.out; have := HIJ.out; omega) (by simp; have h8 := HV5.out.below.size; omega) ?_))
              intro v' w6 hown6 hgrow6 _
              have HV6 : Hid (MxV W w6 v' (vs1 ++ [.slice a5 (Q.rVec p F j).length c5]) (Bs ++ [Q.rVec p F j])) := HV5.out.append HN5.out hown6 hgrow6
              have HBs6 : Hid (Bs ++ [Q.rVec p F j] = (List.range (j + 1)).map (Q.rVec p F)) := by show _ = _; rw [Q.rKer_take, ← HBs.out]
              have HJ6 : Hid (j + 1 = (Bs ++ [Q.rVec p F j]).length) := by show _ = _; rw [List.length_append, ← HJ.out]; rfl
              have HIJ6 : Hid (i + 1 = d + (j + 1)) := by show _ = _; rw [HIJ.out]; omega
              obtain ⟨a6, cp6, hv6, _⟩ := own_form hown6
              subst hv6
              rw [← HJ.out] at HV6 ⊢
              clear hown6 hgrow6
              go_wp2_with (fail)
              go_roundw
              case rel => exact ⟨j + 1, i + 1, cp6, a6, _, _, rfl, by go_num, by omega, HIJ6, HJ6, HV6, HBs6⟩
              case measure => simp [intOf]; omega
            · obtain rfl : n = i := by omega
              have HE9 : Hid (MxV W wr (.slice a1 j cp1) vs1 (Q.rKer p F)) := by
                have h1 := HV.out
                rw [HBs.out, show j = n - d by have := HIJ.out; omega, ← HEK.out d rows HEe.out] at h1
                rw [show j = n - d by have := HIJ.out; omega]
                exact h1
              have HBw := Lib.hid HM.out.below
              clear HM
              go_wp2_with (fail)
              go_ret
              exact ⟨_, vs1, rfl, HE9.out.from HBw.out⟩

end Go.Proofs.YtbehihanhfmmhaaGreat

namespace Go.Proofs.YtbehihanhfmmhaaGreat
namespace Q
variable {p : Nat}

theorem rKer_ev_inj (hP : M.Pr p) {f h k : List Nat} (hh : Pol p h) (hk : Pol p k) {n : Nat} {a b : Nat → Nat} (V : Nat → List Nat) (e1 : ev p h = sx n fun i => ev p [a i] * ev p (V i)) (e2 : ev p k = sx n fun i => ev p [b i] * ev p (V i)) (e : ∀ i, i < n → a i = b i) : h = k := by
  have hp : 0 < p := by have := hP.1; omega
  refine ev_inj hp hh hk ?_
  rw [e1, e2]
  exact sx_congr fun i hi => by rw [e i hi]

theorem rKer_len (f : List Nat) : (rKer p f).length = f.length - 1 - (rEl p f).1 := by simp [rKer]

open Classical in
/-- There are no more factors than vectors. -/
theorem Sqf.rcount (hP : M.Pr p) {f : List Nat} {gs : List (List Nat)} (S : Sqf p f gs) : gs.length ≤ (rKer p f).length := by
  have hp2 := hP.1
  have hp : 0 < p := by omega
  have hex : ∀ t : List Nat, ∃ (h : List Nat) (a : Nat → Nat), Pol p h ∧ (∀ i, a i < p) ∧ ev p h = sx (f.length - 1 - (rEl p f).1) (fun i => ev p [a i] * ev p (rVec p f i)) ∧ ∀ g ∈ gs, Cg p g (ev p h) (ev p [t.getD (gs.idxOf g) 0]) := fun t => by
    obtain ⟨h, h1, h2, h3, h4⟩ := S.crt hP fun g => t.getD (gs.idxOf g) 0
    obtain ⟨a, a1, a2⟩ := rKer_span hP S.pol S.two h1 h2 h3
    exact ⟨h, a, h1, a1, a2, h4⟩
  obtain ⟨H, hH⟩ : ∃ H : List Nat → List Nat, ∀ t, ∃ a : Nat → Nat, Pol p (H t) ∧ (∀ i, a i < p) ∧ ev p (H t) = sx (f.length - 1 - (rEl p f).1) (fun i => ev p [a i] * ev p (rVec p f i)) ∧ ∀ g ∈ gs, Cg p g (ev p (H t)) (ev p [t.getD (gs.idxOf g) 0]) :=
    ⟨fun t => Classical.choose (hex t), fun t => Classical.choose_spec (hex t)⟩
  obtain ⟨A, hA⟩ : ∃ A : List Nat → Nat → Nat, ∀ t, Pol p (H t) ∧ (∀ i, A t i < p) ∧ ev p (H t) = sx (f.length - 1 - (rEl p f).1) (fun i => ev p [A t i] * ev p (rVec p f i)) ∧ ∀ g ∈ gs, Cg p g (ev p (H t)) (ev p [t.getD (gs.idxOf g) 0]) :=
    ⟨fun t => Classical.choose (hH t), fun t => Classical.choose_spec (hH t)⟩
  have h := inj_len (fun t => (List.range (rKer p f).length).map (A t)) (tuples p gs.length) (tuples p (rKer p f).length) (tuples_nodup _) ?_ ?_
  · rw [tuples_len, tuples_len] at h
    exact (Nat.pow_le_pow_iff_right (by omega)).1 h
  · intro t ht u hu e
    have t1 := (mem_tuples _ _).1 ht
    have u1 := (mem_tuples _ _).1 hu
    have hHe : H t = H u := rKer_ev_inj (f := f) hP (hA t).1 (hA u).1 (rVec p f) (hA t).2.2.1 (hA u).2.2.1 fun i hi => List.map_inj_left.1 e i (List.mem_range.2 (by rw [rKer_len]; exact hi))
    refine ext_getD (by omega) fun i hi => ?_
    have hig : i < gs.length := by omega
    have hidx : gs.idxOf gs[i] = i := by
      have := List.Nodup.idxOf_getElem S.nodup i hig
      exact this
    have c1 := (hA t).2.2.2 gs[i] (List.getElem_mem hig)
    have c2 := (hA u).2.2.2 gs[i] (List.getElem_mem hig)
    rw [hidx] at c1 c2
    rw [hHe] at c1
    have hm := S.irr gs[i] (List.getElem_mem hig)
    refine cg_const hP hm.irr.pol hm.irr.two ?_ ?_ ((c1.symm hp).trans hp c2)
    · rw [getD_get hi]; exact t1.2 _ (List.getElem_mem hi)
    · rw [getD_get (by omega)]; exact u1.2 _ (List.getElem_mem _)
  · intro t _
    rw [mem_tuples]
    refine ⟨by simp, fun x hx => ?_⟩
    obtain ⟨j, _, rfl⟩ := List.mem_map.1 hx
    exact (hA t).2.1 j

/-- What holds of the vectors, as numbers modulo two polynomials, holds of all that is fixed. -/
theorem rfx_same (hP : M.Pr p) {f h g g' : List Nat} (hf : Pol p f) (h2 : 2 ≤ f.length) (hh : Pol p h) (hl : h.length < f.length) (hx : Fx p f h)
    (H : ∀ v ∈ rKer p f, ∃ s, Cg p g (ev p v) (ev p [s]) ∧ Cg p g' (ev p v) (ev p [s])) : ∃ s, Cg p g (ev p h) (ev p [s]) ∧ Cg p g' (ev p h) (ev p [s]) := by
  have hp : 0 < p := by have := hP.1; omega
  obtain ⟨a, _, e⟩ := rKer_span hP hf h2 hh hl hx
  rw [e]
  have key : ∀ n, n ≤ f.length - 1 - (rEl p f).1 → ∃ s, Cg p g (sx n fun i => ev p [a i] * ev p (rVec p f i)) (ev p [s]) ∧ Cg p g' (sx n fun i => ev p [a i] * ev p (rVec p f i)) (ev p [s]) := by
    intro n
    induction n with
    | zero => exact fun _ => ⟨0, by rw [ev_const_zero]; exact ⟨Cg.refl _, Cg.refl _⟩⟩
    | succ n ih =>
      intro hn
      obtain ⟨s, i1, i2⟩ := ih (by omega)
      rw [sx]
      have hv : rVec p f n ∈ rKer p f := List.mem_map.2 ⟨n, List.mem_range.2 (by omega), rfl⟩
      obtain ⟨t, t1, t2⟩ := H _ hv
      have B := rVec_is hP hf h2 (i := n) (by omega)
      refine ⟨s + a n * t, ?_⟩
      rw [← ev_const_add, ← ev_const_mul']
      exact ⟨i1.add hp (Cg.mul hP (IsP.ev B.1) (IsP.const hp _) (Cg.refl _) t1), i2.add hp (Cg.mul hP (IsP.ev B.1) (IsP.const hp _) (Cg.refl _) t2)⟩
  exact key _ (Nat.le_refl _)

/-! ### The parts -/
def rOne (p : Nat) (v M : List Nat) (s : Nat) : List (List Nat) := if 1 < (gcdP p M (difP p v (trim [s]))).length then [gcdP p M (difP p v (trim [s]))] else []
def rAll (p : Nat) (v M : List Nat) : List (List Nat) := (List.range p).flatMap (rOne p v M)
def rBy (p : Nat) (Ms : List (List Nat)) (v : List Nat) : List (List Nat) := Ms.flatMap (rAll p v)
def rSplitV (p nb : Nat) : List (List Nat) → List (List Nat) → List (List Nat)
  | [], Ms => Ms
  | v :: vs, Ms => if Ms.length < nb then (if v.length ≤ 1 then rSplitV p nb vs Ms else rSplitV p nb vs (rBy p Ms v)) else Ms
def rSplit (p : Nat) (f : List Nat) : List (List Nat) := if f.length ≤ 1 then [] else rSplitV p (rKer p f).length (rKer p f) [f]

theorem dv_dif_iff (hp : 0 < p) {v g : List Nat} {s : Nat} (hs : s < p) : Dv p g (difP p v (trim [s])) ↔ Cg p g (ev p v) (ev p [s]) := by
  rw [← dx_iff, ev_dif hp _ (pol_trim1 hp s hs).red, ev_trim]; rfl

theorem rOne_is (hP : M.Pr p) {v : List Nat} {z : List Nat × List (List Nat)} (Z : Part p z) : ∀ ss : List Nat, (∀ s ∈ ss, s < p) → ss.Nodup →
    ∃ Y : List (List Nat × List (List Nat)), Y.map (fun x => x.1) = ss.flatMap (rOne p v z.1) ∧ (∀ y ∈ Y, Part p y ∧ (∃ s, ∀ g ∈ y.2, Cg p g (ev p v) (ev p [s])) ∧ ∀ g ∈ y.2, g ∈ z.2)
      ∧ (Y.flatMap fun x => x.2).Nodup ∧ ∀ g, g ∈ (Y.flatMap fun x => x.2) ↔ g ∈ z.2 ∧ ∃ s ∈ ss, Cg p g (ev p v) (ev p [s])
  | [], _, _ => ⟨[], rfl, by simp, by simp, by simp⟩
  | s :: ss, hss, hnd => by
    have hp : 0 < p := by have := hP.1; omega
    have hs : s < p := hss s (by simp)
    have hnd1 := List.nodup_cons.1 hnd
    obtain ⟨Y, y1, y2, y3, y4⟩ := rOne_is hP (v := v) Z ss (fun t ht => hss t (by simp [ht])) hnd1.2
    obtain ⟨M, K⟩ := z
    obtain ⟨l, l', hpm, hc, mc, ec, _, _, _, h1, h2, _⟩ := gcd_parts (M := M) (K := K) hP Z.pol Z.mon Z.irr Z.nodup Z.val (pol_dif hp v (trim [s]))
    have hc0 := mc.1
    have hsub : ∀ g, g ∈ l ∨ g ∈ l' → g ∈ K := fun g hg => hpm.mem_iff.1 (List.mem_append.2 hg)
    have hnd2 : (l ++ l').Nodup := hpm.nodup_iff.2 Z.nodup
    have hnd3 := List.nodup_append.1 hnd2
    have hl : ∀ g, g ∈ l ↔ g ∈ K ∧ Cg p g (ev p v) (ev p [s]) := fun g => by
      constructor
      · intro hg; exact ⟨hsub g (.inl hg), (dv_dif_iff hp hs).1 (h1 g hg)⟩
      · rintro ⟨hg, hcg⟩
        rcases List.mem_append.1 (hpm.mem_iff.2 hg) with h | h
        · exact h
        · exact absurd ((dv_dif_iff hp hs).2 hcg) (h2 g h)
    have key : ∃ A : List (List Nat × List (List Nat)), A.map (fun x => x.1) = rOne p v M s ∧ (∀ y ∈ A, Part p y ∧ y.2 = l) ∧ (A.flatMap fun x => x.2) = l := by
      unfold rOne
      by_cases hlen : 1 < (gcdP p M (difP p v (trim [s]))).length
      · rw [if_pos hlen]
        refine ⟨[(gcdP p M (difP p v (trim [s])), l)], rfl, ?_, by simp⟩
        intro y hy
        simp at hy
        subst hy
        exact ⟨part_of hP hc mc ec (by omega) (fun g hg => Z.irr g (hsub g (.inl hg))) hnd3.1, rfl⟩
      · rw [if_neg hlen]
        refine ⟨[], rfl, by simp, ?_⟩
        cases l with
        | nil => rfl
        | cons g t =>
          exfalso
          rw [mon_len1 mc (by omega)] at ec
          have h3 : Dv p g [1] := by
            rw [← dx_iff, ec, dx_iff]
            exact dv_prodL_mem hP (fun x hx => (Z.irr x (hsub x (.inl hx))).irr.pol) (by simp)
          have := dv_one hP (Z.irr g (hsub g (.inl (by simp)))).irr.pol h3
          have := (Z.irr g (hsub g (.inl (by simp)))).irr.two
          omega
    obtain ⟨A, a1, a2, a3⟩ := key
    refine ⟨A ++ Y, ?_, ?_, ?_, ?_⟩
    · rw [List.map_append, a1, y1, List.flatMap_cons]
    · intro y hy
      rcases List.mem_append.1 hy with h | h
      · obtain ⟨b1, b2⟩ := a2 y h
        exact ⟨b1, ⟨s, fun g hg => ((hl g).1 (b2 ▸ hg)).2⟩, fun g hg => ((hl g).1 (b2 ▸ hg)).1⟩
      · exact y2 y h
    · rw [List.flatMap_append, a3]
      refine List.nodup_append.2 ⟨hnd3.1, y3, fun g hg g' hg' e => ?_⟩
      subst e
      obtain ⟨h5, t, ht, h6⟩ := (y4 g).1 hg'
      have h7 := ((hl g).1 hg).2
      have hI := Z.irr g h5
      have := cg_const hP hI.irr.pol hI.irr.two hs (hss t (by simp [ht])) ((h7.symm hp).trans hp h6)
      subst this
      exact hnd1.1 ht
    · intro g
      rw [List.flatMap_append, a3, List.mem_append, hl g, y4 g]
      constructor
      · rintro (⟨h5, h6⟩ | ⟨h5, t, ht, h6⟩)
        · exact ⟨h5, s, by simp, h6⟩
        · exact ⟨h5, t, by simp [ht], h6⟩
      · rintro ⟨h5, t, ht, h6⟩
        rcases List.mem_cons.1 ht with rfl | ht
        · exact .inl ⟨h5, h6⟩
        · exact .inr ⟨h5, t, ht, h6⟩

/-- All of a part are one number for v. -/
def HomC (p : Nat) (v : List Nat) (K : List (List Nat)) : Prop := ∃ s, ∀ g ∈ K, Cg p g (ev p v) (ev p [s])

theorem rAll_is (hP : M.Pr p) {f v : List Nat} (hv : Pol p v) (hx : Fx p f v) {z : List Nat × List (List Nat)} (Z : Part p z) (hd : ∀ g ∈ z.2, Dv p g f) :
    ∃ Y : List (List Nat × List (List Nat)), Y.map (fun x => x.1) = rAll p v z.1 ∧ (∀ y ∈ Y, Part p y ∧ HomC p v y.2 ∧ ∀ g ∈ y.2, g ∈ z.2) ∧ (Y.flatMap fun x => x.2).Perm z.2 := by
  obtain ⟨Y, y1, y2, y3, y4⟩ := rOne_is hP (v := v) Z (List.range p) (fun s hs => List.mem_range.1 hs) List.nodup_range
  refine ⟨Y, y1, y2, ?_⟩
  rw [List.perm_ext_iff_of_nodup y3 Z.nodup]
  intro g
  rw [y4 g]
  refine ⟨fun h => h.1, fun h => ⟨h, ?_⟩⟩
  obtain ⟨s, hs, hc⟩ := fixed_const hP (Z.irr g h).irr (hd g h) hv hx
  exact ⟨s, List.mem_range.2 hs, hc⟩

theorem rBy_is (hP : M.Pr p) {f v : List Nat} (hv : Pol p v) (hx : Fx p f v) : ∀ (Y : List (List Nat × List (List Nat))), (∀ y ∈ Y, Part p y ∧ ∀ g ∈ y.2, Dv p g f) →
    ∃ Y' : List (List Nat × List (List Nat)), Y'.map (fun x => x.1) = rBy p (Y.map fun x => x.1) v ∧ (∀ y' ∈ Y', Part p y' ∧ HomC p v y'.2 ∧ ∃ y ∈ Y, ∀ g ∈ y'.2, g ∈ y.2) ∧ (Y'.flatMap fun x => x.2).Perm (Y.flatMap fun x => x.2)
  | [], _ => ⟨[], rfl, by simp, by simp⟩
  | z :: Y, hY => by
    obtain ⟨A, a1, a2, a3⟩ := rAll_is hP hv hx (hY z (by simp)).1 (hY z (by simp)).2
    obtain ⟨B, b1, b2, b3⟩ := rBy_is hP hv hx Y fun y hy => hY y (by simp [hy])
    refine ⟨A ++ B, ?_, fun y hy => ?_, ?_⟩
    · rw [List.map_append, a1, b1]; simp [rBy]
    · rcases List.mem_append.1 hy with h | h
      · obtain ⟨c1, c2, c3⟩ := a2 y h; exact ⟨c1, c2, z, by simp, c3⟩
      · obtain ⟨c1, c2, x, hx, c3⟩ := b2 y h; exact ⟨c1, c2, x, by simp [hx], c3⟩
    · rw [List.flatMap_append, List.flatMap_cons]; exact a3.append b3

theorem HomC.short (hp : 0 < p) {v : List Nat} (hl : v.length ≤ 1) (K : List (List Nat)) : HomC p v K := by
  match v, hl with
  | [], _ => exact ⟨0, fun g _ => by rw [ev_const_zero, ev_nil]; exact Cg.refl _⟩
  | [c], _ => exact ⟨c, fun g _ => Cg.refl _⟩

theorem rSplitV_is (hP : M.Pr p) {f : List Nat} {gs : List (List Nat)} (hgs : ∀ g ∈ gs, Dv p g f) {nb : Nat} : ∀ (vs : List (List Nat)), (∀ v ∈ vs, Pol p v ∧ Fx p f v) → ∀ (V : List Nat → Prop) (Ms : List (List Nat)) (Y : List (List Nat × List (List Nat))), SpState p gs Ms Y → (∀ y ∈ Y, ∀ v, V v → HomC p v y.2) →
    ∃ Y', SpState p gs (rSplitV p nb vs Ms) Y' ∧ (nb ≤ (rSplitV p nb vs Ms).length ∨ ∀ y ∈ Y', ∀ v, (V v ∨ v ∈ vs) → HomC p v y.2)
  | [], _, V, Ms, Y, S, H => ⟨Y, S, .inr fun y hy v hv => hv.elim (H y hy v) (by simp)⟩
  | v :: vs, hvs, V, Ms, Y, S, H => by
    have hp : 0 < p := by have := hP.1; omega
    rw [rSplitV]
    by_cases h : Ms.length < nb
    · rw [if_pos h]
      by_cases h1 : v.length ≤ 1
      · rw [if_pos h1]
        obtain ⟨Y', s1, s2⟩ := rSplitV_is hP hgs (nb := nb) vs (fun v hv => hvs v (by simp [hv])) (fun u => V u ∨ u = v) Ms Y S fun y hy u hu => by
          rcases hu with hu | rfl
          · exact H y hy u hu
          · exact HomC.short hp h1 _
        refine ⟨Y', s1, s2.imp id fun s2 y hy u hu => s2 y hy u ?_⟩
        rcases hu with hu | hu
        · exact .inl (.inl hu)
        · rcases List.mem_cons.1 hu with rfl | hu
          · exact .inl (.inr rfl)
          · exact .inr hu
      · rw [if_neg h1]
        have hv := hvs v (by simp)
        obtain ⟨Y1, y1, y2, y3⟩ := rBy_is hP hv.1 hv.2 Y fun y hy => ⟨S.part y hy, fun g hg => hgs g (S.perm.mem_iff.1 (List.mem_flatMap.2 ⟨y, hy, hg⟩))⟩
        rw [S.fst] at y1
        have S1 : SpState p gs (rBy p Ms v) Y1 := ⟨y1, fun y hy => (y2 y hy).1, y3.trans S.perm⟩
        obtain ⟨Y', s1, s2⟩ := rSplitV_is hP hgs (nb := nb) vs (fun v hv => hvs v (by simp [hv])) (fun u => V u ∨ u = v) _ Y1 S1 fun y hy u hu => by
          obtain ⟨c1, c2, x, hx, c3⟩ := y2 y hy
          rcases hu with hu | rfl
          · obtain ⟨s, hs⟩ := H x hx u hu
            exact ⟨s, fun g hg => hs g (c3 g hg)⟩
          · exact c2
        refine ⟨Y', s1, s2.imp id fun s2 y hy u hu => s2 y hy u ?_⟩
        rcases hu with hu | hu
        · exact .inl (.inl hu)
        · rcases List.mem_cons.1 hu with rfl | hu
          · exact .inl (.inr rfl)
          · exact .inr hu
    · rw [if_neg h]
      exact ⟨Y, S, .inl (by omega)⟩

/-- The parts of a monic polynomial that has no factor twice are its irreducible factors. -/
theorem rSplit_perm (hP : M.Pr p) {f : List Nat} {gs : List (List Nat)} (S : Sqf p f gs) (mf : Mon f) (e : ev p f = ev p (prodL p gs)) : (rSplit p f).Perm gs := by
  have hp2 := hP.1
  have hp : 0 < p := by omega
  have h2 := S.two
  have P0 : Part p (f, gs) := part_of hP S.pol mf e h2 S.irr S.nodup
  have S0 : SpState p gs [f] [(f, gs)] := ⟨rfl, fun y hy => by simp at hy; subst hy; exact P0, by simp⟩
  have hker : ∀ v ∈ rKer p f, Pol p v ∧ Fx p f v := fun v hv => by
    obtain ⟨i, hi, rfl⟩ := List.mem_map.1 hv
    have := rVec_is hP S.pol h2 (List.mem_range.1 hi)
    exact ⟨this.1, this.2.2⟩
  obtain ⟨Y, T, hT⟩ := rSplitV_is hP (fun g hg => S.dv hP hg) (nb := (rKer p f).length) (rKer p f) hker (fun _ => False) [f] _ S0 (fun y hy u hu => hu.elim)
  have hYlen : Y.length = (rSplitV p (rKer p f).length (rKer p f) [f]).length := by rw [← T.fst, List.length_map]
  have hone : ∀ y ∈ Y, y.2.length = 1 := by
    rcases hT with hT | hT
    · refine (flat_len fun y hy => (T.part y hy).ne).2 ?_
      rw [T.perm.length_eq, hYlen]
      exact Nat.le_trans (S.rcount hP) hT
    · intro y hy
      have P := T.part y hy
      match hK : y.2 with
      | [] => exact absurd hK P.ne
      | [g] => rfl
      | g :: g' :: t =>
        exfalso
        have hg : g ∈ y.2 := by rw [hK]; simp
        have hg' : g' ∈ y.2 := by rw [hK]; simp
        have hne : g ≠ g' := fun e => by
          have := P.nodup; rw [hK] at this; simp [e] at this
        have hgs : ∀ x ∈ y.2, x ∈ gs := fun x hx => T.perm.mem_iff.1 (List.mem_flatMap.2 ⟨y, hy, hx⟩)
        obtain ⟨h, hh, hl, hx, hc⟩ := S.crt hP fun x => if x = g then 1 else 0
        obtain ⟨s, s1, s2⟩ := rfx_same hP (g := g) (g' := g') S.pol h2 hh hl hx fun v hv => by
          obtain ⟨s, hs⟩ := hT y hy v (.inr hv)
          exact ⟨s, hs g hg, hs g' hg'⟩
        have c1 := hc g (hgs g hg)
        have c2 := hc g' (hgs g' hg')
        simp only [if_true] at c1
        rw [if_neg (fun e => hne e.symm)] at c2
        have e1 : ∀ x, ev p [x] = ev p [x % p] := fun x => ev_const_congr (by simp)
        rw [e1 s] at s1 s2
        have a1 := cg_const hP (P.irr g hg).irr.pol (P.irr g hg).irr.two (Nat.mod_lt _ hp) (by omega) ((s1.symm hp).trans hp c1)
        have a2 := cg_const hP (P.irr g' hg').irr.pol (P.irr g' hg').irr.two (Nat.mod_lt _ hp) hp ((s2.symm hp).trans hp c2)
        omega
  have := parts_ones hP T.part hone
  rw [T.fst] at this
  unfold rSplit
  rw [if_neg (by omega), this]
  exact T.perm

end Q
end Go.Proofs.YtbehihanhfmmhaaGreat

namespace Go.Proofs.YtbehihanhfmmhaaGreat
open Go.RowKit

/-! ### Lists of lists that are read -/
theorem RdN.nil (w : World) : RdN w (.slice none 0 0) [] := ⟨[], ⟨rfl, none, 0, rfl, Nat.le_refl _, .inl rfl⟩, fun i h => by simp at h⟩
theorem RdN.lit {w : World} {u : Value} {M : List Nat} (h : Rd w u 1 M.length (nats M)) : RdN (w.alloc (.cells #[u] 22)) (.slice (some ⟨w.heap.size, 0, none⟩) 1 1) [M] := by
  obtain ⟨a, c, hv⟩ := h.shape
  refine ⟨[u], Rd.of_own (litV_own w u (by rw [hv]; rfl)), fun i hi hi' => ?_⟩
  have h0 : i = 0 := by simp at hi; omega
  subst h0
  exact h.below ((Below.refl _ _).alloc (Nat.le_refl _) _) (Nat.le_refl _)
structure HasN (w : World) (v : Value) (M : List Nat) (n i b : Nat) (cap : Nat) (a : Option Addr) (c : Nat) : Prop where
  eq : v = .slice (some ⟨b, 0, none⟩) n cap
  lt : b < w.heap.size
  cell : w.cell? ⟨b, i, none⟩ = some (.slice a M.length c)
  rd : Rd w (.slice a M.length c) 1 M.length (nats M)
theorem RdN.at {w : World} {v : Value} {Ms : List (List Nat)} (h : RdN w v Ms) (i : Nat) (hi : i < Ms.length) : ∃ b cap a c, HasN w v (Ms.getD i []) Ms.length i b cap a c := by
  obtain ⟨vs, ⟨hl, ad, cap, hv, _, hc⟩, h2⟩ := h
  rcases hc with h0 | ⟨b, hb, hlt, hcell⟩
  · omega
  · have hiv : i < vs.length := by omega
    have e : Ms.getD i [] = Ms[i] := by simp [List.getD, hi]
    have hr := h2 i hi hiv
    rw [← e] at hr
    obtain ⟨a, c, hs⟩ := hr.shape
    refine ⟨b, cap, a, c, by rw [hv, hb], hlt, ?_, by rw [← hs]; exact hr⟩
    rw [hcell i _ (List.getElem?_eq_getElem hiv), hs]

theorem below_step {X W wN : World} (h1 : Below X.heap.size X W) (h2 : Below W.heap.size W wN) : Below X.heap.size X wN := h1.trans (h2.mono h1.size)

def RetN (w : World) (Ms : List (List Nat)) (x : Ending) (w' : World) : Prop := (∃ v, x = .returned v ∧ RdN w' v Ms) ∧ Below w.heap.size w w'

theorem Q.rOne_yes {p : Nat} {V X : List Nat} {s : Nat} (h : 1 < (Q.gcdP p X (Q.difP p V (Q.trim [s]))).length) : Q.rOne p V X s = [Q.gcdP p X (Q.difP p V (Q.trim [s]))] := by rw [Q.rOne, if_pos h]
theorem Q.rOne_no {p : Nat} {V X : List Nat} {s : Nat} (h : ¬ 1 < (Q.gcdP p X (Q.difP p V (Q.trim [s]))).length) : Q.rOne p V X s = [] := by rw [Q.rOne, if_neg h]
theorem Q.range_flat {α : Type} (f : Nat → List α) (s : Nat) : (List.range (s + 1)).flatMap f = (List.range s).flatMap f ++ f s := by rw [List.range_succ, List.flatMap_append]; simp
theorem Q.rBy_ok {p L : Nat} (hP : M.Pr p) {V : List Nat} {Ms : List (List Nat)} (h : Q.PartsOk p L Ms) : Q.PartsOk p L (Q.rBy p Ms V) := by
  intro G hG
  unfold Q.rBy Q.rAll at hG
  rw [List.mem_flatMap] at hG
  obtain ⟨X, hX, hG⟩ := hG
  rw [List.mem_flatMap] at hG
  obtain ⟨s, hs, hG⟩ := hG
  have hs' := List.mem_range.1 hs
  have hXo := h X hX
  have hD : Q.Pol p (Q.difP p V (Q.trim [s])) := Q.pol_dif (by have := hP.1; omega) _ _
  have hI := Q.gcdP_is hP hXo.1 hD
  unfold Q.rOne at hG
  split at hG
  · next hlt =>
    simp at hG
    subst hG
    have := (hI.left.len hP hI.pol hXo.1 (by omega)).1
    exact ⟨hI.pol, hlt, by omega⟩
  · simp at hG

set_option maxRecDepth 100000 in
set_option maxHeartbeats 4000000 in
theorem rsplit_is (p : Nat) (F : List Nat) (v : Value) (w : World) (hP : Hid (M.Pr p)) (hp2 : p ≤ 1021) (hr : Hid (Rd w v 1 F.length (nats F))) (hF : Hid (Q.Pol p F)) (hl : F.length ≤ 900) :
    Calls Tryz.prog 28 #[.int .i64 p, v] w (RetN w (Q.rSplit p F)) := by
  have hp : 2 ≤ p := hP.out.1
  by_cases h2 : F.length ≤ 1
  · obtain ⟨a, cv, rfl⟩ := hr.out.shape
    have hE : Hid (Q.rSplit p F = []) := by show _ = _; rw [Q.rSplit, if_pos h2]
    have hd : (F.length : Int) ≤ 1 := by omega
    rw [hE.out]
    clear h2
    go_enter Tryz.func28, Tryz.ntmps28
    go_wp2_with (fail)
    go_ret
    exact ⟨⟨_, rfl, RdN.nil _⟩, Below.refl _ _⟩
  · obtain ⟨n, hn⟩ : ∃ n, F.length = n + 1 := ⟨F.length - 1, by omega⟩
    have hRK := Lib.hid (rkernel_is p n F v w hP hp2 hr hF hn (by omega) (by omega))
    obtain ⟨a, cv, hv⟩ := hr.out.shape
    subst hv
    obtain ⟨Ks, hKs⟩ : ∃ Ks, Ks = Q.rKer p F := ⟨_, rfl⟩
    have HE : Hid (Q.rSplit p F = Q.rSplitV p Ks.length Ks [F]) := by show _ = _; rw [Q.rSplit, if_neg h2, hKs]
    have HKP : Hid (∀ V ∈ Ks, Q.Pol p V ∧ V.length ≤ 900) := fun V hV => by
      rw [hKs, Q.rKer, List.mem_map] at hV
      obtain ⟨i, hi, rfl⟩ := hV
      have h1 := Q.rVec_is hP.out hF.out (by omega) (List.mem_range.1 hi)
      exact ⟨h1.1, by omega⟩
    have hkl : Ks.length ≤ 900 := by rw [hKs]; simp [Q.rKer]; omega
    have HP0 : Hid (Q.PartsOk p 900 [F]) := fun M hM => by
      simp at hM; subst hM; exact ⟨hF.out, by omega, hl⟩
    rw [HE.out]
    obtain ⟨R, hR⟩ : ∃ R, R = Q.rSplitV p Ks.length Ks [F] := ⟨_, rfl⟩
    rw [← hR]
    rw [← hKs] at hRK
    obtain ⟨nk, hnk⟩ : ∃ nk, nk = Ks.length := ⟨_, rfl⟩
    rw [← hnk] at hR hkl
    have HNK := Lib.hid hnk
    have HR0 : Hid (R = Q.rSplitV p nk (Ks.drop 0) [F]) := hR
    have hd : ¬ ((n : Int) + 1 ≤ 1) := by omega
    have HR : Hid (Rd w (.slice a (n + 1) cv) 1 F.length (nats F)) := by show Rd _ _ _ _ _; rw [← hn]; exact hr.out
    rw [hn] at hRK ⊢
    clear hR hnk hKs h2 hr HE
    obtain ⟨i1, hi1, hy0, hy1, hy2⟩ := info_parts Tryz.infoS
    go_enter Tryz.func28, Tryz.ntmps28
    go_wp2_with (fail)
    refine hRK.out.mono ?_
    rintro e w1 ⟨vl, vs, rfl, hM1⟩
    have HLN : Hid (RdN w1 vl Ks) := hM1.rd
    have HB1 : Hid (Below w.heap.size w w1) := hM1.below
    obtain ⟨al, cl, hvl, _⟩ := own_form hM1.own
    subst hvl
    rw [← HNK.out] at HLN ⊢
    have HO0 : Hid (RdN (w1.alloc (.cells #[.slice a (n + 1) cv] 22)) (.slice (some ⟨w1.heap.size, 0, none⟩) 1 1) [F]) := RdN.lit (HR.out.below HB1.out (Nat.le_refl _))
    have HB0 : Hid (Below w1.heap.size w1 (w1.alloc (.cells #[.slice a (n + 1) cv] 22))) := (Below.refl _ _).alloc (Nat.le_refl _) _
    clear hM1 hRK
    go_wp2_with (fail)
    go_loopw [6, 7] (fun ov iv wx => ∃ (i m cp : Nat) (ao : Option Addr) (Ms : List (List Nat)), ov = .slice ao m cp ∧ iv = .int .i64 i ∧ i ≤ nk ∧ m ≤ 1000000 ∧ Hid (m = Ms.length) ∧ Hid (RdN wx (.slice ao m cp) Ms) ∧ Hid (Q.PartsOk p 900 Ms) ∧ Hid (Below w1.heap.size w1 wx) ∧ Hid (R = Q.rSplitV p nk (Ks.drop i) Ms)) (fun _ iv _ => nk - (intOf iv).toNat)
    case atStart => exact ⟨0, 1, 1, _, [F], rfl, rfl, by omega, by omega, (by show _ = _; rfl), HO0, HP0, HB0, HR0⟩
    case round =>
      obtain ⟨i, m, cp, ao, Ms, rfl, rfl, hi, hm, HM, HO, HPO, HB, HRR⟩ := hrel
      by_cases hin : i < nk
      · by_cases hmn : m < nk
        · have hik : i < Ks.length := by rw [← HNK.out]; exact hin
          obtain ⟨V, hV⟩ : ∃ V, V = Ks.getD i [] := ⟨_, rfl⟩
          have hVm : V ∈ Ks := by rw [hV]; simp [List.getD, hik]
          have hVo := HKP.out V hVm
          have hdr : Ks.drop i = V :: Ks.drop (i + 1) := by
            rw [List.drop_eq_getElem_cons hik, hV]; simp [List.getD, hik]
          obtain ⟨bl, cl', aV, cV, hV1⟩ := (HLN.out.below HB.out).at i hik
          rw [← hV, ← HNK.out] at hV1
          have e0 := hV1.eq
          injection e0 with e0 _ e9
          subst e0 e9
          have e1 := hV1.cell
          have hbl := hV1.lt
          have HVR0 : Hid (Rd wr (.slice aV V.length cV) 1 V.length (nats V)) := hV1.rd
          have hVl : V.length ≤ 900 := hVo.2
          have HVP : Hid (Q.Pol p V) := hVo.1
          have hin1 : (i : Int) < (nk : Int) := by omega
          have hmn1 : (m : Int) < (nk : Int) := by omega
          by_cases hv1 : V.length ≤ 1
          · have HR2 : Hid (R = Q.rSplitV p nk (Ks.drop (i + 1)) Ms) := by
              show _ = _
              rw [HRR.out, hdr, Q.rSplitV, if_pos (by rw [← HM.out]; exact hmn), if_pos hv1]
            have hv2 : (V.length : Int) ≤ 1 := by omega
            clear hdr hV hVm hVo hV1 hv1
            go_wp2_with (fail)
            go_roundw
            case rel => exact ⟨i + 1, m, cp, ao, Ms, rfl, by go_num, by omega, by omega, HM, HO, HPO, HB, HR2⟩
            case measure => simp [intOf]; omega
          · have HR2 : Hid (R = Q.rSplitV p nk (Ks.drop (i + 1)) (Q.rBy p Ms V)) := by
              show _ = _
              rw [HRR.out, hdr, Q.rSplitV, if_pos (by rw [← HM.out]; exact hmn), if_neg hv1]
            have HPO2 : Hid (Q.PartsOk p 900 (Q.rBy p Ms V)) := Q.rBy_ok hP.out HPO.out
            have hv2 : ¬ (V.length : Int) ≤ 1 := by omega
            obtain ⟨W, rfl⟩ : ∃ W : World, W = wr := ⟨_, rfl⟩
            have HV0 : Hid (MxV W W (.slice none 0 0) [] []) := MxV.nil (Below.refl _ _)
            clear hdr hV hVm hVo hV1 hv1
            go_wp2_with (fail)
            go_loopw [8, 9] (fun nv kv wx => ∃ (k mb cb : Nat) (ab : Option Addr) (us : List Value) (Ns : List (List Nat)), nv = .slice ab mb cb ∧ kv = .int .i64 k ∧ k ≤ m ∧ Hid (mb = Ns.length) ∧ Hid (mb ≤ k * p) ∧ Hid (MxV W wx (.slice ab mb cb) us Ns) ∧ Hid (Ns = (Ms.take k).flatMap (Q.rAll p V))) (fun _ kv _ => m - (intOf kv).toNat)
            case atStart => exact ⟨0, 0, 0, none, [], [], rfl, rfl, by omega, (by show _ = _; rfl), (by show _ ≤ _; omega), HV0, (by show _ = _; rfl)⟩
            case round =>
              obtain ⟨k, mb, cb, ab, us, Ns, rfl, rfl, hk, HMB, HML, HNV, HNS⟩ := hrel
              by_cases hkm : k < m
              · have hkM : k < Ms.length := by rw [← HM.out]; exact hkm
                obtain ⟨X, hX⟩ : ∃ X, X = Ms.getD k [] := ⟨_, rfl⟩
                have hXm : X ∈ Ms := by rw [hX]; simp [List.getD, hkM]
                have hXo := HPO.out X hXm
                obtain ⟨bo, co', aX, cX, hX1⟩ := HO.out.at k hkM
                rw [← hX, ← HM.out] at hX1
                have e0 := hX1.eq
                injection e0 with e0 _ e9
                subst e0 e9
                have x1 := hX1.cell
                have hbo := hX1.lt
                have HXR0 : Hid (Rd W (.slice aX X.length cX) 1 X.length (nats X)) := hX1.rd
                have hXl : X.length ≤ 900 := hXo.2.2
                have HXP : Hid (Q.Pol p X) := hXo.1
                have HTK : Hid ((Ms.take (k + 1)).flatMap (Q.rAll p V) = (Ms.take k).flatMap (Q.rAll p V) ++ (List.range p).flatMap (Q.rOne p V X)) := by
                  show _ = _
                  rw [Q.take_succ_flatMap _ _ _ [] hkM, ← hX]; rfl
                have HVRed : Hid (Q.Red p V) := HVP.out.red
                have hkm1 : (k : Int) < (m : Int) := by omega
                have hkp : k * p ≤ 918900 := by
                  have h1 := Nat.mul_le_mul (show k ≤ 900 by omega) hp2
                  omega
                have HNS0 : Hid (Ns = (Ms.take k).flatMap (Q.rAll p V) ++ (List.range 0).flatMap (Q.rOne p V X)) := by show _ = _; rw [HNS.out]; simp
                clear hX hXm hXo hX1
                go_wp2_with (fail)
                go_loopw [8, 10] (fun nv sv wx => ∃ (s mb cb : Nat) (ab : Option Addr) (us : List Value) (Ns : List (List Nat)), nv = .slice ab mb cb ∧ sv = .int .i64 s ∧ s ≤ p ∧ Hid (mb = Ns.length) ∧ Hid (mb ≤ k * p + s) ∧ Hid (MxV W wx (.slice ab mb cb) us Ns) ∧ Hid (Ns = (Ms.take k).flatMap (Q.rAll p V) ++ (List.range s).flatMap (Q.rOne p V X))) (fun _ sv _ => p - (intOf sv).toNat)
                case atStart => exact ⟨0, mb, cb, ab, us, Ns, rfl, rfl, by omega, HMB, HML, HNV, HNS0⟩
                case round =>
                  obtain ⟨s, mb, cb, ab, us, Ns, rfl, rfl, hs, HMB, HML, HNV, HNS⟩ := hrel
                  by_cases hsp : s < p
                  · have HBs : Hid (Below W.heap.size W wr) := HNV.out.below
                    have HK : Hid (∀ W', Below wr.heap.size wr W' → W'.cell? ⟨bo, k, none⟩ = some (.slice aX X.length cX) ∧ W'.cell? ⟨bl, i, none⟩ = some (.slice aV V.length cV)) := fun W' h => by
                      have h1 := HBs.out.trans (h.mono HBs.out.size)
                      exact ⟨(h1.cell (p := ⟨bo, k, none⟩) hbo).trans x1, (h1.cell (p := ⟨bl, i, none⟩) hbl).trans e1⟩
                    have HVR : Hid (∀ W', Below wr.heap.size wr W' → Rd W' (.slice aV V.length cV) 1 V.length (nats V)) := fun W' h => HVR0.out.below (HBs.out.trans (h.mono HBs.out.size)) (Nat.le_refl _)
                    have HXR : Hid (∀ W', Below wr.heap.size wr W' → Rd W' (.slice aX X.length cX) 1 X.length (nats X)) := fun W' h => HXR0.out.below (HBs.out.trans (h.mono HBs.out.size)) (Nat.le_refl _)
                    have HTRed : Hid (Q.Red p (Q.trim [s])) := (Q.pol_trim1 (by omega) s hsp).red
                    have HTL : Hid ((Q.trim [s]).length ≤ 100000) := by have := Q.trimLen_le [s]; show _ ≤ _; rw [Q.trim_length]; simp at this; omega
                    have HDP : Hid (Q.Pol p (Q.difP p V (Q.trim [s]))) := Q.pol_dif (by omega) _ _
                    have HDL : Hid ((Q.difP p V (Q.trim [s])).length ≤ 100000) := by
                      have h1 := Q.dif_len (p := p) (by omega) (f := V) (g := Q.trim [s])
                      have h3 := Q.trimLen_le [s]
                      have h4 : (Q.trim [s]).length ≤ 1 := by rw [Q.trim_length]; simpa using h3
                      show _ ≤ _; omega
                    obtain ⟨cW1, cW2⟩ := HK.out wr (Below.refl _ _)
                    have hsp1 : (s : Int) < (p : Int) := by omega
                    go_wp2_with (fail)
                    go_region_held3 (fun w' => w'.cell? ⟨bo, k, none⟩ = some (.slice aX X.length cX) ∧ w'.cell? ⟨bl, i, none⟩ = some (.slice aV V.length cV)) (go_keep)
                      (first
                        | (go_at_call 53; refine (rtrim_is [s] _ _ (by first | exact Rd.of_own (lit1_own _ s) | exact (Rd.of_own (lit1_own _ s)).below ((Below.refl _ _).drew) (Nat.le_refl _) | exact (Rd.of_own (lit1_own _ s)).below (below_drewN (Below.refl _ _) _) (Nat.le_refl _)) (by simp)).mono ?_; rintro e w5 ⟨⟨v5, rfl, hN5⟩, hB5⟩; obtain ⟨a5, c5, hv5⟩ := hN5.rd.shape; subst hv5; have hK5 : Below wr.heap.size wr w5 := below_step (by (first | exact Below.refl _ _ | exact (Below.refl _ _).drew | exact below_drewN (Below.refl _ _) _ | exact ((Below.refl _ _).drew).alloc (by simp) _ | exact (below_drewN (Below.refl _ _) _).alloc (by simp) _ | exact (Below.refl _ _).alloc (by simp) _ | exact ((Below.refl _ _).alloc (by simp) _).drew | exact below_drewN ((Below.refl _ _).alloc (by simp) _) _ | exact hK5 | exact hK5.drew | exact below_drewN hK5 _ | exact hK5.alloc hK5.size _ | exact (hK5.drew).alloc (hK5.drew).size _ | exact (below_drewN hK5 _).alloc (below_drewN hK5 _).size _ | exact hK6 | exact hK6.drew | exact below_drewN hK6 _ | exact hK6.alloc hK6.size _ | exact (hK6.drew).alloc (hK6.drew).size _ | exact (below_drewN hK6 _).alloc (below_drewN hK6 _).size _)) hB5; have k5 := HK.out _ hK5; have HN5 := Lib.hid hN5.rd; clear hN5 hB5)
                        | (go_at_call 25; refine (rSub_is p V (Q.trim [s]) _ _ _ hp hp2 (HVR.out _ (by (first | exact Below.refl _ _ | exact (Below.refl _ _).drew | exact below_drewN (Below.refl _ _) _ | exact ((Below.refl _ _).drew).alloc (by simp) _ | exact (below_drewN (Below.refl _ _) _).alloc (by simp) _ | exact (Below.refl _ _).alloc (by simp) _ | exact ((Below.refl _ _).alloc (by simp) _).drew | exact below_drewN ((Below.refl _ _).alloc (by simp) _) _ | exact hK5 | exact hK5.drew | exact below_drewN hK5 _ | exact hK5.alloc hK5.size _ | exact (hK5.drew).alloc (hK5.drew).size _ | exact (below_drewN hK5 _).alloc (below_drewN hK5 _).size _ | exact hK6 | exact hK6.drew | exact below_drewN hK6 _ | exact hK6.alloc hK6.size _ | exact (hK6.drew).alloc (hK6.drew).size _ | exact (below_drewN hK6 _).alloc (below_drewN hK6 _).size _))) (HN5.out.below (by (first | exact Below.refl _ _ | exact (Below.refl _ _).drew | exact below_drewN (Below.refl _ _) _)) (Nat.le_refl _)) HVRed HTRed (by omega) HTL.out).mono ?_; rintro e w6 ⟨⟨v6, rfl, hN6⟩, hB6⟩; obtain ⟨a6, c6, hv6⟩ := hN6.rd.shape; subst hv6; have hK6 : Below wr.heap.size wr w6 := below_step (by (first | exact Below.refl _ _ | exact (Below.refl _ _).drew | exact below_drewN (Below.refl _ _) _ | exact ((Below.refl _ _).drew).alloc (by simp) _ | exact (below_drewN (Below.refl _ _) _).alloc (by simp) _ | exact (Below.refl _ _).alloc (by simp) _ | exact ((Below.refl _ _).alloc (by simp) _).drew | exact below_drewN ((Below.refl _ _).alloc (by simp) _) _ | exact hK5 | exact hK5.drew | exact below_drewN hK5 _ | exact hK5.alloc hK5.size _ | exact (hK5.drew).alloc (hK5.drew).size _ | exact (below_drewN hK5 _).alloc (below_drewN hK5 _).size _ | exact hK6 | exact hK6.drew | exact below_drewN hK6 _ | exact hK6.alloc hK6.size _ | exact (hK6.drew).alloc (hK6.drew).size _ | exact (below_drewN hK6 _).alloc (below_drewN hK6 _).size _)) hB6; have k6 := HK.out _ hK6; have HN6 := Lib.hid hN6.rd; clear hN6 hB6)
                        | (go_at_call 24; refine (rgcd_is p X (Q.difP p V (Q.trim [s])) _ _ _ hP hp2 (HXR.out _ (by (first | exact Below.refl _ _ | exact (Below.refl _ _).drew | exact below_drewN (Below.refl _ _) _ | exact ((Below.refl _ _).drew).alloc (by simp) _ | exact (below_drewN (Below.refl _ _) _).alloc (by simp) _ | exact (Below.refl _ _).alloc (by simp) _ | exact ((Below.refl _ _).alloc (by simp) _).drew | exact below_drewN ((Below.refl _ _).alloc (by simp) _) _ | exact hK5 | exact hK5.drew | exact below_drewN hK5 _ | exact hK5.alloc hK5.size _ | exact (hK5.drew).alloc (hK5.drew).size _ | exact (below_drewN hK5 _).alloc (below_drewN hK5 _).size _ | exact hK6 | exact hK6.drew | exact below_drewN hK6 _ | exact hK6.alloc hK6.size _ | exact (hK6.drew).alloc (hK6.drew).size _ | exact (below_drewN hK6 _).alloc (below_drewN hK6 _).size _))) (HN6.out.below (by (first | exact Below.refl _ _ | exact (Below.refl _ _).drew | exact below_drewN (Below.refl _ _) _)) (Nat.le_refl _)) HXP HDP (by omega) HDL.out).mono ?_; rintro e w7 ⟨⟨v7, rfl, hN7⟩, hB7⟩; obtain ⟨a7, c7, hv7⟩ := hN7.rd.shape; subst hv7; have hK7 : Below wr.heap.size wr w7 := below_step (by (first | exact Below.refl _ _ | exact (Below.refl _ _).drew | exact below_drewN (Below.refl _ _) _ | exact ((Below.refl _ _).drew).alloc (by simp) _ | exact (below_drewN (Below.refl _ _) _).alloc (by simp) _ | exact (Below.refl _ _).alloc (by simp) _ | exact ((Below.refl _ _).alloc (by simp) _).drew | exact below_drewN ((Below.refl _ _).alloc (by simp) _) _ | exact hK5 | exact hK5.drew | exact below_drewN hK5 _ | exact hK5.alloc hK5.size _ | exact (hK5.drew).alloc (hK5.drew).size _ | exact (below_drewN hK5 _).alloc (below_drewN hK5 _).size _ | exact hK6 | exact hK6.drew | exact below_drewN hK6 _ | exact hK6.alloc hK6.size _ | exact (hK6.drew).alloc (hK6.drew).size _ | exact (below_drewN hK6 _).alloc (below_drewN hK6 _).size _)) hB7; have k7 := HK.out _ hK7; have HO7 : Hid (w7.ownsRow W.heap.size 3 1 (.slice a7 (Q.gcdP p X (Q.difP p V (Q.trim [s]))).length c7) (Q.gcdP p X (Q.difP p V (Q.trim [s]))).length (nats (Q.gcdP p X (Q.difP p V (Q.trim [s]))))) := own_base hN7 (by have h1 := HBs.out.size; have h2 := hK6.size; simp; omega); clear hN7 hB7))
                    obtain ⟨G, hG⟩ : ∃ G, G = Q.gcdP p X (Q.difP p V (Q.trim [s])) := ⟨_, rfl⟩
                    rw [← hG] at HO7 ⊢
                    have HV7 : Hid (MxV W w7 (.slice ab mb cb) us Ns) := HNV.out.low hK7
                    have HGE := Lib.hid hG
                    obtain ⟨gl, hgl⟩ : ∃ gl, gl = G.length := ⟨_, rfl⟩
                    rw [← hgl]
                    have HGL := Lib.hid hgl
                    have hkps : k * p + s ≤ 920000 := by omega
                    clear hG hgl hK5 hK6 hK7 k5 k6 k7
                    by_cases hg1 : 1 < gl
                    · have hg2 : (1 : Int) < (gl : Int) := by omega
                      have HONE : Hid (Q.rOne p V X s = [G]) := by show _ = _; rw [HGE.out]; exact Q.rOne_yes (by rw [← HGE.out, ← HGL.out]; exact hg1)
                      have HNS2 : Hid (Ns ++ [G] = (Ms.take k).flatMap (Q.rAll p V) ++ (List.range (s + 1)).flatMap (Q.rOne p V X)) := by
                        show _ = _
                        rw [Q.range_flat, ← List.append_assoc, ← HNS.out, HONE.out]
                      clear hg1
                      go_wp2_with ((at_builtin; refine wpList_append_own _ rfl _ _ 53 rfl W.heap.size 22 i1 (.slice none 0 0) 1 24 Tryz.underlying53 hi1 hy0 hy1 hy2 rfl (by decide) _ _ _ rfl (HV7.out.own.alloc _) ⟨w7.heap.size, 0, none⟩ 1 1 [.slice a7 gl c7] rfl rfl (cell_one_new _ _ _) (by intro u hu; simp at hu; rw [hu]; rfl) (by unfold maxLen; have := HMB.out; have := HML.out; omega) (by have := HMB.out; have := HML.out; omega) (by simp; have h8 := HV7.out.below.size; omega) ?_))
                      intro v' w8 hown8 hgrow8 _
                      have HV8 : Hid (MxV W w8 v' (us ++ [.slice a7 gl c7]) (Ns ++ [G])) := HV7.out.append (by rw [HGL.out]; exact HO7.out) hown8 hgrow8
                      have HMB8 : Hid (mb + 1 = (Ns ++ [G]).length) := by show _ = _; rw [List.length_append, ← HMB.out]; rfl
                      have HML8 : Hid (mb + 1 ≤ k * p + (s + 1)) := by have := HML.out; show _ ≤ _; omega
                      obtain ⟨a8, cp8, hv8, _⟩ := own_form hown8
                      subst hv8
                      rw [← HMB.out] at HV8 ⊢
                      clear hown8 hgrow8
                      go_wp2_with (fail)
                      go_roundw
                      case rel => exact ⟨s + 1, mb + 1, cp8, a8, _, _, rfl, by go_num, by omega, HMB8, HML8, HV8, HNS2⟩
                      case measure => simp [intOf]; omega
                    · have hg2 : ¬ (1 : Int) < (gl : Int) := by omega
                      have HNS2 : Hid (Ns = (Ms.take k).flatMap (Q.rAll p V) ++ (List.range (s + 1)).flatMap (Q.rOne p V X)) := by
                        show _ = _
                        rw [Q.range_flat, ← List.append_assoc, ← HNS.out, Q.rOne_no (by rw [← HGE.out, ← HGL.out]; exact hg1), List.append_nil]
                      have HML8 : Hid (mb ≤ k * p + (s + 1)) := by have := HML.out; show _ ≤ _; omega
                      clear hg1
                      go_wp2_with (fail)
                      go_roundw
                      case rel => exact ⟨s + 1, mb, cb, ab, us, Ns, rfl, by go_num, by omega, HMB, HML8, HV7, HNS2⟩
                      case measure => simp [intOf]; omega
                  · obtain rfl : p = s := by omega
                    have HNS2 : Hid (Ns = (Ms.take (k + 1)).flatMap (Q.rAll p V)) := by show _ = _; rw [HTK.out]; exact HNS.out
                    have HML8 : Hid (mb ≤ (k + 1) * p) := by have := HML.out; show _ ≤ _; rw [Nat.succ_mul]; exact this
                    go_wp2_with (fail)
                    go_roundw
                    case rel => exact ⟨k + 1, mb, cb, ab, us, Ns, rfl, by go_num, by omega, HMB, HML8, HNV, HNS2⟩
                    case measure => simp [intOf]; omega
              · obtain rfl : m = k := by omega
                have HNR : Hid (RdN wr (.slice ab mb cb) (Q.rBy p Ms V)) := by
                  have h1 := HNV.out.rd
                  rw [HNS.out, List.take_of_length_le (by rw [← HM.out]; omega)] at h1
                  exact h1
                have HMB2 : Hid (mb = (Q.rBy p Ms V).length) := by
                  have h1 := HMB.out
                  rw [HNS.out, List.take_of_length_le (by rw [← HM.out]; omega)] at h1
                  exact h1
                have HBn : Hid (Below w1.heap.size w1 wr) := HB.out.trans (HNV.out.below.mono HB.out.size)
                have hmb : mb ≤ 1000000 := by
                  have h1 := Nat.mul_le_mul (show m ≤ 900 by omega) hp2
                  have h2 := HML.out
                  omega
                go_wp2_with (fail)
                go_roundw
                case rel => exact ⟨i + 1, mb, cb, ab, _, rfl, by go_num, by omega, hmb, HMB2, HNR, HPO2, HBn, HR2⟩
                case measure => simp [intOf]; omega
        · have HRE : Hid (R = Ms) := by
            show _ = _
            have hik : i < Ks.length := by rw [← HNK.out]; exact hin
            rw [HRR.out, List.drop_eq_getElem_cons hik, Q.rSplitV, if_neg (by rw [← HM.out]; exact hmn)]
          have hin1 : (i : Int) < (nk : Int) := by omega
          have hmn1 : ¬ (m : Int) < (nk : Int) := by omega
          have HEND : Hid (RdN wr (.slice ao m cp) R ∧ Below w.heap.size w wr) := ⟨by rw [HRE.out]; exact HO.out, HB1.out.trans (HB.out.mono HB1.out.size)⟩
          clear hmn
          go_wp2_with (fail)
          go_ret
          exact ⟨⟨_, rfl, HEND.out.1⟩, HEND.out.2⟩
      · obtain rfl : nk = i := by omega
        have HRE : Hid (R = Ms) := by
          show _ = _
          rw [HRR.out, List.drop_eq_nil_of_le (by rw [← HNK.out]; omega), Q.rSplitV]
        have HEND : Hid (RdN wr (.slice ao m cp) R ∧ Below w.heap.size w wr) := ⟨by rw [HRE.out]; exact HO.out, HB1.out.trans (HB.out.mono HB1.out.size)⟩
        clear hin
        go_wp2_with (fail)
        go_ret
        exact ⟨⟨_, rfl, HEND.out.1⟩, HEND.out.2⟩

end Go.Proofs.YtbehihanhfmmhaaGreat
