/- The walk over the reference's Play; lists in the midst of a block held against each other. -/
import Derived.Test.YtahhkbdodgjaeaaPo
namespace Go.Proofs.Ytahhkbdodgjaeaa
open Go.RowKit

/-- A list that may begin in the midst of a block. -/
def RdA (w : World) (v : Value) (F : List Nat) : Prop :=
  ∃ (a : Option Addr) (cap : Nat), v = .slice a F.length cap ∧ F.length ≤ cap ∧ (F.length = 0 ∨ ∃ b o, a = some ⟨b, o, none⟩ ∧ b < w.heap.size ∧ ∀ i, i < F.length → w.cell? ⟨b, o + i, none⟩ = some (.int .i64 (F.getD i 0 : Nat)))
theorem RdA.at {w : World} {a : Option Addr} {n cap : Nat} {F : List Nat} (h : RdA w (.slice a n cap) F) (i : Nat) (hi : i < F.length) : ∃ b o, a = some ⟨b, o, none⟩ ∧ b < w.heap.size ∧ w.cell? ⟨b, o + i, none⟩ = some (.int .i64 (F.getD i 0 : Nat)) := by
  obtain ⟨a', cap', e, _, h4⟩ := h
  injection e with e _ _
  subst e
  rcases h4 with h4 | ⟨b, o, rfl, hb, hc⟩
  · omega
  · exact ⟨b, o, rfl, hb, hc i hi⟩
theorem RdA.below {w w' : World} {v : Value} {F : List Nat} (h : RdA w v F) (hB : Below w.heap.size w w') : RdA w' v F := by
  obtain ⟨a, cap, h1, h2, h3⟩ := h
  refine ⟨a, cap, h1, h2, ?_⟩
  rcases h3 with h3 | ⟨b, o, h4, h5, h6⟩
  · exact .inl h3
  · exact .inr ⟨b, o, h4, Nat.lt_of_lt_of_le h5 hB.size, fun i hi => by rw [hB.cell (p := ⟨b, o + i, none⟩) h5]; exact h6 i hi⟩
theorem RdA.of {w : World} {v : Value} {F : List Nat} (h : Rd w v 1 F.length (nats F)) : RdA w v F := by
  obtain ⟨_, a, cap, rfl, hc, h4⟩ := id h
  refine ⟨a, cap, rfl, hc, ?_⟩
  rcases h4 with h4 | ⟨b, rfl, hb, _⟩
  · exact .inl h4
  · refine .inr ⟨b, 0, rfl, hb, fun i hi => ?_⟩
    obtain ⟨b', e, _, h9⟩ := h.at i hi
    injection e with e; injection e with e; subst e
    rw [Nat.zero_add]; exact h9

set_option maxRecDepth 100000 in
set_option maxHeartbeats 1000000 in
theorem intsA_is (F G : List Nat) (v u : Value) (t : Bool) (w : World) (hv : Hid (RdA w v F)) (hu : Hid (RdA w u G)) (hl : F.length ≤ 1000000) (hl2 : G.length ≤ 1000000) (ht : Hid (F = G ↔ t = true)) :
    Calls Try.prog 22 #[v, u] w fun x w' => x = .returned (.bool t) ∧ ∃ n, w' = w.drewN n := by
  obtain ⟨a1, cap1, rfl, hcap1, _⟩ := hv.out
  obtain ⟨a2, cap2, rfl, hcap2, _⟩ := hu.out
  have H1 : Hid (∀ i, i < F.length → ∃ b o, a1 = some ⟨b, o, none⟩ ∧ b < w.heap.size ∧ w.cell? ⟨b, o + i, none⟩ = some (.int .i64 (F.getD i 0 : Nat))) := fun i hi => hv.out.at i hi
  have H2 : Hid (∀ i, i < G.length → ∃ b o, a2 = some ⟨b, o, none⟩ ∧ b < w.heap.size ∧ w.cell? ⟨b, o + i, none⟩ = some (.int .i64 (G.getD i 0 : Nat))) := fun i hi => hu.out.at i hi
  clear hv hu
  obtain ⟨m1, hm1⟩ : ∃ m1, m1 = F.length := ⟨_, rfl⟩
  obtain ⟨m2, hm2⟩ : ∃ m2, m2 = G.length := ⟨_, rfl⟩
  rw [← hm1] at hl hcap1 H1 ⊢
  rw [← hm2] at hl2 hcap2 H2 ⊢
  have HM := Lib.hid (And.intro hm1 hm2)
  clear hm1 hm2
  by_cases he : m1 = m2
  · subst he
    have hd : ((m1 : Int) != (m1 : Int)) = false := by simp
    go_enter Try.func22, Try.ntmps22
    go_wp2_with (fail)
    go_loopw [5] (fun iv wx => ∃ (k m : Nat), iv = .int .i64 k ∧ k ≤ m1 ∧ Hid (∀ i, i < k → F.getD i 0 = G.getD i 0) ∧ wx = w.drewN m) (fun iv _ => m1 - (intOf iv).toNat)
    case atStart => exact ⟨0, 0, rfl, by omega, fun i hi => absurd hi (by omega), by first | rfl | trivial | simp⟩
    case round =>
      obtain ⟨k, m, rfl, hk, HK, rfl⟩ := hrel
      by_cases hlt : k < m1
      · obtain ⟨b1, o1, rfl, hb1, c1⟩ := H1.out k hlt
        obtain ⟨b2, o2, rfl, hb2, c2⟩ := H2.out k hlt
        obtain ⟨x, hx⟩ : ∃ x, x = F.getD k 0 := ⟨_, rfl⟩
        obtain ⟨y, hy⟩ : ∃ y, y = G.getD k 0 := ⟨_, rfl⟩
        rw [← hx] at c1
        rw [← hy] at c2
        have HXY := Lib.hid (And.intro hx hy)
        clear hx hy
        have hkl : (k : Int) < (m1 : Int) := by omega
        by_cases hxy : x = y
        · have hd2 : ((x : Int) != (y : Int)) = false := by rw [hxy]; simp
          have HK2 : Hid (∀ i, i < k + 1 → F.getD i 0 = G.getD i 0) := fun i hi => by
            rcases Nat.lt_or_ge i k with h | h
            · exact HK.out i h
            · obtain rfl : i = k := by omega
              rw [← HXY.out.1, ← HXY.out.2, hxy]
          have HE := Lib.hid hxy
          clear hxy
          go_wp2_with (fail)
          go_quiet (fail)
          go_wp2_with (fail)
          go_roundw
          case rel => exact ⟨k + 1, _, by go_num, by omega, HK2, rfl⟩
          case measure => simp [intOf]; omega
        · have hd2 : ((x : Int) != (y : Int)) = true := by rw [bne_iff_ne]; omega
          have htf : Hid (t = false) := by
            cases t with
            | false => rfl
            | true => exact absurd (ht.out.2 rfl) fun e => hxy (by rw [HXY.out.1, HXY.out.2, e])
          clear hxy
          go_wp2_with (fail)
          go_quiet (fail)
          go_wp2_with (fail)
          go_ret
          exact ⟨by rw [htf.out]; rfl, _, by first | rfl | exact World.drewN_drewN _ _ _⟩
      · obtain rfl : k = m1 := by omega
        have htt : Hid (t = true) := ht.out.1 (Q.ext_getD (by rw [← HM.out.1, ← HM.out.2]) fun i hi => HK.out i (by rw [HM.out.1]; exact hi))
        go_wp2_with (fail)
        go_ret
        exact ⟨by rw [htt.out]; rfl, _, rfl⟩
  · have hd : ((m1 : Int) != (m2 : Int)) = true := by rw [bne_iff_ne]; omega
    have htf : Hid (t = false) := by
      cases t with
      | false => rfl
      | true => exact absurd (ht.out.2 rfl) fun e => he (by rw [HM.out.1, HM.out.2, e])
    clear he
    go_enter Try.func22, Try.ntmps22
    go_wp2_with (fail)
    go_ret
    exact ⟨by rw [htf.out]; rfl, 0, rfl⟩



set_option maxRecDepth 100000 in
set_option maxHeartbeats 4000000 in
theorem rPlay_is (O R : List Int) (N : List (List Int)) (F : List Nat) (vo vr vn vp : Value) (w : World) (h : Hid (RdG w vo vr vn O R N)) (hs : Hid (Small O R N)) (hp : Hid (Rd w vp 1 F.length (nats F))) (v n K J : Nat) (hnF : n = F.length) (hn2 : n ≤ 24) (hv : v < n) (hf : Hid (∀ i, i < n → F.getD i 0 < n)) (hK : K ≤ n) (ha : Hid (Pl.Again (fun i => F.getD i 0) v K J)) (hRR : Hid (∀ x, x < n → x < R.length ∧ 0 ≤ R.getD x 0 ∧ R.getD x 0 ≤ 9)) :
    Calls Try.prog 30 #[.agg #[vo, vr, vn], .int .i64 (v : Int), vp] w fun e w' => (∃ v1 v2, e = .returned (.tuple #[v1, v2, .int .i64 (Pl.topR R ((Pl.orb (fun i => F.getD i 0) v K).drop J) % 2)]) ∧ RdA w' v1 ((Pl.orb (fun i => F.getD i 0) v K).take J) ∧ RdA w' v2 ((Pl.orb (fun i => F.getD i 0) v K).drop J)) ∧ Below w.heap.size w w' := by
  obtain ⟨ao, co, ho⟩ := h.out.o.shape
  obtain ⟨ar, cr, hr⟩ := h.out.r.shape
  obtain ⟨an, cn, hn, _⟩ := h.out.n.shape
  subst ho hr hn
  obtain ⟨m, hm⟩ : ∃ m, m = O.length := ⟨_, rfl⟩
  obtain ⟨m2, hm2⟩ : ∃ m, m = R.length := ⟨_, rfl⟩
  obtain ⟨m3, hm3⟩ : ∃ m, m = N.length := ⟨_, rfl⟩
  have hml : m ≤ 30 := by rw [hm]; exact hs.out.o
  have hml3 : m3 ≤ 30 := by rw [hm3]; exact hs.out.n
  have HM := Lib.hid (And.intro hm (And.intro hm2 hm3))
  obtain ⟨b, hb⟩ : ∃ b, b = w.heap.size := ⟨_, rfl⟩
  obtain ⟨X, hX⟩ : ∃ X, X = w.alloc (.cells #[.slice ao m co, .slice ar m2 cr, .slice an m3 cn] 25) := ⟨_, rfl⟩
  have HA : Hid (Below w.heap.size w X) := by rw [hX]; exact (Below.refl _ _).alloc (Nat.le_refl _) _
  have HRG : Hid (RdG X (.slice ao m co) (.slice ar m2 cr) (.slice an m3 cn) O R N) := by
    have h9 := h.out.below HA.out
    show RdG _ _ _ _ _ _ _
    rw [hm, hm2, hm3]; exact h9
  have hca : X.cell? ⟨b, 0, none⟩ = some (.slice ao m co) := by rw [hX, hb]; simp
  have hcb : X.cell? ⟨b, 1, none⟩ = some (.slice ar m2 cr) := by rw [hX, hb]; simp
  have hcn : X.cell? ⟨b, 2, none⟩ = some (.slice an m3 cn) := by rw [hX, hb]; simp
  have hXs : b < X.heap.size := by rw [hX, hb]; simp
  have HXS := Lib.hid hXs
  rw [← hm, ← hm2, ← hm3]
  obtain ⟨ap, cp, hvp⟩ := hp.out.shape
  subst hvp
  have HN := Lib.hid hnF
  have HP : Hid (Rd X (.slice ap n cp) 1 F.length (nats F)) := by
    have h9 := hp.out.below HA.out (Nat.le_refl _)
    show Rd _ _ _ _ _
    rw [hnF]; exact h9
  rw [← hnF]
  obtain ⟨f, hfE⟩ : ∃ f : Nat → Nat, f = fun i => F.getD i 0 := ⟨_, rfl⟩
  have HFE := Lib.hid hfE
  rw [← hfE] at ha ⊢
  have HLT : Hid (∀ k, Pl.it f v k < n) := fun k => Pl.it_lt hv (by rw [hfE]; exact hf.out) k
  have HL0 : Hid (LSt X X (.slice none 0 0) (Pl.orb f v 0)) := LSt.start X
  have HCB : Hid (∀ W, Below X.heap.size X W → W.cell? ⟨b, 1, none⟩ = some (.slice ar m2 cr)) := fun W h9 => (h9.cell (p := ⟨b, 1, none⟩) HXS.out).trans hcb
  have HHS : Hid (w.heap.size ≤ X.heap.size) := HA.out.size
  obtain ⟨i0, hi, hz0, hz1, hz2⟩ := info_parts Try.infoZ
  clear h hm hm2 hm3 hp hXs hnF hfE hca hcb hcn
  go_enter Try.func30, Try.ntmps30
  go_upto_region 1 with fail
  rw [← hb, ← hX]
  clear hX hb
  go_wp2_with (fail)
  go_loopw [9, 10] (fun lv pv wx => ∃ (i : Nat), pv = .int .i64 (Pl.it f v i : Nat) ∧ i ≤ K ∧ Hid (LSt X wx lv (Pl.orb f v i))) (fun lv _ _ => K - (lenV lv))
  case atStart => exact ⟨0, rfl, by omega, HL0⟩
  case round =>
    obtain ⟨i, rfl, hiK, HL⟩ := hrel
    obtain ⟨a3, c3, hv3, hc3, hc4⟩ := HL.out.shape
    subst hv3
    rw [Pl.orb_length] at HL hc3 ⊢
    obtain ⟨u, hu⟩ : ∃ u, u = Pl.it f v i := ⟨_, rfl⟩
    have hun : u < n := by rw [hu]; exact HLT.out i
    rw [← hu]
    have HU := Lib.hid hu
    have HRL : Hid (Rd wr (.slice a3 i c3) 1 (up (Pl.orb f v i)).length (zs (up (Pl.orb f v i)))) := by
      have h9 := HL.out.1.rd
      show Rd _ _ _ _ _
      rw [zs_up, up_length]; exact h9
    have hul : (up (Pl.orb f v i)).length ≤ 1000000 := by rw [up_length, Pl.orb_length]; omega
    have hmu : ((u : Nat) : Int) ∈ up (Pl.orb f v i) ↔ u ∈ Pl.orb f v i := by
      unfold up
      constructor
      · intro h9
        obtain ⟨y, hy, e⟩ := List.mem_map.1 h9
        have : y = u := by exact_mod_cast e
        rw [← this]; exact hy
      · intro h9; exact List.mem_map.2 ⟨u, h9, rfl⟩
    clear hu
    by_cases hin : i < K
    · have hnm : u ∉ Pl.orb f v i := by rw [HU.out]; exact ha.out.new i hin
      have HHA := Lib.hid (has_is (up (Pl.orb f v i)) (u : Int) false _ wr HRL hul ⟨fun h9 => absurd (hmu.1 h9) hnm, fun h9 => (by cases h9)⟩)
      obtain ⟨bp, ep, hbp, cpx⟩ := HP.out.at u (by rw [← HN.out]; exact hun)
      subst ep
      obtain ⟨y, hy⟩ : ∃ y, y = F.getD u 0 := ⟨_, rfl⟩
      have HY : Hid (y = Pl.it f v (i + 1)) := by show _ = _; rw [hy, Pl.it, ← HU.out, HFE.out]
      rw [← hy] at cpx
      have HCP : Hid (∀ W, Below X.heap.size X W → W.cell? ⟨bp, u, none⟩ = some (.int .i64 (y : Nat))) := fun W h => (h.cell (p := ⟨bp, u, none⟩) hbp).trans cpx
      have HOWN : Hid (wr.ownsRow X.heap.size 3 1 (.slice a3 i c3) i (nats (Pl.orb f v i))) := by
        have h9 := HL.out.1
        unfold NewL at h9
        rw [Pl.orb_length] at h9
        exact h9
      have hun1 : (u : Int) < (n : Int) := by omega
      have hin2 : i ≤ 24 := by omega
      clear hnm hmu hy hbp cpx HRL hul
      go_wp2_with (fail)
      refine HHA.out.mono ?_
      rintro e w1 ⟨rfl, rfl⟩
      go_wp2_with (at_builtin; refine wpList_append_own _ rfl _ _ 22 rfl X.heap.size 3 i0 (.int .i64 0) 1 8 Try.underlying22 hi hz0 hz1 hz2 rfl (by decide) _ _ _ rfl (HOWN.out.alloc _) ⟨w1.heap.size, 0, none⟩ 1 1 [.int .i64 u] rfl rfl ?c1 ?c2 ?c3 ?c4 ?c5 ?_)
      case c1 => exact cell_one_new _ _ _
      case c2 => intro x hx; simp at hx; rw [hx]; rfl
      case c3 => unfold maxLen; omega
      case c4 => omega
      case c5 => have := HL.out.2.size; simp; omega
      intro v' w3 hown3 hgrow3 _
      have HLN : Hid (LSt X w3 v' (Pl.orb f v (i + 1))) := by
        show LSt _ _ _ _
        rw [Pl.orb_succ, ← HU.out]
        exact HL.out.push (x := u) (k := i + 1) (by rw [Pl.orb_length]) hown3 hgrow3
      obtain ⟨a4, c4, hv4, _⟩ := HLN.out.shape
      rw [Pl.orb_length] at hv4
      subst hv4
      have cpy := HCP.out _ HLN.out.2
      clear hown3 hgrow3
      go_wp2_with (fail)
      go_roundw
      case rel => exact ⟨i + 1, by rw [← HY.out], by omega, HLN⟩
      case measure => simp [lenV]; omega
    · obtain rfl : i = K := by omega
      have hmem : u ∈ Pl.orb f v i := by rw [HU.out, Pl.mem_orb]; exact ⟨J, ha.out.lt, ha.out.eq⟩
      have HHA := Lib.hid (has_is (up (Pl.orb f v i)) (u : Int) true _ wr HRL hul ⟨fun _ => rfl, fun _ => hmu.2 hmem⟩)
      obtain ⟨L, hL⟩ : ∃ L, L = Pl.orb f v i := ⟨_, rfl⟩
      rw [← hL] at HL
      have hLl : L.length = i := by rw [hL, Pl.orb_length]
      have HLL := Lib.hid hLl
      have HLE := Lib.hid hL
      have hJK : J < i := ha.out.lt
      obtain ⟨g, rfl, hg1, hg2, hgc, _⟩ := own_cells (L := L) (n := i) (by have h9 := HL.out.1; unfold NewL at h9; rw [hLl] at h9; exact h9) (by omega)
      have HGC := Lib.hid hgc
      have HBL := Lib.hid HL.out.2
      have hbne : Hid (∀ j, j < J → L.getD j 0 ≠ u) := fun j hj e => by
        rw [hL, Pl.orb_get f v (by omega), HU.out, ← ha.out.eq] at e
        have := ha.out.only j J (by omega) hJK e
        omega
      have hbeq : Hid (L.getD J 0 = u) := by show _ = _; rw [hL, Pl.orb_get f v hJK, ha.out.eq, HU.out]
      have HLn : Hid (∀ j, j < i → L.getD j 0 < n) := fun j hj => by rw [hL, Pl.orb_get f v hj]; exact HLT.out j
      have hi24 : i ≤ 24 := by omega
      clear hin hmem hmu hL hLl hgc HL HRL hul
      go_wp2_with (fail)
      refine HHA.out.mono ?_
      rintro e w1 ⟨rfl, rfl⟩
      go_wp2_with (fail)
      go_loopw [11] (fun kv wx => ∃ (k : Nat), kv = .int .i64 k ∧ k ≤ J ∧ wx = w1) (fun kv _ => J - (intOf kv).toNat)
      case atStart => exact ⟨0, rfl, by omega, rfl⟩
      case round =>
        obtain ⟨k, rfl, hk, rfl⟩ := hrel
        have ck := HGC.out k (by omega)
        obtain ⟨x, hx⟩ : ∃ x, x = L.getD k 0 := ⟨_, rfl⟩
        rw [← hx] at ck
        have hki : (k : Int) < (i : Int) := by omega
        by_cases hkJ : k < J
        · have hd : ((x : Int) != (u : Int)) = true := by
            rw [bne_iff_ne]; intro e; exact hbne.out k hkJ (by rw [← hx]; exact_mod_cast e)
          clear hx
          go_wp2_with (fail)
          go_roundw
          case rel => exact ⟨k + 1, by first | rfl | go_num, by omega, by first | rfl | trivial⟩
          case measure => simp [intOf]; omega
        · obtain rfl : k = J := by omega
          have hxu : x = u := by rw [hx]; exact hbeq.out
          have hd : ((x : Int) != (u : Int)) = false := by rw [hxu]; simp
          have HB0 : Hid (0 = Pl.topR R ((L.drop k).take 0)) := rfl
          have hki2 : k ≤ i := by omega
          clear hx hxu hkJ
          go_wp2_with (fail)
          go_loopw [12, 13] (fun tv iv wx => ∃ (j q : Nat) (z : Int), tv = .int .i64 z ∧ iv = .int .i64 j ∧ k ≤ j ∧ j ≤ i ∧ wx = wr.drewN q ∧ 0 ≤ z ∧ z ≤ 9 ∧ Hid (z = Pl.topR R ((L.drop k).take (j - k)))) (fun _ iv _ => i - (intOf iv).toNat)
          case atStart => exact ⟨k, 0, 0, rfl, rfl, Nat.le_refl _, hki2, by first | rfl | trivial | simp, by omega, by omega, by rw [Nat.sub_self]; exact HB0⟩
          case round =>
            obtain ⟨j, q, z, rfl, rfl, hkj, hji, rfl, hz0', hz9, HZ⟩ := hrel
            by_cases hjn : j < i
            · have hjn1 : (j : Int) < (i : Int) := by omega
              have cj := HGC.out j hjn
              obtain ⟨x, hx⟩ : ∃ x, x = L.getD j 0 := ⟨_, rfl⟩
              rw [← hx] at cj
              have hxn : x < n := by rw [hx]; exact HLn.out j hjn
              obtain ⟨hxR, hy0, hy9⟩ := hRR.out x hxn
              obtain ⟨br, er, hbr, cr1⟩ := zat HRG.out.r x hxR
              subst er
              obtain ⟨y, hy⟩ : ∃ y, y = R.getD x 0 := ⟨_, rfl⟩
              rw [← hy] at cr1 hy0 hy9
              have cr2 : wr.cell? ⟨br, x, none⟩ = some (.int .i64 y) := (HBL.out.cell (p := ⟨br, x, none⟩) hbr).trans cr1
              have cb := HCB.out _ HBL.out
              have hxm : (x : Int) < (m2 : Int) := by have := HM.out.2.1; omega
              obtain ⟨z2, hz2'⟩ : ∃ z2, z2 = max z y := ⟨_, rfl⟩
              have HZN : Hid (z2 = Pl.topR R ((L.drop k).take (j + 1 - k))) := by
                show _ = _
                have hl9 : j - k < (L.drop k).length := by rw [List.length_drop, HLL.out]; omega
                rw [show j + 1 - k = (j - k) + 1 by omega, List.take_succ_eq_append_getElem hl9, Pl.topR_snoc, ← HZ.out, hz2', hy, hx]
                have : (L.drop k)[j - k] = L.getD j 0 := by
                  rw [List.getElem_drop]
                  simp [List.getD, show k + (j - k) = j by omega, show j < L.length by rw [HLL.out]; exact hjn]
                rw [this]
              have hmx : max z y = z2 := hz2'.symm
              have hmx2 : (if z < y then y else z) = z2 := by rw [seg_max]; exact hz2'.symm
              have hz20 : 0 ≤ z2 := by omega
              have hz29 : z2 ≤ 9 := by omega
              clear hx hy hxR hz2' hbr cr1
              go_wp2_with (fail)
              go_quiet (fail)
              go_wp2_with (fail)
              go_roundw
              case rel => exact ⟨j + 1, _, z2, by first | rfl | rw [hmx] | rw [hmx2] | simp [hmx], by first | rfl | go_num, by omega, by omega, by first | rfl | exact World.drewN_drewN _ _ _, hz20, hz29, HZN⟩
              case measure => simp [intOf]; omega
            · obtain rfl : j = i := by omega
              have HE : Hid (z = Pl.topR R (L.drop k)) := by
                have h9 := HZ.out
                rw [List.take_of_length_le (by rw [List.length_drop, HLL.out]; exact Nat.le_refl _)] at h9
                exact h9
              have hzt : (z : Int).tmod 2 = z % 2 := Int.tmod_eq_emod_of_nonneg hz0'
              have hsub : (j : Int) - (k : Int) = ((j - k : Nat) : Int) := by omega
              have hkc : k ≤ c3 := by omega
              clear hjn
              go_wp2_with (fail)
              go_quiet (fail)
              go_wp2_with (fail)
              have hBD : Below wr.heap.size wr ((wr.drewN q).drewN nq) := below_drewN (below_drewN (Below.refl _ _) q) nq
              have hgs : g < ((wr.drewN q).drewN nq).heap.size := Nat.lt_of_lt_of_le hg2 hBD.size
              have hcc : ∀ y, y < j → ((wr.drewN q).drewN nq).cell? ⟨g, y, none⟩ = some (.int .i64 (L.getD y 0 : Nat)) := fun y hy => (hBD.cell (p := ⟨g, y, none⟩) hg2).trans (HGC.out y hy)
              go_ret3
              rw [← HLE.out, ← HE.out]
              refine ⟨⟨.slice (some ⟨g, 0, none⟩) k c3, .slice (some ⟨g, k, none⟩) (j - k) (c3 - k), rfl, ⟨some ⟨g, 0, none⟩, c3, by rw [List.length_take, HLL.out, Nat.min_eq_left hki2], by rw [List.length_take, HLL.out]; omega, .inr ⟨g, 0, rfl, hgs, fun y hy => ?_⟩⟩, ⟨some ⟨g, k, none⟩, c3 - k, by rw [List.length_drop, HLL.out], by rw [List.length_drop, HLL.out]; omega, .inr ⟨g, k, rfl, hgs, fun y hy => ?_⟩⟩⟩, HA.out.trans ((below_step HBL.out hBD).mono HHS.out)⟩
              · rw [List.length_take, HLL.out] at hy
                rw [Nat.zero_add]
                refine (hcc y (by omega)).trans ?_
                simp [List.getD_eq_getElem?_getD, List.getElem?_take, show y < k by omega]
              · rw [List.length_drop, HLL.out] at hy
                refine (hcc (k + y) (by omega)).trans ?_
                simp [List.getD_eq_getElem?_getD]

end Go.Proofs.Ytahhkbdodgjaeaa
