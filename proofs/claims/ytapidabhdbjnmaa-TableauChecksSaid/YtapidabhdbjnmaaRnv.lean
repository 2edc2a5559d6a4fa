/- A run of a call that is handed no memory: blocks that are there and not yet known. -/
import Derived.Test.YtapidabhdbjnmaaRnu
namespace Go.Proofs.Ytapidabhdbjnmaa
namespace Rn

variable {P : Program} {p : Pl} {c : Ctx} {s s' : St} {w : World}

/-- A block that is there, with a name, and is not yet among the known ones. -/
structure Lo (c : Ctx) (p : Pl) (s : St) (w : World) (id : Nat) (x : Blk) (r : Nat) : Prop where
  here : ∃ sz o, p id = some (r, sz, x.es) ∧ w.heap[r]? = some o ∧ BR p x sz o
  low : id < s.next
  high : c.nG ≤ id
  ok : c.ok id
  new : c.w0.heap.size ≤ r
  no : ∀ b y, s.heap.get b = some y → b ≠ id ∧ id ∉ y.olds ∧ ∀ z, p b ≠ some (r, z)
  olds : x.olds = []

theorem M.rebase (h : M c p s w) {D' ok' R' : Nat → Prop} (hD : ∀ b x r z, s.heap.get b = some x → p b = some (r, z) → (c.w0.heap.size ≤ r ∨ c.D r) → D' r) (hR : ∀ b x r z, s.heap.get b = some x → p b = some (r, z) → R' r)
    (hok : ∀ b, s.next ≤ b → ok' b) (hok2 : ∀ b x, s.heap.get b = some x → ok' b ∧ ∀ b2 ∈ x.olds, ok' b2) : M ⟨w, D', c.nG, ok', R', s.next, p⟩ p s w :=
  ⟨⟨rfl, rfl, rfl, Nat.le_refl _, fun _ _ _ => rfl⟩, h.fresh, h.ng, h.glob,
    fun b x hb => let ⟨k1, r, sz, o, k2, k3, k4, k5⟩ := h.pres b x hb; ⟨k1, r, sz, o, k2, fun hl => .inr (hD b x r _ hb k2 (k3 hl)), k4, k5⟩, h.sep, h.dead, h.olds,
    ⟨hok, fun b x hb => ⟨(hok2 b x hb).1, (hok2 b x hb).2, fun r z hp => .inr (hR b x r z hb hp)⟩⟩, Nat.le_refl _, fun _ _ => rfl⟩

theorem M.back {D' ok' R' : Nat → Prop} {q : Pl} {w' : World} (h0 : M c p s w) (h : M ⟨w, D', c.nG, ok', R', s.next, p⟩ q s' w') (hD : ∀ r, D' r → c.w0.heap.size ≤ r ∨ c.D r) (hok : ∀ b, ok' b → c.ok b)
    (hR : ∀ r, R' r → c.w0.heap.size ≤ r ∨ c.R r) : M c q s' w' := by
  have hsz := h0.keep.size
  refine ⟨⟨h.keep.os.trans h0.keep.os, h.keep.tape.trans h0.keep.tape, h.keep.output.trans h0.keep.output, Nat.le_trans hsz h.keep.size, fun k hk hnD => ?_⟩, h.fresh, h.ng, h.glob, fun b x hb => ?_, h.sep, h.dead, h.olds, ⟨fun b hb => hok b (h.okk.1 b hb), fun b x hb => ?_⟩, Nat.le_trans h0.pk.1 h.pk.1, fun b hb => ?_⟩
  · refine (h.keep.block k (Nat.lt_of_lt_of_le hk hsz) fun hd => ?_).trans (h0.keep.block k hk hnD)
    rcases hD k hd with h1 | h1
    · omega
    · exact hnD h1
  · obtain ⟨k1, r, sz, o, k2, k3, k4, k5⟩ := h.pres b x hb
    refine ⟨k1, r, sz, o, k2, fun hl => ?_, k4, k5⟩
    rcases k3 hl with h1 | h1
    · exact .inl (Nat.le_trans hsz h1)
    · exact hD r h1
  · obtain ⟨k1, k2, k3⟩ := h.okk.2 b x hb
    refine ⟨hok b k1, fun b2 h2 => hok b2 (k2 b2 h2), fun r z hp => ?_⟩
    rcases k3 r z hp with h1 | h1
    · exact .inl (Nat.le_trans hsz h1)
    · exact hR r h1
  · have := h0.pk.1
    exact (h.pk.2 b (show b < s.next by omega)).trans (h0.pk.2 b hb)

/-- It becomes known. -/
theorem M.join (h : M c p s w) {id r : Nat} {x : Blk} (hl : Lo c p s w id x r) : M c p (s.put id (some x)) w := by
  obtain ⟨sz, o, hp, hw, hb⟩ := hl.here
  have hget : ∀ d u, (s.put id (some x)).heap.get d = some u → (d = id ∧ d < most ∧ u = x) ∨ (d ≠ id ∧ s.heap.get d = some u) := fun d u hd => by
    rw [St.get_put] at hd
    by_cases hc : id = d ∧ id < most
    · rw [if_pos hc] at hd; injection hd with hd; exact .inl ⟨hc.1.symm, hc.1 ▸ hc.2, hd.symm⟩
    · rw [if_neg hc] at hd; exact .inr ⟨(hl.no d u hd).1, hd⟩
  refine ⟨h.keep, h.fresh, h.ng, h.glob, ?_, ?_, ?_, ?_, ⟨h.okk.1, fun d u hd => ?_⟩, h.pk⟩
  · intro d u hd
    rcases hget d u hd with ⟨e1, e2, e3⟩ | ⟨e1, e2⟩
    · subst e1; subst e3
      exact ⟨e2, r, sz, o, hp, fun _ => .inl hl.new, hw, hb⟩
    · exact h.pres d u e2
  · intro b1 b2 x1 x2 r1 s1 s2 g1 g2 hlive p1 p2
    rcases hget b1 x1 g1 with ⟨e1, e2, e3⟩ | ⟨e1, e2⟩ <;> rcases hget b2 x2 g2 with ⟨f1, f2, f3⟩ | ⟨f1, f2⟩
    · exact .inl (e1.trans f1.symm)
    · subst e1
      rw [hp] at p1
      injection p1 with p1
      have : r = r1 := congrArg Prod.fst p1
      subst this
      exact ((hl.no b2 x2 f2).2.2 _ p2).elim
    · subst f1
      rw [hp] at p2
      injection p2 with p2
      have : r = r1 := congrArg Prod.fst p2
      subst this
      exact ((hl.no b1 x1 e2).2.2 _ p1).elim
    · exact h.sep b1 b2 _ _ _ _ _ e2 f2 hlive p1 p2
  · intro b1 b2 x1 x2 g1 g2 hlive hm
    rcases hget b1 x1 g1 with ⟨e1, e2, e3⟩ | ⟨e1, e2⟩
    · subst e3; rw [hl.olds] at hm; cases hm
    · rcases hget b2 x2 g2 with ⟨f1, f2, f3⟩ | ⟨f1, f2⟩
      · subst f1; exact ((hl.no b1 x1 e2).2.1 hm).elim
      · exact h.dead b1 b2 _ _ e2 f2 hlive hm
  · intro b1 b2 x1 g1 hm
    rcases hget b1 x1 g1 with ⟨e1, e2, e3⟩ | ⟨e1, e2⟩
    · subst e3; rw [hl.olds] at hm; cases hm
    · exact h.olds b1 b2 x1 e2 hm
  · rcases hget d u hd with ⟨e1, e2, e3⟩ | ⟨e1, e2⟩
    · subst e1; subst e3
      refine ⟨hl.ok, fun b2 h2 => (by rw [hl.olds] at h2; cases h2), fun r1 z hp1 => ?_⟩
      rw [hp] at hp1
      injection hp1 with hp1
      have : r = r1 := congrArg Prod.fst hp1
      rw [← this]; exact .inl hl.new
    · exact h.okk.2 d u e2

/-- The others stay unknown. -/
theorem Lo.join {id r id2 r2 : Nat} {x x2 : Blk} (h : Lo c p s w id x r) (h2 : Lo c p s w id2 x2 r2) (hne : id ≠ id2) (hr : r ≠ r2) : Lo c p (s.put id2 (some x2)) w id x r := by
  refine ⟨h.here, h.low, h.high, h.ok, h.new, fun b y hb => ?_, h.olds⟩
  rw [St.get_put] at hb
  by_cases hc : id2 = b ∧ id2 < most
  · rw [if_pos hc] at hb
    injection hb with hb
    subst hb
    rw [← hc.1]
    refine ⟨Ne.symm hne, by rw [h2.olds]; exact List.not_mem_nil, fun z hz => ?_⟩
    obtain ⟨sz, o, hp, _⟩ := h2.here
    rw [hp] at hz
    injection hz with hz
    have : r2 = r := congrArg Prod.fst hz
    exact hr this.symm
  · rw [if_neg hc] at hb
    exact h.no b y hb

/-- A set of such blocks, each with its place. -/
structure Los (c : Ctx) (p : Pl) (s : St) (w : World) (U : Nat → Blk → Prop) (pl : Nat → Nat) : Prop where
  each : ∀ id x, U id x → Lo c p s w id x (pl id)
  apart : ∀ id x id2 x2, U id x → U id2 x2 → pl id = pl id2 → id = id2

theorem Los.sub {U U' : Nat → Blk → Prop} {pl : Nat → Nat} (h : Los c p s w U pl) (hs : ∀ id x, U' id x → U id x) : Los c p s w U' pl := ⟨fun id x hu => h.each id x (hs _ _ hu), fun id x id2 x2 a b => h.apart id x id2 x2 (hs _ _ a) (hs _ _ b)⟩

theorem joinFor_ok (b : Array Nat) (i : Nat) {pl : Nat → Nat} : ∀ (ps : List Pend) (s : St) (U : Nat → Blk → Prop), M c p s w → Los c p s w U pl → (∀ q ∈ ps, waits b i q.i = true → U q.id q.x) → (ps.map (·.id)).Nodup →
    M c p (joinFor b i ps s).1 w ∧ Los c p (joinFor b i ps s).1 w (fun id x => U id x ∧ ∀ q ∈ ps, waits b i q.i = true → q.id ≠ id) pl ∧ (joinFor b i ps s).1.next = s.next
  | [], s, U, hm, hu, _, _ => ⟨hm, hu.sub fun _ _ h => h.1, rfl⟩
  | q :: ps, s, U, hm, hu, hin, hnd => by
    rw [List.map_cons, List.nodup_cons] at hnd
    unfold joinFor
    cases hw : waits b i q.i with
    | true =>
      rw [cond_true]
      have hq := hu.each _ _ (hin q (by simp) hw)
      have hm1 := hm.join hq
      have hu1 : Los c p (s.put q.id (some q.x)) w (fun id x => U id x ∧ q.id ≠ id) pl := ⟨fun id x h => (hu.each id x h.1).join hq (Ne.symm h.2) fun e => h.2 (hu.apart _ _ _ _ (hin q (by simp) hw) h.1 e.symm), fun id x id2 x2 a b => hu.apart id x id2 x2 a.1 b.1⟩
      obtain ⟨g1, g2, g3⟩ := joinFor_ok b i ps _ _ hm1 hu1 (fun q2 h2 hw2 => ⟨hin q2 (by simp [h2]) hw2, fun e => hnd.1 (by rw [e]; exact List.mem_map.2 ⟨q2, h2, rfl⟩)⟩) hnd.2
      refine ⟨g1, g2.sub fun id x h => ⟨⟨h.1, h.2 q (by simp) hw⟩, fun q2 h2 hw2 => h.2 q2 (by simp [h2]) hw2⟩, g3⟩
    | false =>
      rw [cond_false]
      obtain ⟨g1, g2, g3⟩ := joinFor_ok b i ps s U hm hu (fun q2 h2 hw2 => hin q2 (by simp [h2]) hw2) hnd.2
      exact ⟨g1, g2.sub fun id x h => ⟨h.1, fun q2 h2 hw2 => h.2 q2 (by simp [h2]) hw2⟩, g3⟩

theorem joinAll_ok {pl : Nat → Nat} : ∀ (ps : List Pend) (s : St) (U : Nat → Blk → Prop), M c p s w → Los c p s w U pl → (∀ q ∈ ps, U q.id q.x) → (ps.map (·.id)).Nodup → M c p (joinAll ps s) w
  | [], s, U, hm, hu, _, _ => hm
  | q :: ps, s, U, hm, hu, hin, hnd => by
    rw [List.map_cons, List.nodup_cons] at hnd
    have hq := hu.each _ _ (hin q (by simp))
    have hu1 : Los c p (s.put q.id (some q.x)) w (fun id x => U id x ∧ q.id ≠ id) pl := ⟨fun id x h => (hu.each id x h.1).join hq (Ne.symm h.2) fun e => h.2 (hu.apart _ _ _ _ (hin q (by simp)) h.1 e.symm), fun id x id2 x2 a b => hu.apart id x id2 x2 a.1 b.1⟩
    exact joinAll_ok ps _ _ (hm.join hq) hu1 (fun q2 h2 => ⟨hin q2 (by simp [h2]), fun e => hnd.1 (by rw [e]; exact List.mem_map.2 ⟨q2, h2, rfl⟩)⟩) hnd.2

/-- Names that no known block bears or remembers. -/
def Vs (s : St) (V : Nat → Prop) : Prop := ∀ id, V id → id < s.next ∧ ∀ b y, s.heap.get b = some y → b ≠ id ∧ id ∉ y.olds

theorem Vs.sub {V V' : Nat → Prop} (h : Vs s V) (hs : ∀ id, V' id → V id) : Vs s V' := fun id hid => h id (hs id hid)

theorem joinFor_vs (b : Array Nat) (i : Nat) : ∀ (ps : List Pend) (s : St) (V : Nat → Prop), Vs s V → (∀ q ∈ ps, waits b i q.i = true → q.x.olds = []) →
    Vs (joinFor b i ps s).1 (fun id => V id ∧ ∀ q ∈ ps, waits b i q.i = true → q.id ≠ id)
  | [], s, V, hv, _ => hv.sub fun _ h => h.1
  | q :: ps, s, V, hv, ho => by
    unfold joinFor
    cases hw : waits b i q.i with
    | true =>
      rw [cond_true]
      have h1 : Vs (s.put q.id (some q.x)) (fun id => V id ∧ q.id ≠ id) := fun id hid => ⟨(hv id hid.1).1, fun d y hd => by
        rw [St.get_put] at hd
        by_cases hc : q.id = d ∧ q.id < most
        · rw [if_pos hc] at hd
          injection hd with hd
          subst hd
          rw [← hc.1, ho q (by simp) hw]
          exact ⟨hid.2, List.not_mem_nil⟩
        · rw [if_neg hc] at hd
          exact (hv id hid.1).2 d y hd⟩
      exact (joinFor_vs b i ps _ _ h1 fun q2 h2 => ho q2 (by simp [h2])).sub fun id h => ⟨⟨h.1, h.2 q (by simp) hw⟩, fun q2 h2 hw2 => h.2 q2 (by simp [h2]) hw2⟩
    | false =>
      rw [cond_false]
      exact (joinFor_vs b i ps s V hv fun q2 h2 => ho q2 (by simp [h2])).sub fun id h => ⟨h.1, fun q2 h2 hw2 => h.2 q2 (by simp [h2]) hw2⟩

theorem joinFor_snd (b : Array Nat) (i : Nat) : ∀ (ps : List Pend) (s : St) (q : Pend), q ∈ (joinFor b i ps s).2 → q ∈ ps ∧ waits b i q.i = false
  | [], s, q, h => by cases h
  | q2 :: ps, s, q, h => by
    unfold joinFor at h
    cases hw : waits b i q2.i with
    | true =>
      rw [hw, cond_true] at h
      obtain ⟨g1, g2⟩ := joinFor_snd b i ps _ q h
      exact ⟨by simp [g1], g2⟩
    | false =>
      rw [hw, cond_false] at h
      rcases List.mem_cons.1 h with e | h
      · subst e; exact ⟨by simp, hw⟩
      · obtain ⟨g1, g2⟩ := joinFor_snd b i ps _ q h
        exact ⟨by simp [g1], g2⟩

theorem joinFor_nodup (b : Array Nat) (i : Nat) : ∀ (ps : List Pend) (s : St), (ps.map (·.id)).Nodup → ((joinFor b i ps s).2.map (·.id)).Nodup
  | [], s, h => h
  | q :: ps, s, h => by
    rw [List.map_cons, List.nodup_cons] at h
    unfold joinFor
    cases hw : waits b i q.i with
    | true => rw [cond_true]; exact joinFor_nodup b i ps _ h.2
    | false =>
      rw [cond_false]
      rw [List.map_cons, List.nodup_cons]
      refine ⟨fun hm => h.1 ?_, joinFor_nodup b i ps s h.2⟩
      obtain ⟨q2, h2, e⟩ := List.mem_map.1 hm
      exact List.mem_map.2 ⟨q2, (joinFor_snd b i ps s q2 h2).1, e⟩

/-- The context in which an operation runs that must not touch what is not yet known. -/
def Ctx.off (c : Ctx) (p : Pl) (s : St) (w : World) (U : Nat → Blk → Prop) (V : Nat → Prop) (pl : Nat → Nat) : Ctx :=
  ⟨w, fun r => (c.w0.heap.size ≤ r ∨ c.D r) ∧ ∀ id x, U id x → r ≠ pl id, c.nG, fun b => c.ok b ∧ (∀ x, ¬ U b x) ∧ ¬ V b, fun r => (c.w0.heap.size ≤ r ∨ c.R r) ∧ ∀ id x, U id x → r ≠ pl id, s.next, p⟩

theorem M.off (h : M c p s w) {U : Nat → Blk → Prop} {V : Nat → Prop} {pl : Nat → Nat} (hu : Los c p s w U pl) (hv : Vs s V) : M (c.off p s w U V pl) p s w :=
  h.rebase (fun b x r z hb hp hd => ⟨hd, fun id y hy e => ((hu.each id y hy).no b x hb).2.2 z (e ▸ hp)⟩) (fun b x r z hb hp => ⟨(h.okk.2 b x hb).2.2 r z hp, fun id y hy e => ((hu.each id y hy).no b x hb).2.2 z (e ▸ hp)⟩)
    (fun b hb => ⟨h.okk.1 b hb, fun x hx => (by have := (hu.each b x hx).low; omega), fun hx => by have := (hv b hx).1; omega⟩)
    (fun b x hb => ⟨⟨(h.okk.2 b x hb).1, fun y hy => ((hu.each b y hy).no b x hb).1 rfl, fun hx => ((hv b hx).2 b x hb).1 rfl⟩, fun b2 h2 => ⟨(h.okk.2 b x hb).2.1 b2 h2, fun y hy => ((hu.each b2 y hy).no b x hb).2.1 h2, fun hx => ((hv b2 hx).2 b x hb).2 h2⟩⟩)

theorem M.on (h0 : M c p s w) {U : Nat → Blk → Prop} {V : Nat → Prop} {pl : Nat → Nat} (hu : Los c p s w U pl) (hv : Vs s V) {q : Pl} {w' : World} (hq : p.le q) (h : M (c.off p s w U V pl) q s' w') :
    M c q s' w' ∧ Los c q s' w' U pl ∧ Vs s' V ∧ (∀ b, b < s.next → q b = p b) ∧ s.next ≤ s'.next := by
  refine ⟨h0.back h (fun r hr => hr.1) (fun b hb => hb.1) (fun r hr => hr.1), ⟨fun id x hx => ?_, hu.apart⟩, fun id hid => ⟨Nat.lt_of_lt_of_le (hv id hid).1 h.pk.1, fun b y hb => ?_⟩, h.pk.2, h.pk.1⟩
  · have hl := hu.each id x hx
    obtain ⟨sz, o, k1, k2, k3⟩ := hl.here
    have hlt : pl id < w.heap.size := lt_of_heap k2
    refine ⟨⟨sz, o, hq _ _ k1, ?_, k3.le hq⟩, Nat.lt_of_lt_of_le hl.low h.pk.1, hl.high, hl.ok, hl.new, fun b y hb => ?_, hl.olds⟩
    · rw [h.keep.block (pl id) hlt fun hd => hd.2 id x hx rfl]; exact k2
    · obtain ⟨g1, g2, g3⟩ := h.okk.2 b y hb
      refine ⟨fun e => g1.2.1 x (e ▸ hx), fun hm => (g2 id hm).2.1 x hx, fun z hz => ?_⟩
      rcases g3 _ z hz with h1 | h1
      · have h1 : w.heap.size ≤ pl id := h1; omega
      · exact h1.2 id x hx rfl
  · obtain ⟨g1, g2, g3⟩ := h.okk.2 b y hb
    exact ⟨fun e => g1.2.2 (e ▸ hid), fun hm => (g2 id hm).2.2 hid⟩

/-- One more of them is made. -/
theorem M.loose (hm : M c p s w) {U : Nat → Blk → Prop} {pl : Nat → Nat} (hu : Los c p s w U pl) {id sz : Nat} {x : Blk} {o : Obj} (hx : BR p x sz o) (hp : p id = none) (hlow : id < s.next) (hhigh : c.nG ≤ id) (hok : c.ok id) (hN : c.N ≤ id)
    (holds : x.olds = []) (hes : x.es = 0) (hno : ∀ b y, s.heap.get b = some y → b ≠ id ∧ id ∉ y.olds) :
    p.le (p.add id w.heap.size sz 0) ∧ M c (p.add id w.heap.size sz 0) s { w with heap := w.heap.push o } ∧
      Los c (p.add id w.heap.size sz 0) s { w with heap := w.heap.push o } (fun i y => U i y ∨ (i = id ∧ y = x)) (fun i => if i = id then w.heap.size else pl i) := by
  have hle : p.le (p.add id w.heap.size sz 0) := Pl.le_add hp
  have hadd : ∀ b, b ≠ id → p.add id w.heap.size sz 0 b = p b := fun b hb => by unfold Pl.add; rw [if_neg hb]
  have hold : ∀ r (o' : Obj), w.heap[r]? = some o' → (w.heap.push o)[r]? = some o' := fun r o' hr => by
    have := lt_of_heap hr
    rw [Array.getElem?_push, if_neg (by omega)]; exact hr
  have hin : ∀ b y, s.heap.get b = some y → ∀ r z, p b = some (r, z) → r < w.heap.size := fun b y hb r z hpb => by
    obtain ⟨_, r', sz', o', hp', _, hr', _⟩ := hm.pres b y hb
    rw [hpb] at hp'
    have : r = r' := by injection hp' with e; exact congrArg Prod.fst e
    subst this
    exact lt_of_heap hr'
  have huid : ∀ i y, U i y → i ≠ id := fun i y hi e => by
    obtain ⟨sz', o', k1, _⟩ := (hu.each i y hi).here
    rw [e, hp] at k1; cases k1
  refine ⟨hle, ⟨hm.keep.push o, fun b hb => ?_, hm.ng, fun g r z hg hpg => ?_, fun b y hb => ?_, fun b1 b2 x1 x2 r s1 s2 h1 h2 hl p1 p2 => ?_, hm.dead, hm.olds, ⟨hm.okk.1, fun b y hb => ?_⟩, hm.pk.1, fun b hb => ?_⟩, fun i y hi => ?_, fun i y i2 y2 h1 h2 e => ?_⟩
  · rw [hadd b (by omega)]; exact hm.fresh b hb
  · rw [hadd g (by omega)] at hpg; exact hm.glob g r z hg hpg
  · obtain ⟨k1, r, sz', o', k2, k3, k4, k5⟩ := hm.pres b y hb
    exact ⟨k1, r, sz', o', hle _ _ k2, k3, hold _ _ k4, k5.le hle⟩
  · rw [hadd b1 (hno b1 x1 h1).1] at p1
    rw [hadd b2 (hno b2 x2 h2).1] at p2
    exact hm.sep b1 b2 x1 x2 r s1 s2 h1 h2 hl p1 p2
  · obtain ⟨k1, k2, k3⟩ := hm.okk.2 b y hb
    exact ⟨k1, k2, fun r z hpb => k3 r z (by rw [← hadd b (hno b y hb).1]; exact hpb)⟩
  · rw [hadd b (by omega)]; exact hm.pk.2 b hb
  · rcases hi with hi | ⟨e1, e2⟩
    · have hl := hu.each i y hi
      have hne := huid i y hi
      obtain ⟨sz', o', k1, k2, k3⟩ := hl.here
      simp only [if_neg hne]
      exact ⟨⟨sz', o', hle _ _ k1, hold _ _ k2, k3.le hle⟩, hl.low, hl.high, hl.ok, hl.new, fun b z hb => ⟨(hl.no b z hb).1, (hl.no b z hb).2.1, fun z2 hz => (hl.no b z hb).2.2 z2 (by rw [← hadd b (hno b z hb).1]; exact hz)⟩, hl.olds⟩
    · subst e1; subst e2
      simp only [if_true]
      refine ⟨⟨sz, o, by simp [Pl.add, hes], by simp, hx.le hle⟩, hlow, hhigh, hok, hm.keep.size, fun b z hb => ⟨(hno b z hb).1, (hno b z hb).2, fun z2 hz => ?_⟩, holds⟩
      rw [hadd b (hno b z hb).1] at hz
      exact Nat.lt_irrefl _ (hin b z hb _ _ hz)
  · rcases h1 with h1 | ⟨e1, e2⟩ <;> rcases h2 with h2 | ⟨f1, f2⟩
    · simp only [if_neg (huid i y h1), if_neg (huid i2 y2 h2)] at e
      exact hu.apart i y i2 y2 h1 h2 e
    · exfalso
      simp only [if_neg (huid i y h1), if_pos f1] at e
      obtain ⟨_, o', _, k2, _⟩ := (hu.each i y h1).here
      have := lt_of_heap k2
      omega
    · exfalso
      simp only [if_neg (huid i2 y2 h2), if_pos e1] at e
      obtain ⟨_, o', _, k2, _⟩ := (hu.each i2 y2 h2).here
      have := lt_of_heap k2
      omega
    · rw [e1, f1]

/-- Names are set aside. -/
theorem M.room (h : M c p s w) (n : Nat) : M c p ⟨s.heap, s.next + n⟩ w :=
  ⟨h.keep, fun b hb => h.fresh b (Nat.le_trans (Nat.le_add_right _ n) hb), Nat.le_trans h.ng (Nat.le_add_right _ n), h.glob, h.pres, h.sep, h.dead, fun b1 b2 x1 g1 g2 => Nat.lt_of_lt_of_le (h.olds b1 b2 x1 g1 g2) (Nat.le_add_right _ n),
    ⟨fun b hb => h.okk.1 b (Nat.le_trans (Nat.le_add_right _ n) hb), h.okk.2⟩, Nat.le_trans h.pk.1 (Nat.le_add_right _ n), h.pk.2⟩

end Rn
end Go.Proofs.Ytapidabhdbjnmaa
