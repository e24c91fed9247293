/- Small theorems of no program: a map whose entries are known, in whatever order they lie. -/
import Derived.Test.YtbcemognghkmcaaSep
import Derived.Maps.OwnSet
import Derived.Maps.Range
namespace Go.Proofs.Ytbcemognghkmcaa.Aid
open Go.ChangeShapes Go.WideShapes Go.ChangeAt Go.RowKit Go.PlainAid
open Go.ChangeMaps (notKey putKey delKey)
open Go.ChangeMaps (setBlock heap_setBlock_same heap_setBlock_other)
open Go.WideElems (Fit rd rg pl rd_val rd_key rg_of)
open Go.Maps (Keyed)
set_option linter.unusedVariables false
/-- An element is what it is. -/
def RV (v : Value) : Option (DataW Value × List MemPlace) := some (.held v, [])
abbrev En := Lit × Value
def heldE (E : List En) : List (Lit × DataW Value) := E.map fun p => (p.1, .held p.2)
/-- Block b is a map of the entries E, in whatever order. -/
def MapIs (w : World) (P : Program) (k : TypeId) (b : Nat) (E : List En) : Prop :=
  ∃ es clock, w.heap[b]? = some (.map es clock) ∧ Fit P k RV es clock ∧ (es.toList.map (rg P k RV)).Perm (heldE E)
def off (kl : Lit) (E : List En) : List En := E.filter fun p => !p.1.sameKey kl
def atE (E : List En) (kl : Lit) (z : Value) : Value := match E.find? (fun p => p.1.sameKey kl) with
  | some p => p.2
  | none => z
def hasE (E : List En) (kl : Lit) : Bool := (E.find? fun p => p.1.sameKey kl).isSome
theorem held_off (kl : Lit) (E : List En) : heldE (off kl E) = (heldE E).filter (notKey kl) := by
  unfold heldE off
  rw [List.filter_map]
  rfl
theorem held_cons (p : En) (E : List En) : heldE (p :: E) = (p.1, .held p.2) :: heldE E := rfl
section
variable {w w' : World} {P : Program} {k t e : TypeId} {b : Nat} {E E' : List En}
theorem MapIs.lt (h : MapIs w P k b E) : b < w.heap.size := by
  obtain ⟨es, clock, hb, -⟩ := h
  exact (Array.getElem?_eq_some_iff.1 hb).1
theorem MapIs.keep {S : Nat → Prop} (h : MapIs w P k b E) (hc : Chg S w w') (hs : ¬ S b) : MapIs w' P k b E := by
  have hl := h.lt
  obtain ⟨es, clock, hb, r⟩ := h
  exact ⟨es, clock, by rw [hc.block b hl hs]; exact hb, r⟩
theorem MapIs.perm (h : MapIs w P k b E) (hp : E.Perm E') : MapIs w P k b E' := by
  obtain ⟨es, clock, hb, F, hE⟩ := h
  exact ⟨es, clock, hb, F, hE.trans (hp.map _)⟩
theorem MapIs.made (w : World) (P : Program) (k : TypeId) : MapIs (w.alloc (.map #[] 0)) P k w.heap.size [] :=
  ⟨#[], 0, (MapKept.heap_alloc w _).1, ⟨by simp, Go.MapKept.stamped_empty 0, by simp⟩, List.Perm.refl _⟩
theorem MapIs.size (h : MapIs w P k b E) : E.length ≤ maxLen := by
  obtain ⟨es, clock, hb, F, hE⟩ := h
  have := hE.length_eq
  simp [heldE] at this
  have := F.size
  omega
/-- No key twice; each is a key's. -/
theorem MapIs.apart (h : MapIs w P k b E) (K : Keyed P k) : E.Pairwise fun p q => p.1 ≠ q.1 := by
  obtain ⟨es, clock, hb, F, hE⟩ := h
  have h1 := (hE.pairwise_iff (fun {_ _} hne => Ne.symm hne)).1 (Maps.fit_apart K F)
  unfold heldE at h1
  rw [List.pairwise_map] at h1
  exact h1
theorem MapIs.keyed (h : MapIs w P k b E) (K : Keyed P k) : ∀ p, p ∈ E → Go.WideAt.IsKeyLit p.1 := by
  intro p hp
  obtain ⟨es, clock, hb, F, hE⟩ := h
  have hm : (p.1, DataW.held p.2) ∈ heldE E := List.mem_map.2 ⟨p, hp, rfl⟩
  obtain ⟨x, hx, hxe⟩ := List.mem_map.1 (hE.mem_iff.2 hm)
  obtain ⟨y, hy⟩ := F.reads x hx
  rw [rg_of hy] at hxe
  have := K.key (rd_key hy)
  rw [hxe] at this
  exact this
theorem find_of_mem {E : List En} (hE : E.Pairwise fun p q => p.1 ≠ q.1) (hk : ∀ p, p ∈ E → Go.WideAt.IsKeyLit p.1) {p : En} (hp : p ∈ E) : E.find? (fun q => q.1.sameKey p.1) = some p := by
  induction E with
  | nil => cases hp
  | cons q E ih =>
    obtain ⟨h1, h2⟩ := List.pairwise_cons.1 hE
    rcases List.mem_cons.1 hp with rfl | hp
    · rw [List.find?_cons, Go.WideAt.sameKey_self (hk p List.mem_cons_self)]
    · rw [List.find?_cons, Maps.sameKey_ne (h1 p hp)]
      exact ih h2 (fun r hr => hk r (List.mem_cons_of_mem _ hr)) hp
theorem MapIs.look (h : MapIs w P k b E) (K : Keyed P k) (ht : P.underlying t = some (.map k e)) {z : Value} (hz : (zeroValue e).run P w = .ok z w) (c : Bool) {key : Value} {kl : Lit} (hkey : keyOf P k key = some kl) :
    (Instr.lookup t (.map (some b)) key c).run P w = .ok (if c then .tuple #[atE E kl z, .bool (hasE E kl)] else atE E kl z) w := by
  have ha := h.apart K
  have hky := h.keyed K
  obtain ⟨es, clock, hb, F, hE⟩ := h
  rcases Maps.fit_look c K ht hz hb F hkey with ⟨hrun, hno, -⟩ | ⟨e0, y, he0, hk0, hrun, hRv, -, -⟩
  · have hn : E.find? (fun p => p.1.sameKey kl) = none := List.find?_eq_none.2 fun p hp hs => by
      have hm : (p.1, DataW.held p.2) ∈ heldE E := List.mem_map.2 ⟨p, hp, rfl⟩
      obtain ⟨x, hx, hxe⟩ := List.mem_map.1 (hE.mem_iff.2 hm)
      obtain ⟨y, hy⟩ := F.reads x hx
      rw [rg_of hy] at hxe
      have h1 := rd_key hy
      rw [hxe, Go.WideAt.sameKey_eq hs] at h1
      exact hno x hx (K.inj h1 hkey)
    unfold atE hasE
    rw [hn]
    exact hrun
  · obtain ⟨y', hy'⟩ := F.reads e0 he0
    obtain ⟨z', hz', hzd⟩ := rd_val hy'
    have h1 := rd_key hy'
    rw [hk0, hkey] at h1
    have hkl : y'.1 = kl := (Option.some.inj h1).symm
    have hm : (kl, DataW.held e0.val) ∈ heldE E := by
      refine hE.mem_iff.1 (List.mem_map.2 ⟨e0, he0, ?_⟩)
      rw [rg_of hy', ← hkl]
      have : z' = (.held e0.val, []) := (Option.some.inj hz').symm
      rw [this] at hzd
      exact Prod.ext rfl hzd
    obtain ⟨p, hp, hpe⟩ := List.mem_map.1 hm
    have hp1 : p.1 = kl := congrArg Prod.fst hpe
    have hp2 : p.2 = e0.val := by
      have := congrArg Prod.snd hpe
      simpa using this
    have hf := find_of_mem ha hky hp
    rw [hp1] at hf
    unfold atE hasE
    rw [hf]
    dsimp only
    rw [hp2]
    exact hrun
theorem MapIs.store (h : MapIs w P k b E) (K : Keyed P k) (ht : P.underlying t = some (.map k e)) (hn : E.length < maxLen) {key val : Value} {kl : Lit} (hkey : keyOf P k key = some kl) :
    ∃ w', (Instr.mapUpdate t (.map (some b)) key val).run P w = .ok () w' ∧ MapIs w' P k b ((kl, val) :: off kl E) ∧ Chg (· = b) w w' := by
  obtain ⟨es, clock, hb, F, hE⟩ := h
  have hlen : es.size < maxLen := by
    have := hE.length_eq
    simp [heldE] at this
    omega
  obtain ⟨es', clock', hrun, F', hput, -⟩ := Maps.fit_store (R' := RV) K ht hb F hlen (fun _ _ _ _ hz => hz) hkey (yv := (.held val, [])) rfl
  refine ⟨_, hrun, ⟨es', clock', heap_setBlock_same hb _, F', ?_⟩, ⟨rfl, rfl, rfl, by simp [setBlock], fun i _ hi => heap_setBlock_other hb _ (fun e => hi e)⟩⟩
  have h1 := (sorted_perm (es'.toList.map (rg P k RV))).symm
  rw [hput] at h1
  refine h1.trans ((insert_perm _ _).trans ?_)
  rw [held_cons, held_off]
  exact (((sorted_perm _).trans hE).filter _).cons _
theorem MapIs.drop (h : MapIs w P k b E) (K : Keyed P k) (ht : P.underlying t = some (.map k e)) {key : Value} {kl : Lit} (hkey : keyOf P k key = some kl) (ty : TypeId) :
    ∃ w', (Builtin.delete_ #[t, k] ty #[.map (some b), key]).run P w = .ok (.tuple #[]) w' ∧ MapIs w' P k b (off kl E) ∧ Chg (· = b) w w' := by
  obtain ⟨es, clock, hb, F, hE⟩ := h
  obtain ⟨es', hrun, F', hle, hdel, -⟩ := Maps.fit_drop (ty := ty) K ht hb F hkey
  refine ⟨_, hrun, ⟨es', clock, heap_setBlock_same hb _, F', ?_⟩, ⟨rfl, rfl, rfl, by simp [setBlock], fun i _ hi => heap_setBlock_other hb _ (fun e => hi e)⟩⟩
  have h1 := (sorted_perm (es'.toList.map (rg P k RV))).symm
  rw [hdel] at h1
  refine h1.trans ?_
  rw [held_off]
  exact ((sorted_perm _).trans hE).filter _
theorem MapIs.own (h : MapIs w P k b E) : ∃ n D, w.ownsMap P k RV b n D ∧ Maps.size D = E.length := by
  obtain ⟨es, clock, hb, F, hE⟩ := h
  refine ⟨es.size, _, ⟨es, clock, hb, F, Nat.le_refl _, rfl⟩, ?_⟩
  have := hE.length_eq
  simp [heldE] at this
  simp [Maps.size, length_sorted, this]
theorem MapIs.len (h : MapIs w P k b E) (ht : P.underlying t = some (.map k e)) (ty : TypeId) : (Builtin.len_ #[t] ty #[.map (some b)]).run P w = .ok (.int .i64 E.length) w := by
  obtain ⟨n, D, hD, hs⟩ := h.own
  rw [← hs]
  exact hD.len ht ty
/-- .. of which L are still to come in the range whose block is r. -/
def Rng (w : World) (P : Program) (k : TypeId) (b r : Nat) (E L : List En) : Prop :=
  ∃ n D left cnt, w.ranges P k RV b r n D left cnt ∧ MapIs w P k b E ∧ (∀ zd p, p ∈ E → D.atKey p.1 zd = .held p.2) ∧ L.Perm (E.filter fun p => left p.1) ∧ (∀ kl, left kl = true → ∃ p, p ∈ E ∧ p.1 = kl)
theorem MapIs.dat (h : MapIs w P k b E) (K : Keyed P k) : ∃ es clock, w.heap[b]? = some (.map es clock) ∧ Fit P k RV es clock ∧ (es.toList.map (rg P k RV)).Perm (heldE E) ∧ ∀ zd p, p ∈ E → (DataW.map ((es.toList.map (rg P k RV)).foldr DataW.insert [])).atKey p.1 zd = .held p.2 := by
  have hky := h.keyed K
  obtain ⟨es, clock, hb, F, hE⟩ := h
  refine ⟨es, clock, hb, F, hE, fun zd p hp => ?_⟩
  have hm : (p.1, DataW.held p.2) ∈ heldE E := List.mem_map.2 ⟨p, hp, rfl⟩
  have hm' := hE.mem_iff.2 hm
  have := (atKey_sorted (es.toList.map (rg P k RV)) (Maps.fit_rising K F) p.1 (hky p hp)).2 _ hm' rfl
  rw [this]
theorem take_perm {F : List En} : ∀ (hF : F.Pairwise fun p q => p.1 ≠ q.1) (hk : ∀ p, p ∈ F → Go.WideAt.IsKeyLit p.1) {p : En} (hp : p ∈ F), F.Perm (p :: off p.1 F) := by
  induction F with
  | nil => intro _ _ _ hp; cases hp
  | cons q F ih =>
    intro hF hk p hp
    obtain ⟨h1, h2⟩ := List.pairwise_cons.1 hF
    rcases List.mem_cons.1 hp with rfl | hp
    · have e : off p.1 (p :: F) = F := by
        unfold off
        rw [List.filter_cons, Go.WideAt.sameKey_self (hk p List.mem_cons_self)]
        simp only [Bool.not_true, Bool.false_eq_true, if_false]
        exact List.filter_eq_self.2 fun r hr => by rw [Maps.sameKey_ne (h1 r hr).symm]; rfl
      rw [e]
    · have e : off p.1 (q :: F) = q :: off p.1 F := by
        unfold off
        rw [List.filter_cons, Maps.sameKey_ne (h1 p hp)]
        rfl
      rw [e]
      exact ((ih h2 (fun r hr => hk r (List.mem_cons_of_mem _ hr)) hp).cons q).trans (List.Perm.swap _ _ _)
theorem Rng.is {r : Nat} {L : List En} (h : Rng w P k b r E L) : MapIs w P k b E := by
  obtain ⟨n, D, left, cnt, -, h, -⟩ := h
  exact h
theorem Rng.ltr {r : Nat} {L : List En} (h : Rng w P k b r E L) : r < w.heap.size ∧ r ≠ b := by
  obtain ⟨n, D, left, cnt, h, -⟩ := h
  exact ⟨h.lt, h.ne⟩
theorem Rng.keep {S : Nat → Prop} {r : Nat} {L : List En} (h : Rng w P k b r E L) (hc : Chg S w w') (hs : ¬ S b) (hr : ¬ S r) : Rng w' P k b r E L := by
  have hl := h.is.lt
  have hlr := h.ltr.1
  obtain ⟨n, D, left, cnt, ⟨es, clock, since, seen, c0, hb, F, hsz, hD, hrr, rest⟩, hm, more⟩ := h
  exact ⟨n, D, left, cnt, ⟨es, clock, since, seen, c0, by rw [hc.block b hl hs]; exact hb, F, hsz, hD, by rw [hc.block r hlr hr]; exact hrr, rest⟩, hm.keep hc hs, more⟩
theorem Rng.perm {r : Nat} {L L' : List En} (h : Rng w P k b r E L) (hp : L.Perm L') : Rng w P k b r E L' := by
  obtain ⟨n, D, left, cnt, h1, h2, h3, h4, h5⟩ := h
  exact ⟨n, D, left, cnt, h1, h2, h3, hp.symm.trans h4, h5⟩
theorem Rng.left {r : Nat} {L : List En} (h : Rng w P k b r E L) : w.rangeLeft b r = L.length := by
  obtain ⟨n, D, left, cnt, h1, h2, h3, h4, h5⟩ := h
  rw [h1.left_eq]
  obtain ⟨es, clock, hb, F, hE⟩ := h2
  obtain ⟨es2, clock2, since, seen, c0, hb2, F2, hs, hD, hr, hold, hc, hl1, -⟩ := h1
  rw [hb] at hb2
  cases hb2
  rw [← hc, h4.length_eq]
  have e1 : (E.filter fun p => left p.1).length = ((heldE E).filter fun p => left p.1).length := by
    unfold heldE
    rw [List.filter_map, List.length_map]
    rfl
  rw [e1, ← (hE.filter _).length_eq, List.filter_map, List.length_map]
  unfold leftOf
  have e2 : (es.filter fun e => !seen.contains e.born).toList = es.toList.filter fun e => !seen.contains e.born := by simp
  rw [← Array.length_toList, e2]
  congr 1
  exact List.filter_congr fun x hx => (hl1 x hx).symm
theorem Rng.start (h : MapIs w P k b E) (K : Keyed P k) (ht : P.underlying t = some (.map k e)) :
    ∃ w', (Instr.range t (.map (some b))).run P w = .ok (.pointer (some ⟨w.heap.size, 0, none⟩)) w' ∧ Rng w' P k b w.heap.size E E ∧ Chg (fun _ => False) w w' ∧ w'.heap.size = w.heap.size + 1 := by
  obtain ⟨es, clock, hb, F, hE, hat⟩ := h.dat K
  have ho : w.ownsMap P k RV b es.size (.map ((es.toList.map (rg P k RV)).foldr DataW.insert [])) := ⟨es, clock, hb, F, Nat.le_refl _, rfl⟩
  obtain ⟨w', h1, h2, h3, h4⟩ := ho.range K ht
  have hc : Chg (fun _ => False) w w' := ⟨h3.os, h3.tape, h3.output, h3.size, fun i hi _ => h3.block i hi (by simp)⟩
  have hky := h.keyed K
  have hmem : ∀ p, p ∈ E → (p.1, DataW.held p.2) ∈ (es.toList.map (rg P k RV)).foldr DataW.insert [] := fun p hp =>
    Go.mem_sorted.2 (hE.mem_iff.2 (List.mem_map.2 ⟨p, hp, rfl⟩))
  refine ⟨w', h1, ⟨_, _, _, _, h2, h.keep hc (by simp), hat, ?_, fun kl hk => ?_⟩, hc, h4⟩
  · rw [List.filter_eq_self.2]
    intro p hp
    unfold Maps.has
    exact List.any_eq_true.2 ⟨_, hmem p hp, Go.WideAt.sameKey_self (hky p hp)⟩
  · unfold Maps.has at hk
    obtain ⟨x, hx, hxs⟩ := List.any_eq_true.1 hk
    obtain ⟨p, hp, hpe⟩ := List.mem_map.1 (hE.mem_iff.1 (Go.mem_sorted.1 hx))
    refine ⟨p, hp, ?_⟩
    rw [← hpe] at hxs
    exact Go.WideAt.sameKey_eq hxs
theorem Rng.next {r : Nat} {L : List En} (h : Rng w P k b r E L) (K : Keyed P k) (ty : TypeId) :
    (L = [] ∧ (Instr.next (.pointer (some ⟨r, 0, none⟩)) false ty).run P w = .ok (.tuple #[.bool false]) w) ∨
    ∃ key p L' w', keyOf P k key = some p.1 ∧ p ∈ E ∧ L.Perm (p :: L') ∧ (Instr.next (.pointer (some ⟨r, 0, none⟩)) false ty).run P w = .ok (.tuple #[.bool true, key, p.2]) w' ∧
      Rng w' P k b r E L' ∧ Chg (· = r) w w' ∧ w'.heap.size = w.heap.size ∧ (Instr.entry (.pointer (some ⟨r, 0, none⟩))).run P w' = .ok (.tuple #[key, p.2]) w' := by
  have hap := h.is.apart K
  have hky := h.is.keyed K
  obtain ⟨n, D, left, cnt, h1, h2, h3, h4, h5⟩ := h
  rcases h1.next K ty with ⟨h0, hno, hrun⟩ | ⟨key, v, kl, y, w', cnt', hk, hlk, hv, hat, hrun, hr', hlt, hg, hsz, hen⟩
  · left
    refine ⟨?_, hrun⟩
    rw [List.filter_eq_nil_iff.2 (fun p _ => by rw [hno]; simp)] at h4
    exact h4.eq_nil
  · right
    obtain ⟨p, hp, rfl⟩ := h5 kl hlk
    have hpv : p.2 = v := by
      have e1 := hat .nil
      rw [h3 .nil p hp] at e1
      have e2 : y = (.held v, []) := (Option.some.inj hv).symm
      rw [e2] at e1
      simpa using e1
    subst hpv
    have hc : Chg (· = r) w w' := ⟨hg.os, hg.tape, hg.output, hg.size, fun i hi hs => hg.block i hi (fun e => hs (Option.some.inj e))⟩
    have hpl : p ∈ E.filter fun q => left q.1 := List.mem_filter.2 ⟨hp, hlk⟩
    have ht := take_perm (hap.filter _) (fun q hq => hky q (List.mem_filter.1 hq).1) hpl
    refine ⟨key, p, off p.1 (E.filter fun q => left q.1), w', hk, hp, h4.trans ht, hrun, ⟨n, D, _, cnt', hr', h2.keep hc (fun e => h1.ne e.symm), h3, ?_, fun kl hkl => ?_⟩, hc, hsz, hen⟩
    · unfold off
      rw [List.filter_filter]
      exact List.Perm.of_eq (List.filter_congr fun q _ => by rw [Bool.and_comm])
    · simp only [Bool.and_eq_true] at hkl
      exact h5 kl hkl.1
theorem Rng.drop {r : Nat} {L : List En} (h : Rng w P k b r E L) (K : Keyed P k) (ht : P.underlying t = some (.map k e)) {key : Value} {kl : Lit} (hkey : keyOf P k key = some kl) (ty : TypeId) :
    ∃ w', (Builtin.delete_ #[t, k] ty #[.map (some b), key]).run P w = .ok (.tuple #[]) w' ∧ Rng w' P k b r (off kl E) (off kl L) ∧ Chg (· = b) w w' := by
  obtain ⟨w2, hrun2, hm2, hc2⟩ := h.is.drop K ht hkey ty
  obtain ⟨n, D, left, cnt, h1, h2, h3, h4, h5⟩ := h
  obtain ⟨w', cnt', hrun, hr', hle, hturn⟩ := h1.drop K ht hkey ty
  have e := hrun.symm.trans hrun2
  obtain rfl : w' = w2 := by
    cases e
    rfl
  refine ⟨w', hrun, ⟨n, _, _, cnt', hr', hm2, ?_, ?_, ?_⟩, hc2⟩
  · intro zd p hp
    have hp' := List.mem_filter.1 hp
    have hne : p.1 ≠ kl := fun e => by
      have := hp'.2
      rw [e, Go.WideAt.sameKey_self (K.key hkey)] at this
      cases this
    rw [Maps.atKey_del_other hne]
    exact h3 zd p hp'.1
  · unfold off
    have := h4.filter fun p => !p.1.sameKey kl
    refine this.trans (List.Perm.of_eq ?_)
    rw [List.filter_filter, List.filter_filter]
    exact List.filter_congr fun p _ => by cases p.1.sameKey kl <;> cases left p.1 <;> rfl
  · intro k2 hk2
    simp only [Bool.and_eq_true, Bool.not_eq_true'] at hk2
    obtain ⟨p, hp, hpk⟩ := h5 k2 hk2.1
    exact ⟨p, List.mem_filter.2 ⟨hp, by rw [hpk, hk2.2]; rfl⟩, hpk⟩
end
/-! Owned. -/
def aMap (P : Program) (k : TypeId) (b : Nat) (E : List En) : Asn :=
  ⟨fun w O => MapIs w P k b E ∧ ∀ j, O j ↔ j = b, fun _ _ h j hj => by rw [(h.2 j).1 hj]; exact h.1.lt, fun _ _ _ _ h hc hS => ⟨h.1.keep hc (hS b ((h.2 b).2 rfl)), h.2⟩⟩
def aRng (P : Program) (k : TypeId) (b r : Nat) (E L : List En) : Asn :=
  ⟨fun w O => Rng w P k b r E L ∧ ∀ j, O j ↔ j = b ∨ j = r, fun _ _ h j hj => by
    rcases (h.2 j).1 hj with rfl | rfl
    · exact h.1.is.lt
    · exact h.1.ltr.1, fun _ _ _ _ h hc hS => ⟨h.1.keep hc (hS b ((h.2 b).2 (Or.inl rfl))) (hS r ((h.2 r).2 (Or.inr rfl))), h.2⟩⟩
/-- What is known of a world in which A is. -/
def At (A : Asn) (Q : World → Prop) : Prop := ∀ w O, A.P w O → Q w
section
variable {w0 w w' : World} {O0 : Nat → Prop} {A B C : Asn} {Q : World → Prop} {P : Program} {k t e : TypeId} {b it : Nat} {E E' L : List En}
theorem At.l (h : At A Q) : At (A * B) Q := fun w O ⟨X, Y, hA, _⟩ => h w X hA
theorem At.r (h : At B Q) : At (A * B) Q := fun w O ⟨X, Y, _, hA, _⟩ => h w Y hA
theorem Own.kn (h : Own w0 O0 w A) (q : At A Q) : Q w := by
  obtain ⟨O, hA, -⟩ := h.ex
  exact q w O hA
theorem at_map (P : Program) (k : TypeId) (b : Nat) (E : List En) : At (aMap P k b E) (fun w => MapIs w P k b E) := fun _ _ h => h.1
theorem at_rng (P : Program) (k : TypeId) (b it : Nat) (E L : List En) : At (aRng P k b it E L) (fun w => Rng w P k b it E L) := fun _ _ h => h.1
theorem Own.mapTo (h : Own w0 O0 w (aMap P k b E * C)) (hc : Chg (· = b) w w') (hm : MapIs w' P k b E') : Own w0 O0 w' (aMap P k b E' * C) := by
  refine h.then fun O hO => ?_
  obtain ⟨X, Y, ⟨hM, hX⟩, hC, hd, hO⟩ := hO
  have : Own w X w' (aMap P k b E') := ⟨⟨(· = b), ⟨hm, fun _ => Iff.rfl⟩, fun j hj => Or.inl ((hX j).2 hj)⟩, hc.mono (fun i _ hi => (hX i).2 hi)⟩
  exact this.frame hC hd hO
theorem Own.mapNew (h : Own w0 O0 w A) (P : Program) (k : TypeId) : Own w0 O0 (w.alloc (.map #[] 0)) (aMap P k w.heap.size [] * A) := by
  refine h.then fun O hA => ?_
  have hc : Chg (fun _ => False) w (w.alloc (.map #[] 0)) := (Chg.refl _ _).alloc _
  refine ⟨⟨fun j => j = w.heap.size ∨ O j, ⟨(· = w.heap.size), O, ⟨MapIs.made _ _ _, fun _ => Iff.rfl⟩, A.keep _ _ _ _ hA hc (fun _ _ => id), fun j h1 h2 => ?_, fun _ => Iff.rfl⟩, ?_⟩, hc.mono (fun _ _ h => h.elim)⟩
  · have := A.lt _ _ hA j h2; omega
  · rintro j (rfl | h)
    · exact Or.inr (Nat.le_refl _)
    · exact Or.inl h
theorem Own.rngNew (h : Own w0 O0 w (aMap P k b E * C)) (hc : Chg (fun _ => False) w w') (hr : Rng w' P k b w.heap.size E L) : Own w0 O0 w' (aRng P k b w.heap.size E L * C) := by
  refine h.then fun O hO => ?_
  obtain ⟨X, Y, ⟨hM, hX⟩, hC, hd, hO⟩ := hO
  have : Own w X w' (aRng P k b w.heap.size E L) := ⟨⟨fun j => j = b ∨ j = w.heap.size, ⟨hr, fun _ => Iff.rfl⟩, fun j hj => hj.elim (fun x => Or.inl ((hX j).2 x)) (fun x => Or.inr (by omega))⟩, hc.mono (fun i _ hi => hi.elim)⟩
  exact this.frame hC hd hO
theorem Own.rngTo (h : Own w0 O0 w (aRng P k b it E L * C)) {S : Nat → Prop} (hc : Chg S w w') (hS : ∀ j, S j → j = b ∨ j = it) {E' L' : List En} (hr : Rng w' P k b it E' L') : Own w0 O0 w' (aRng P k b it E' L' * C) := by
  refine h.then fun O hO => ?_
  obtain ⟨X, Y, ⟨hM, hX⟩, hC, hd, hO⟩ := hO
  have : Own w X w' (aRng P k b it E' L') := ⟨⟨fun j => j = b ∨ j = it, ⟨hr, fun _ => Iff.rfl⟩, fun j hj => Or.inl ((hX j).2 hj)⟩, hc.mono (fun i _ hi => (hX i).2 (hS i hi))⟩
  exact this.frame hC hd hO
theorem Own.rngEnd (h : Own w0 O0 w (aRng P k b it E L * C)) : Own w0 O0 w (aMap P k b E * C) :=
  h.map fun O ⟨X, Y, ⟨hM, hX⟩, hC, hd, hO⟩ => ⟨fun j => j = b ∨ Y j, ⟨(· = b), Y, ⟨hM.is, fun _ => Iff.rfl⟩, hC, fun j hj => hd j ((hX j).2 (Or.inl hj)), fun _ => Iff.rfl⟩, fun j hj => (hO j).2 (hj.imp_left fun x => (hX j).2 (Or.inl x))⟩
theorem aMap_perm (h : E.Perm E') : Imp (aMap P k b E) (aMap P k b E') := fun w O ⟨hm, hO⟩ => ⟨hm.perm h, hO⟩
end
theorem perm_map_cons {α : Type} [DecidableEq α] (f : α → En) {R : List α} {p : En} {L' : List En} (h : (R.map f).Perm (p :: L')) : ∃ x R', R.Perm (x :: R') ∧ f x = p ∧ (R'.map f).Perm L' := by
  obtain ⟨x, hx, hxp⟩ := List.mem_map.1 (h.mem_iff.2 List.mem_cons_self)
  have h1 := List.perm_cons_erase hx
  refine ⟨x, R.erase x, h1, hxp, ?_⟩
  have h2 := (h1.map f).symm.trans h
  rw [List.map_cons, hxp] at h2
  exact h2.cons_inv
end Go.Proofs.Ytbcemognghkmcaa.Aid
