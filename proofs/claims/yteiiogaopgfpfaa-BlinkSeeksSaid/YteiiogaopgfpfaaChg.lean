/- Texts of ours, joined. -/
import Derived.Test.YteiiogaopgfpfaaAid
import Derived.Deep.AppendSrc

-- joined
section
namespace Go.Proofs.Yteiiogaopgfpfaa.Aid
open Go.ChangeShapes Go.WideShapes Go.ChangeAt Go.RowKit Go.PlainAid
set_option linter.unusedVariables false

/-- w' is w with new blocks, and writes to the blocks of S alone. -/
structure Chg (S : Nat → Prop) (w w' : World) : Prop where
  os : w'.os = w.os
  tape : w'.tape = w.tape
  output : w'.output = w.output
  size : w.heap.size ≤ w'.heap.size
  block : ∀ k, k < w.heap.size → ¬ S k → w'.heap[k]? = w.heap[k]?

section
variable {S T : Nat → Prop} {a b c w w' : World}
theorem Chg.refl (S : Nat → Prop) (w : World) : Chg S w w := ⟨rfl, rfl, rfl, Nat.le_refl _, fun _ _ _ => rfl⟩
theorem Chg.trans (h : Chg S a b) (k : Chg T b c) (hT : ∀ i, i < a.heap.size → T i → S i) : Chg S a c :=
  ⟨k.os.trans h.os, k.tape.trans h.tape, k.output.trans h.output, Nat.le_trans h.size k.size, fun i hi hs => (k.block i (Nat.lt_of_lt_of_le hi h.size) (fun ht => hs (hT i hi ht))).trans (h.block i hi hs)⟩
theorem Chg.mono (h : Chg S w w') (hT : ∀ i, i < w.heap.size → S i → T i) : Chg T w w' := ⟨h.os, h.tape, h.output, h.size, fun i hi hs => h.block i hi (fun x => hs (hT i hi x))⟩
theorem Chg.of_below (h : Below w.heap.size w w') : Chg S w w' := ⟨h.os, h.tape, h.output, h.size, fun i hi _ => h.block i hi⟩
theorem Chg.below (h : Chg S w w') {B : Nat} (hB : B ≤ w.heap.size) (hS : ∀ i, i < w.heap.size → S i → B ≤ i) : Below B w w' :=
  ⟨h.os, h.tape, h.output, h.size, fun i hi => h.block i (by omega) (fun x => by have := hS i (by omega) x; omega)⟩
theorem Chg.drewN (h : Chg S a w) (n : Nat) : Chg S a (w.drewN n) := ⟨h.os, h.tape, h.output, h.size, h.block⟩
theorem Chg.drew (h : Chg S a w) : Chg S a w.drew := ⟨h.os, h.tape, h.output, h.size, h.block⟩
theorem Chg.alloc (h : Chg S a w) (o : Obj) : Chg S a (w.alloc o) :=
  h.trans (T := fun _ => False) ⟨rfl, rfl, rfl, by simp, fun k hk _ => Below.heap_alloc _ _ _ hk⟩ (fun _ _ f => f.elim)
theorem Chg.setCell (h : Chg S a w) {p : Addr} (hp : p.block < a.heap.size → S p.block) (u : Value) : Chg S a (w.setCell p u) :=
  h.trans (T := (· = p.block)) ⟨rfl, rfl, rfl, by simp [World.setCell], fun k hk hs => Below.heap_setCell _ _ _ _ hs⟩ (fun i hi e => by subst e; exact hp hi)
theorem Chg.cell (h : Chg S w w') {b : Nat} (hb : b < w.heap.size) (hs : ¬ S b) (o : Nat) : w'.cell? ⟨b, o, none⟩ = w.cell? ⟨b, o, none⟩ := World.cell?_of_block (w := w) (a := ⟨b, o, none⟩) (h.block b hb hs)
theorem Chg.frozen (h : Chg S w w') {b : Nat} (hb : b < w.heap.size) (hs : ¬ S b) (o : Nat) : w'.frozen? ⟨b, o, none⟩ = w.frozen? ⟨b, o, none⟩ := World.frozen?_of_block (w := w) (a := ⟨b, o, none⟩) (h.block b hb hs)
theorem Chg.set1 {g : Nat} (h : Chg (· = g) a w) (i : Nat) (u : Value) : Chg (· = g) a (w.setCell ⟨g, i, none⟩ u) := h.setCell (fun _ => rfl) u
/-- Behind a call that changes its own new blocks alone. -/
theorem blS {B : Nat} (h1 : Below B a b) (h2 : Chg S b c) (hB : B ≤ b.heap.size) (hS : ∀ i, i < b.heap.size → S i → B ≤ i) : Below B a c := h1.trans (h2.below hB hS)
/-- The same, of one block. -/
theorem bl1 {B g : Nat} (h1 : Below B a b) (h2 : Chg (· = g) b c) (hB : B ≤ b.heap.size) (hg : B ≤ g) : Below B a c := blS h1 h2 hB (fun i _ e => by subst e; exact hg)
end

/-- int(uint(n) % m). -/
theorem mod_u (n m : Int) (h0 : 0 < m) (h1 : m ≤ 9223372036854775807) : ∃ K : Nat, wrap64 ((IntKind.u64.wrap n).tmod m) = (K : Int) ∧ (K : Int) < m := by
  have g0 : 0 ≤ IntKind.u64.wrap n := by rw [IntKind.wrap_u64]; omega
  have a1 := Int.tmod_nonneg m g0
  have a2 := Int.tmod_lt_of_pos (IntKind.u64.wrap n) h0
  refine ⟨((IntKind.u64.wrap n).tmod m).toNat, ?_, ?_⟩
  · unfold wrap64
    omega
  · omega

/-! A block known whole, that may be written. -/
def Blk (w : World) (g : Nat) (T : TypeId) (cs : Array Value) : Prop := w.heap[g]? = some (.cells cs T (0, 0))
section
variable {w w' : World} {g : Nat} {T : TypeId} {cs : Array Value}
theorem Blk.lt (h : Blk w g T cs) : g < w.heap.size := by
  rcases Nat.lt_or_ge g w.heap.size with h' | h'
  · exact h'
  · simp [Blk, Array.getElem?_eq_none h'] at h
theorem Blk.cell (h : Blk w g T cs) (i : Nat) : w.cell? ⟨g, i, none⟩ = cs[i]? := by unfold Blk at h; simp [World.cell?, h]
theorem Blk.free (h : Blk w g T cs) (i : Nat) : w.frozen? ⟨g, i, none⟩ = false := by unfold Blk at h; simp [World.frozen?, h]
theorem Blk.set (h : Blk w g T cs) (i : Nat) (u : Value) : Blk (w.setCell ⟨g, i, none⟩ u) g T (cs.setIfInBounds i u) := by
  have hlt := h.lt
  have h' : w.heap[g] = .cells cs T (0, 0) := by unfold Blk at h; simpa [Array.getElem?_eq_getElem hlt] using h
  show (w.heap.modify g _)[g]? = _
  rw [Array.getElem?_eq_getElem (by simpa using hlt), Array.getElem_modify_self, h']
  rfl
theorem Blk.other (h : Blk w g T cs) {p : Addr} (hp : g ≠ p.block) (u : Value) : Blk (w.setCell p u) g T cs := by
  unfold Blk; rw [Below.heap_setCell _ _ _ _ hp]; exact h
theorem Blk.keep {S : Nat → Prop} (h : Blk w g T cs) (hb : Chg S w w') (hs : ¬ S g) : Blk w' g T cs := by
  unfold Blk; rw [hb.block g h.lt hs]; exact h
theorem Blk.keepB (h : Blk w g T cs) (hb : Below w.heap.size w w') : Blk w' g T cs := by
  unfold Blk; rw [hb.block g h.lt]; exact h
theorem Blk.new (w : World) (cs : Array Value) (T : TypeId) : Blk (w.alloc (.cells cs T)) w.heap.size T cs := by
  show (w.heap.push _)[w.heap.size]? = _
  rw [Array.getElem?_push, if_pos rfl]
theorem Blk.drewN (h : Blk w g T cs) (n : Nat) : Blk (w.drewN n) g T cs := h
end
end Go.Proofs.Yteiiogaopgfpfaa.Aid
end

-- joined
section
namespace Go.Proofs.Yteiiogaopgfpfaa.Aid
open Go.ChangeShapes Go.WideShapes Go.ChangeAt Go.RowKit Go.PlainAid
set_option linter.unusedVariables false

/-- A row that something owns: nil, or the beginning of a block that may be written. -/
def Vec (w : World) (e : TypeId) (size : Nat) (v : Value) (n : Nat) (xs : List Value) : Prop := w.ownsRow 0 e size v n xs
/-- The block in which a row lies. -/
def VB (v : Value) : Nat → Prop := fun k => v.ownBlock = some k
/-- What is owned later was owned, or is new. -/
def Fresh (w : World) (O O' : Nat → Prop) : Prop := ∀ k, O' k → O k ∨ w.heap.size ≤ k
theorem Fresh.refl (w : World) (O : Nat → Prop) : Fresh w O O := fun _ h => Or.inl h
theorem Fresh.trans {w w' : World} {A B C : Nat → Prop} (h : Fresh w A B) (k : Fresh w' B C) (hs : w.heap.size ≤ w'.heap.size) : Fresh w A C := fun i hi => (k i hi).elim (fun x => h i x) (fun x => Or.inr (by omega))
theorem Fresh.not {w : World} {O O' : Nat → Prop} (h : Fresh w O O') {k : Nat} (hk : ¬ O k) (hl : k < w.heap.size) : ¬ O' k := fun x => (h k x).elim hk (fun y => by omega)
section
variable {w w' : World} {e : TypeId} {size n : Nat} {v : Value} {xs : List Value}
theorem Vec.nil (w : World) (e : TypeId) (size : Nat) : Vec w e size (.slice none 0 0) 0 [] := World.ownsRow_nil w 0 e size
theorem Vec.keep {S : Nat → Prop} (h : Vec w e size v n xs) (hb : Chg S w w') (hS : ∀ k, VB v k → ¬ S k) : Vec w' e size v n xs := by
  obtain ⟨h1, ⟨rfl, rfl⟩ | ⟨g, cap, cur, rfl, hg0, hg, hn, hc, hz, ht⟩⟩ := h
  · exact ⟨h1, Or.inl ⟨rfl, rfl⟩⟩
  · refine ⟨h1, Or.inr ⟨g, cap, cur, rfl, hg0, ?_, hn, hc, hz, ht⟩⟩
    have hlt : g < w.heap.size := by
      rcases Nat.lt_or_ge g w.heap.size with h' | h'
      · exact h'
      · simp [Array.getElem?_eq_none h'] at hg
    rw [hb.block g hlt (hS g rfl)]; exact hg
theorem Vec.keepB (h : Vec w e size v n xs) (hb : Below w.heap.size w w') : Vec w' e size v n xs := h.keep (S := fun _ => False) (Chg.of_below hb) (fun _ _ => id)
theorem Vec.lt (h : Vec w e size v n xs) {k : Nat} (hk : VB v k) : k < w.heap.size := (World.ownsRow.lt h k hk).2
theorem Vec.forms (h : Vec w e size v n xs) : (v = .slice none 0 0 ∧ n = 0) ∨ ∃ g cap, v = .slice (some ⟨g, 0, none⟩) n cap ∧ g < w.heap.size ∧ n ≤ cap ∧ cap ≤ maxLen := by
  have hlt := fun k => Vec.lt (k := k) h
  obtain ⟨h1, ⟨rfl, rfl⟩ | ⟨g, cap, cur, rfl, hg0, hg, hn, hc, hz, ht⟩⟩ := h
  · exact Or.inl ⟨rfl, rfl⟩
  · exact Or.inr ⟨g, cap, rfl, hlt g rfl, hn, hc⟩
theorem Vec.slice (h : Vec w e size v n xs) : ∃ A c, v = .slice A n c := by
  rcases h.forms with ⟨rfl, rfl⟩ | ⟨g, cap, rfl, -⟩
  · exact ⟨_, _, rfl⟩
  · exact ⟨_, _, rfl⟩
theorem Vec.cell {g cap : Nat} (h : Vec w e size (.slice (some ⟨g, 0, none⟩) n cap) n xs) {j : Nat} {u : Value} (hj : xs[j]? = some u) : w.cell? ⟨g, j, none⟩ = some u := by
  have := World.ownsRow.cells h (g := g) rfl j u hj
  rwa [addr_zero] at this
theorem Vec.free {g cap : Nat} (h : Vec w e size (.slice (some ⟨g, 0, none⟩) n cap) n xs) (j : Nat) : w.frozen? ⟨g, j, none⟩ = false := by
  obtain ⟨-, ⟨h', -⟩ | ⟨g', cap', cur, h', -, hg, -⟩⟩ := h
  · cases h'
  · simp only [Value.slice.injEq, Option.some.injEq, Addr.mk.injEq, and_true, true_and] at h'
    obtain ⟨rfl, rfl⟩ := h'
    simp [World.frozen?, hg]
/-- Fewer of them. -/
theorem Vec.cut {g cap : Nat} (h : Vec w e size (.slice (some ⟨g, 0, none⟩) n cap) n xs) {k : Nat} (hk : k ≤ n) : Vec w e size (.slice (some ⟨g, 0, none⟩) k cap) k (xs.take (k * size)) := by
  obtain ⟨h1, ⟨h', -⟩ | ⟨g', cap', cur, h', h0, hg, hn, hc, hz, ht⟩⟩ := h
  · cases h'
  · simp only [Value.slice.injEq, Option.some.injEq, Addr.mk.injEq, and_true, true_and] at h'
    obtain ⟨rfl, rfl⟩ := h'
    have := Nat.mul_le_mul_right size hk
    refine ⟨by rw [List.length_take, h1]; omega, Or.inr ⟨g, cap, cur, rfl, h0, hg, by omega, hc, hz, ?_⟩⟩
    rw [← ht, List.take_take, Nat.min_eq_left this]
/-- A cell is written. -/
theorem Vec.set {g cap : Nat} (h : Vec w e size (.slice (some ⟨g, 0, none⟩) n cap) n xs) {i : Nat} (hi : i < n * size) (u : Value) :
    Vec (w.setCell ⟨g, i, none⟩ u) e size (.slice (some ⟨g, 0, none⟩) n cap) n (xs.set i u) := by
  obtain ⟨h1, ⟨h', -⟩ | ⟨g', cap', cur, h', h0, hg, hn, hc, hz, ht⟩⟩ := h
  · cases h'
  · simp only [Value.slice.injEq, Option.some.injEq, Addr.mk.injEq, and_true, true_and] at h'
    obtain ⟨rfl, rfl⟩ := h'
    refine ⟨by rw [List.length_set]; exact h1, Or.inr ⟨g, cap, cur.setIfInBounds i u, rfl, h0, heap_setCell_same w g i cur e u hg, hn, hc, by rw [Array.size_setIfInBounds]; exact hz, ?_⟩⟩
    rw [Array.toList_setIfInBounds, List.take_set, ht]
theorem Vec.other (h : Vec w e size v n xs) {p : Addr} (hp : ∀ k, VB v k → k ≠ p.block) (u : Value) : Vec (w.setCell p u) e size v n xs :=
  h.keep (S := (· = p.block)) ((Chg.refl (· = p.block) w).setCell (fun _ => rfl) u) (fun k hk e => hp k hk e)
theorem Vec.len (h : Vec w e size v n xs) : xs.length = n * size := h.1
end

section
variable {P : Program}
theorem run_append_vec (w : World) (t tx ty e : TypeId) (i : TypeInfo) (z : Value) (ht : P.underlying t = some (.slice e)) (hi : P.info? e = some i) (hz : i.zero = some z) (hzs : z.cells.size = i.size) (hsz : 0 < i.size)
    (v : Value) (n : Nat) (xs : List Value) (hown : Vec w e i.size v n xs) (x : Value) (m : Nat) (news : List Value) (hs : Src P i.size tx x m news w)
    (h63 : n + m ≤ maxLen) (hbytes : (n + m) * i.bytes ≤ 140737488355328) :
    ∃ v' w', (Builtin.append_ #[t, tx] ty #[v, x]).run P w = .ok v' w' ∧ Vec w' e i.size v' (n + m) (xs ++ news) ∧ Chg (VB v) w w' ∧ Fresh w (VB v) (VB v') := by
  have hsmall : n + m ≤ 9223372036854775807 := by simp only [maxLen] at h63; omega
  have hl := hs.newsLen
  have hlen : (xs ++ news).length = (n + m) * i.size := by rw [List.length_append, hown.1, hl, Nat.add_mul]
  have grown : ∀ (old : Nat), old < n + m →
      Vec (w.drew.alloc (.cells ((xs ++ news).toArray ++ Builtin.zeroCells z.cells (grownCap w (n + m) old e - (n + m))) e)) e i.size
        (.slice (some ⟨w.heap.size, 0, none⟩) (n + m) (grownCap w (n + m) old e)) (n + m) (xs ++ news) ∧
      Chg (VB v) w (w.drew.alloc (.cells ((xs ++ news).toArray ++ Builtin.zeroCells z.cells (grownCap w (n + m) old e - (n + m))) e)) := by
    intro old ho
    have hge := grownCap_ge w (n + m) old e
    have hcm : grownCap w (n + m) old e ≤ maxLen := grownCap_le_maxLen w (n + m) old e h63
    refine ⟨⟨hlen, .inr ⟨w.heap.size, _, _, rfl, Nat.zero_le _, heap_alloc_new w.drew _, hge, hcm, ?_, ?_⟩⟩, ⟨rfl, rfl, rfl, by simp, fun k hk _ => Below.heap_alloc w.drew _ _ hk⟩⟩
    · simp only [Array.size_append, List.size_toArray, size_zeroCells, hzs, hlen, ← Nat.add_mul]
      congr 1
      omega
    · simp only [Array.toList_append]
      rw [← hlen]
      exact List.take_left
  have hown' := hown
  rcases hown.2 with ⟨rfl, rfl⟩ | ⟨g, cap, cur, rfl, hbg, hg, hnc, hcm, hcs, htake⟩
  · have hx : xs = [] := List.eq_nil_of_length_eq_zero (by simpa using hown.1)
    subst hx
    by_cases hm : m = 0
    · subst hm
      have hn : news = [] := List.eq_nil_of_length_eq_zero (by simpa using hl)
      subst hn
      refine ⟨.slice none 0 0, w, ?_, Vec.nil w e i.size, Chg.refl _ _, Fresh.refl _ _⟩
      have hc := hs.cells
      rcases hs.kind with ⟨e', hk⟩ | hk <;> simp [Builtin.append_, run_underlying ht, run_underlying hk, sizeOf, typeInfo, hi, hs.len, hc]
    · have hr := run_append_grow_src (P := P) w t tx ty e i z ht hi hz none 0 0 [] (run_firstCells_none w.drew i.size 0 0 0) x m news hs (by omega) (by omega) (growslice_fits (by omega) hbytes)
      have hgr := grown 0 (by omega)
      exact ⟨_, _, hr, hgr.1, hgr.2, fun k hk => Or.inr (by simp only [VB, Value.ownBlock, Option.some.injEq] at hk; omega)⟩
  · by_cases hroom : n + m ≤ cap
    · have hfit : n * i.size + news.length ≤ cur.size := by rw [hl, hcs, ← Nat.add_mul]; exact Nat.mul_le_mul_right _ hroom
      have hst := run_storeCells_at P g (n * i.size) e news 0 cur w hg (by simpa using hfit) hs.one
      simp only [Nat.add_zero] at hst
      refine ⟨.slice (some ⟨g, 0, none⟩) (n + m) cap, w.setRow g (cur.toList.take (n * i.size) ++ news ++ cur.toList.drop (n * i.size + news.length)).toArray, ?_, ⟨hlen, .inr ⟨g, cap, _, rfl, hbg, setRow_heap w g cur _ e _ hg, hroom, hcm, ?_, ?_⟩⟩, ⟨rfl, rfl, rfl, by simp, fun k _ hk => setRow_other w g k _ (fun e => hk (by simp [VB, Value.ownBlock, e]))⟩, fun k hk => Or.inl hk⟩
      · rcases hs.kind with ⟨e', hk⟩ | hk <;> simp [Builtin.append_, run_underlying ht, run_underlying hk, sizeOf, typeInfo, hi, hs.len, hroom, hs.cells, Addr.add_lit, hst]
      · simp only [List.size_toArray, List.length_append, List.length_take, List.length_drop, Array.length_toList]
        omega
      · rw [htake, ← hlen]
        exact List.take_left
    · have holds : ∀ j u, xs[j]? = some u → w.drew.cell? ((⟨g, 0, none⟩ : Addr).add j) = some u := fun j u hu => by simpa using World.ownsRow.cells hown (g := g) rfl j u hu
      have hr := run_append_grow_src (P := P) w t tx ty e i z ht hi hz (some ⟨g, 0, none⟩) n cap xs (run_firstCells_some w.drew i.size n _ n cap xs hown.1 holds) x m news hs (by omega) (by omega) (growslice_fits (by omega) hbytes)
      have hgr := grown cap (by omega)
      exact ⟨_, _, hr, hgr.1, hgr.2, fun k hk => Or.inr (by simp only [VB, Value.ownBlock, Option.some.injEq] at hk; omega)⟩

/-- append(s, x): s a row that something owns. -/
theorem wpList_append_vec {ops : Array Oper} {rest : List Oper} {o : Oper} {a : Act} {Q : Exit → Act → World → Prop} {w : World} (hgd : o.guard = none) (s x : Operand) (t tx : TypeId)
    (ho : o.op = .call { callee := .builtin .append, args := #[s, x], argTypes := #[t, tx] })
    (e : TypeId) (z : Value) (size bytes : Nat) (ht : P.underlying t = some (.slice e)) (hinfo : (P.info? e).map (fun i => (i.zero, i.size, i.bytes)) = some (some z, size, bytes)) (hzs : z.cells.size = size) (hsz : 0 < size)
    (v : Value) (n : Nat) (xs : List Value) (hs : a.eval s = v) (hown : Vec w e size v n xs) (xv : Value) (hx : a.eval x = xv) (m : Nat) (news : List Value) (hsrc : Src P size tx xv m news w)
    (h63 : n + m ≤ maxLen) (hbytes : (n + m) * bytes ≤ 140737488355328)
    (h : ∀ v' w', Vec w' e size v' (n + m) (xs ++ news) → Chg (VB v) w w' → Fresh w (VB v) (VB v') → wpList P ops Q rest (a.put o.dst v') w') : wpList P ops Q (o :: rest) a w := by
  obtain ⟨i, hi, hzz⟩ := Option.map_eq_some_iff.1 hinfo
  simp only [Prod.mk.injEq] at hzz
  obtain ⟨hz, rfl, rfl⟩ := hzz
  refine wpList_plain hgd fun K hK => ?_
  obtain ⟨v', w', hr, h2, h3, h4⟩ := run_append_vec (P := P) w t tx o.type e i z ht hi hz hzs hsz v n xs hown xv m news hsrc h63 hbytes
  unfold Oper.wp execOp
  simp only [ho, resolve, invoke, builtin, Sem.run_bind, Sem.run_pure, Result.andThen_ok, List.map_toArray, List.map_cons, List.map_nil, hs, hx, hr]
  exact hK _ _ (h v' w' h2 h3 h4)
end
/-! Bytes. -/
theorem byteCells_eq (s : ByteArray) : byteCells s = Lib.byteCells s.data.toList := rfl
theorem byteCells_cat (a b : ByteArray) : byteCells (a ++ b) = byteCells a ++ byteCells b := by simp [byteCells, ByteArray.data_append]
theorem byteCells_take (s : ByteArray) (k : Nat) : (byteCells s).take k = byteCells (s.extract 0 k) := by
  rw [byteCells_eq, byteCells_eq, Lib.extract_data]; simp [Lib.byteCells]
/-- Bytes of such a row, as a string. -/
theorem Vec.conv {P : Program} {w : World} {src e dst : TypeId} (hs : P.underlying src = some (.slice e)) (he : P.underlying e = some (.int .u8)) (hd : P.underlying dst = some .string) {v : Value} {n : Nat} {s : ByteArray}
    (h : Vec w e 1 v n (byteCells s)) : (convert src dst v).run P w = .ok (.string s) w := by
  have hn : s.size = n := by have := h.1; rw [byteCells_length] at this; omega
  rcases h.forms with ⟨rfl, rfl⟩ | ⟨g, cap, rfl, -⟩
  · obtain rfl : s = ⟨#[]⟩ := size_zero hn
    simp [convert, run_underlying hs, run_underlying hd, run_underlying he]
    first | done | rfl
  · have := conv_row (P := P) (w := w) hs he hd g 0 cap s.data.toList (fun i x hx => by
      rw [Nat.zero_add]
      exact h.cell (by rw [byteCells_eq]; simp [Lib.byteCells, hx])) n (by rw [← Lib.size_eq]; exact hn)
    rw [ofL_back] at this
    exact this
end Go.Proofs.Yteiiogaopgfpfaa.Aid
end
