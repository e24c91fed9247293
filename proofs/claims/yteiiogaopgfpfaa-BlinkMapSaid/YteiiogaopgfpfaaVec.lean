/- Texts of ours, joined. -/
import Derived.Test.YteiiogaopgfpfaaNtP
import Derived.Deep.AppendSrc

-- joined
section
namespace Go.Proofs.Yteiiogaopgfpfaa.Aid
open Go.ChangeShapes Go.WideShapes Go.ChangeAt Go.RowKit Go.PlainAid
set_option linter.unusedVariables false

/-- A row that something owns: nil, or the beginning of a block that may be written. -/
def Vec (w : World) (e : TypeId) (size : Nat) (v : Value) (n : Nat) (xs : List Value) : Prop := w.ownsRow 0 e size v n xs
/-- The block in which a row lies. -/
def VB (v : Value) : Nat → Prop := fun k => v.ownBlock = some k
/-- What is owned later was owned, or is new. -/
def Fresh (w : World) (O O' : Nat → Prop) : Prop := ∀ k, O' k → O k ∨ w.heap.size ≤ k
theorem Fresh.refl (w : World) (O : Nat → Prop) : Fresh w O O := fun _ h => Or.inl h
theorem Fresh.trans {w w' : World} {A B C : Nat → Prop} (h : Fresh w A B) (k : Fresh w' B C) (hs : w.heap.size ≤ w'.heap.size) : Fresh w A C := fun i hi => (k i hi).elim (fun x => h i x) (fun x => Or.inr (by omega))
theorem Fresh.not {w : World} {O O' : Nat → Prop} (h : Fresh w O O') {k : Nat} (hk : ¬ O k) (hl : k < w.heap.size) : ¬ O' k := fun x => (h k x).elim hk (fun y => by omega)
section
variable {w w' : World} {e : TypeId} {size n : Nat} {v : Value} {xs : List Value}
theorem Vec.nil (w : World) (e : TypeId) (size : Nat) : Vec w e size (.slice none 0 0) 0 [] := World.ownsRow_nil w 0 e size
theorem Vec.keep {S : Nat → Prop} (h : Vec w e size v n xs) (hb : Chg S w w') (hS : ∀ k, VB v k → ¬ S k) : Vec w' e size v n xs := by
  obtain ⟨h1, ⟨rfl, rfl⟩ | ⟨g, cap, cur, rfl, hg0, hg, hn, hc, hz, ht⟩⟩ := h
  · exact ⟨h1, Or.inl ⟨rfl, rfl⟩⟩
  · refine ⟨h1, Or.inr ⟨g, cap, cur, rfl, hg0, ?_, hn, hc, hz, ht⟩⟩
    have hlt : g < w.heap.size := by
      rcases Nat.lt_or_ge g w.heap.size with h' | h'
      · exact h'
      · simp [Array.getElem?_eq_none h'] at hg
    rw [hb.block g hlt (hS g rfl)]; exact hg
theorem Vec.lt (h : Vec w e size v n xs) {k : Nat} (hk : VB v k) : k < w.heap.size := (World.ownsRow.lt h k hk).2
theorem Vec.forms (h : Vec w e size v n xs) : (v = .slice none 0 0 ∧ n = 0) ∨ ∃ g cap, v = .slice (some ⟨g, 0, none⟩) n cap ∧ g < w.heap.size ∧ n ≤ cap ∧ cap ≤ maxLen := by
  have hlt := fun k => Vec.lt (k := k) h
  obtain ⟨h1, ⟨rfl, rfl⟩ | ⟨g, cap, cur, rfl, hg0, hg, hn, hc, hz, ht⟩⟩ := h
  · exact Or.inl ⟨rfl, rfl⟩
  · exact Or.inr ⟨g, cap, rfl, hlt g rfl, hn, hc⟩
theorem Vec.slice (h : Vec w e size v n xs) : ∃ A c, v = .slice A n c := by
  rcases h.forms with ⟨rfl, rfl⟩ | ⟨g, cap, rfl, -⟩
  · exact ⟨_, _, rfl⟩
  · exact ⟨_, _, rfl⟩
theorem Vec.cell {g cap : Nat} (h : Vec w e size (.slice (some ⟨g, 0, none⟩) n cap) n xs) {j : Nat} {u : Value} (hj : xs[j]? = some u) : w.cell? ⟨g, j, none⟩ = some u := by
  have := World.ownsRow.cells h (g := g) rfl j u hj
  rwa [addr_zero] at this
theorem Vec.free {g cap : Nat} (h : Vec w e size (.slice (some ⟨g, 0, none⟩) n cap) n xs) (j : Nat) : w.frozen? ⟨g, j, none⟩ = false := by
  obtain ⟨-, ⟨h', -⟩ | ⟨g', cap', cur, h', -, hg, -⟩⟩ := h
  · cases h'
  · simp only [Value.slice.injEq, Option.some.injEq, Addr.mk.injEq, and_true, true_and] at h'
    obtain ⟨rfl, rfl⟩ := h'
    simp [World.frozen?, hg]
/-- A cell is written. -/
theorem Vec.set {g cap : Nat} (h : Vec w e size (.slice (some ⟨g, 0, none⟩) n cap) n xs) {i : Nat} (hi : i < n * size) (u : Value) :
    Vec (w.setCell ⟨g, i, none⟩ u) e size (.slice (some ⟨g, 0, none⟩) n cap) n (xs.set i u) := by
  obtain ⟨h1, ⟨h', -⟩ | ⟨g', cap', cur, h', h0, hg, hn, hc, hz, ht⟩⟩ := h
  · cases h'
  · simp only [Value.slice.injEq, Option.some.injEq, Addr.mk.injEq, and_true, true_and] at h'
    obtain ⟨rfl, rfl⟩ := h'
    refine ⟨by rw [List.length_set]; exact h1, Or.inr ⟨g, cap, cur.setIfInBounds i u, rfl, h0, heap_setCell_same w g i cur e u hg, hn, hc, by rw [Array.size_setIfInBounds]; exact hz, ?_⟩⟩
    rw [Array.toList_setIfInBounds, List.take_set, ht]
theorem Vec.other (h : Vec w e size v n xs) {p : Addr} (hp : ∀ k, VB v k → k ≠ p.block) (u : Value) : Vec (w.setCell p u) e size v n xs :=
  h.keep (S := (· = p.block)) ((Chg.refl (· = p.block) w).setCell (fun _ => rfl) u) (fun k hk e => hp k hk e)
theorem Vec.len (h : Vec w e size v n xs) : xs.length = n * size := h.1
end

section
variable {P : Program}
theorem run_append_vec (w : World) (t tx ty e : TypeId) (i : TypeInfo) (z : Value) (ht : P.underlying t = some (.slice e)) (hi : P.info? e = some i) (hz : i.zero = some z) (hzs : z.cells.size = i.size) (hsz : 0 < i.size)
    (v : Value) (n : Nat) (xs : List Value) (hown : Vec w e i.size v n xs) (x : Value) (m : Nat) (news : List Value) (hs : Src P i.size tx x m news w)
    (h63 : n + m ≤ maxLen) (hbytes : (n + m) * i.bytes ≤ 140737488355328) :
    ∃ v' w', (Builtin.append_ #[t, tx] ty #[v, x]).run P w = .ok v' w' ∧ Vec w' e i.size v' (n + m) (xs ++ news) ∧ Chg (VB v) w w' ∧ Fresh w (VB v) (VB v') := by
  have hsmall : n + m ≤ 9223372036854775807 := by simp only [maxLen] at h63; omega
  have hl := hs.newsLen
  have hlen : (xs ++ news).length = (n + m) * i.size := by rw [List.length_append, hown.1, hl, Nat.add_mul]
  have grown : ∀ (old : Nat), old < n + m →
      Vec (w.drew.alloc (.cells ((xs ++ news).toArray ++ Builtin.zeroCells z.cells (grownCap w (n + m) old e - (n + m))) e)) e i.size
        (.slice (some ⟨w.heap.size, 0, none⟩) (n + m) (grownCap w (n + m) old e)) (n + m) (xs ++ news) ∧
      Chg (VB v) w (w.drew.alloc (.cells ((xs ++ news).toArray ++ Builtin.zeroCells z.cells (grownCap w (n + m) old e - (n + m))) e)) := by
    intro old ho
    have hge := grownCap_ge w (n + m) old e
    have hcm : grownCap w (n + m) old e ≤ maxLen := grownCap_le_maxLen w (n + m) old e h63
    refine ⟨⟨hlen, .inr ⟨w.heap.size, _, _, rfl, Nat.zero_le _, heap_alloc_new w.drew _, hge, hcm, ?_, ?_⟩⟩, ⟨rfl, rfl, rfl, by simp, fun k hk _ => Below.heap_alloc w.drew _ _ hk⟩⟩
    · simp only [Array.size_append, List.size_toArray, size_zeroCells, hzs, hlen, ← Nat.add_mul]
      congr 1
      omega
    · simp only [Array.toList_append]
      rw [← hlen]
      exact List.take_left
  have hown' := hown
  rcases hown.2 with ⟨rfl, rfl⟩ | ⟨g, cap, cur, rfl, hbg, hg, hnc, hcm, hcs, htake⟩
  · have hx : xs = [] := List.eq_nil_of_length_eq_zero (by simpa using hown.1)
    subst hx
    by_cases hm : m = 0
    · subst hm
      have hn : news = [] := List.eq_nil_of_length_eq_zero (by simpa using hl)
      subst hn
      refine ⟨.slice none 0 0, w, ?_, Vec.nil w e i.size, Chg.refl _ _, Fresh.refl _ _⟩
      have hc := hs.cells
      rcases hs.kind with ⟨e', hk⟩ | hk <;> simp [Builtin.append_, run_underlying ht, run_underlying hk, sizeOf, typeInfo, hi, hs.len, hc]
    · have hr := run_append_grow_src (P := P) w t tx ty e i z ht hi hz none 0 0 [] (run_firstCells_none w.drew i.size 0 0 0) x m news hs (by omega) (by omega) (growslice_fits (by omega) hbytes)
      have hgr := grown 0 (by omega)
      exact ⟨_, _, hr, hgr.1, hgr.2, fun k hk => Or.inr (by simp only [VB, Value.ownBlock, Option.some.injEq] at hk; omega)⟩
  · by_cases hroom : n + m ≤ cap
    · have hfit : n * i.size + news.length ≤ cur.size := by rw [hl, hcs, ← Nat.add_mul]; exact Nat.mul_le_mul_right _ hroom
      have hst := run_storeCells_at P g (n * i.size) e news 0 cur w hg (by simpa using hfit) hs.one
      simp only [Nat.add_zero] at hst
      refine ⟨.slice (some ⟨g, 0, none⟩) (n + m) cap, w.setRow g (cur.toList.take (n * i.size) ++ news ++ cur.toList.drop (n * i.size + news.length)).toArray, ?_, ⟨hlen, .inr ⟨g, cap, _, rfl, hbg, setRow_heap w g cur _ e _ hg, hroom, hcm, ?_, ?_⟩⟩, ⟨rfl, rfl, rfl, by simp, fun k _ hk => setRow_other w g k _ (fun e => hk (by simp [VB, Value.ownBlock, e]))⟩, fun k hk => Or.inl hk⟩
      · rcases hs.kind with ⟨e', hk⟩ | hk <;> simp [Builtin.append_, run_underlying ht, run_underlying hk, sizeOf, typeInfo, hi, hs.len, hroom, hs.cells, Addr.add_lit, hst]
      · simp only [List.size_toArray, List.length_append, List.length_take, List.length_drop, Array.length_toList]
        omega
      · rw [htake, ← hlen]
        exact List.take_left
    · have holds : ∀ j u, xs[j]? = some u → w.drew.cell? ((⟨g, 0, none⟩ : Addr).add j) = some u := fun j u hu => by simpa using World.ownsRow.cells hown (g := g) rfl j u hu
      have hr := run_append_grow_src (P := P) w t tx ty e i z ht hi hz (some ⟨g, 0, none⟩) n cap xs (run_firstCells_some w.drew i.size n _ n cap xs hown.1 holds) x m news hs (by omega) (by omega) (growslice_fits (by omega) hbytes)
      have hgr := grown cap (by omega)
      exact ⟨_, _, hr, hgr.1, hgr.2, fun k hk => Or.inr (by simp only [VB, Value.ownBlock, Option.some.injEq] at hk; omega)⟩

/-- append(s, x): s a row that something owns. -/
theorem wpList_append_vec {ops : Array Oper} {rest : List Oper} {o : Oper} {a : Act} {Q : Exit → Act → World → Prop} {w : World} (hgd : o.guard = none) (s x : Operand) (t tx : TypeId)
    (ho : o.op = .call { callee := .builtin .append, args := #[s, x], argTypes := #[t, tx] })
    (e : TypeId) (z : Value) (size bytes : Nat) (ht : P.underlying t = some (.slice e)) (hinfo : (P.info? e).map (fun i => (i.zero, i.size, i.bytes)) = some (some z, size, bytes)) (hzs : z.cells.size = size) (hsz : 0 < size)
    (v : Value) (n : Nat) (xs : List Value) (hs : a.eval s = v) (hown : Vec w e size v n xs) (xv : Value) (hx : a.eval x = xv) (m : Nat) (news : List Value) (hsrc : Src P size tx xv m news w)
    (h63 : n + m ≤ maxLen) (hbytes : (n + m) * bytes ≤ 140737488355328)
    (h : ∀ v' w', Vec w' e size v' (n + m) (xs ++ news) → Chg (VB v) w w' → Fresh w (VB v) (VB v') → wpList P ops Q rest (a.put o.dst v') w') : wpList P ops Q (o :: rest) a w := by
  obtain ⟨i, hi, hzz⟩ := Option.map_eq_some_iff.1 hinfo
  simp only [Prod.mk.injEq] at hzz
  obtain ⟨hz, rfl, rfl⟩ := hzz
  refine wpList_plain hgd fun K hK => ?_
  obtain ⟨v', w', hr, h2, h3, h4⟩ := run_append_vec (P := P) w t tx o.type e i z ht hi hz hzs hsz v n xs hown xv m news hsrc h63 hbytes
  unfold Oper.wp execOp
  simp only [ho, resolve, invoke, builtin, Sem.run_bind, Sem.run_pure, Result.andThen_ok, List.map_toArray, List.map_cons, List.map_nil, hs, hx, hr]
  exact hK _ _ (h v' w' h2 h3 h4)
end
/-! Bytes. -/
theorem byteCells_eq (s : ByteArray) : byteCells s = Lib.byteCells s.data.toList := rfl
/-- Bytes of such a row, as a string. -/
theorem Vec.conv {P : Program} {w : World} {src e dst : TypeId} (hs : P.underlying src = some (.slice e)) (he : P.underlying e = some (.int .u8)) (hd : P.underlying dst = some .string) {v : Value} {n : Nat} {s : ByteArray}
    (h : Vec w e 1 v n (byteCells s)) : (convert src dst v).run P w = .ok (.string s) w := by
  have hn : s.size = n := by have := h.1; rw [byteCells_length] at this; omega
  rcases h.forms with ⟨rfl, rfl⟩ | ⟨g, cap, rfl, -⟩
  · obtain rfl : s = ⟨#[]⟩ := size_zero hn
    simp [convert, run_underlying hs, run_underlying hd, run_underlying he]
    first | done | rfl
  · have := conv_row (P := P) (w := w) hs he hd g 0 cap s.data.toList (fun i x hx => by
      rw [Nat.zero_add]
      exact h.cell (by rw [byteCells_eq]; simp [Lib.byteCells, hx])) n (by rw [← Lib.size_eq]; exact hn)
    rw [ofL_back] at this
    exact this
end Go.Proofs.Yteiiogaopgfpfaa.Aid
end

-- joined
section
namespace Go.Proofs.Yteiiogaopgfpfaa.Aid
open Go.ChangeShapes Go.WideShapes Go.ChangeAt Go.RowKit Go.PlainAid
set_option linter.unusedVariables false

/-- What is known of the blocks O of a world, and of no others. -/
structure Asn where
  P : World → (Nat → Prop) → Prop
  lt : ∀ w O, P w O → ∀ k, O k → k < w.heap.size
  keep : ∀ w w' O S, P w O → Chg S w w' → (∀ k, O k → ¬ S k) → P w' O
/-- Both, of blocks that are apart. -/
def Asn.sep (A B : Asn) : Asn where
  P w O := ∃ X Y, A.P w X ∧ B.P w Y ∧ (∀ k, X k → ¬ Y k) ∧ ∀ k, O k ↔ X k ∨ Y k
  lt := by
    rintro w O ⟨X, Y, hA, hB, -, h⟩ k hk
    rcases (h k).1 hk with h | h
    · exact A.lt _ _ hA _ h
    · exact B.lt _ _ hB _ h
  keep := by
    rintro w w' O S ⟨X, Y, hA, hB, hd, h⟩ hc hS
    exact ⟨X, Y, A.keep _ _ _ _ hA hc (fun k hk => hS k ((h k).2 (Or.inl hk))), B.keep _ _ _ _ hB hc (fun k hk => hS k ((h k).2 (Or.inr hk))), hd, h⟩
instance : Mul Asn := ⟨Asn.sep⟩
/-- Nothing. -/
def Asn.emp : Asn := ⟨fun _ O => ∀ k, ¬ O k, fun _ _ h k hk => (h k hk).elim, fun _ _ _ _ h _ _ => h⟩
/-- A block. -/
def Asn.blk (g : Nat) (T : TypeId) (cs : Array Value) : Asn :=
  ⟨fun w O => Blk w g T cs ∧ ∀ k, O k ↔ k = g, fun _ _ h k hk => by rw [(h.2 k).1 hk]; exact h.1.lt, fun _ _ _ _ h hc hS => ⟨h.1.keep hc (hS g ((h.2 g).2 rfl)), h.2⟩⟩
/-- A row that grows. -/
def Asn.vec (e : TypeId) (size : Nat) (v : Value) (n : Nat) (xs : List Value) : Asn :=
  ⟨fun w O => Vec w e size v n xs ∧ ∀ k, O k ↔ VB v k, fun _ _ h k hk => h.1.lt ((h.2 k).1 hk), fun _ _ _ _ h hc hS => ⟨h.1.keep hc (fun k hk => hS k ((h.2 k).2 hk)), h.2⟩⟩
/-- Some one. -/
def Asn.ex {α : Type} (A : α → Asn) : Asn :=
  ⟨fun w O => ∃ a, (A a).P w O, fun w O ⟨a, h⟩ => (A a).lt w O h, fun w w' O S ⟨a, h⟩ hc hS => ⟨a, (A a).keep w w' O S h hc hS⟩⟩
/-- .. of which more is known. -/
def Asn.if (p : Prop) (A : Asn) : Asn :=
  ⟨fun w O => p ∧ A.P w O, fun w O ⟨_, h⟩ => A.lt w O h, fun w w' O S ⟨a, h⟩ hc hS => ⟨a, A.keep w w' O S h hc hS⟩⟩

/-- A is known of the world w, which came of w0, where the blocks of O0 were owned. -/
structure Own (w0 : World) (O0 : Nat → Prop) (w : World) (A : Asn) : Prop where
  ex : ∃ O, A.P w O ∧ Fresh w0 O0 O
  chg : Chg O0 w0 w
def No : Nat → Prop := fun _ => False
section
variable {w0 w w' : World} {O0 O : Nat → Prop} {A B C D : Asn} {P : Program} {f : FuncId} {args : Array Value} {v : Value}
theorem Own.start (h : A.P w O) : Own w O w A := ⟨⟨O, h, Fresh.refl _ _⟩, Chg.refl _ _⟩
theorem Own.none (w : World) : Own w No w Asn.emp := Own.start (fun _ => id)
theorem Own.bel (h : Own w0 No w A) : Below w0.heap.size w0 w := h.chg.below (Nat.le_refl _) (fun _ _ x => x.elim)
theorem Own.then (h : Own w0 O0 w A) (hk : ∀ O, A.P w O → Own w O w' B) : Own w0 O0 w' B := by
  obtain ⟨O, hA, hf⟩ := h.ex
  obtain ⟨⟨O', hB, hf'⟩, hc⟩ := hk O hA
  refine ⟨⟨O', hB, fun k hk => ?_⟩, h.chg.trans hc (fun i hi hO => (hf i hO).elim id (fun x => by omega))⟩
  rcases hf' k hk with h' | h'
  · exact hf k h'
  · exact Or.inr (by have := h.chg.size; omega)
/-- The frame: what is apart stays. -/
theorem Own.frame (h : Own w O w' B) {Y : Nat → Prop} (hy : C.P w Y) (hd : ∀ k, O k → ¬ Y k) {X : Nat → Prop} (hX : ∀ k, X k ↔ O k ∨ Y k) : Own w X w' (B * C) := by
  obtain ⟨O', hB, hf⟩ := h.ex
  refine ⟨⟨fun k => O' k ∨ Y k, ⟨O', Y, hB, C.keep _ _ _ _ hy h.chg (fun k hk hO => hd k hO hk), fun k h1 h2 => ?_, fun _ => Iff.rfl⟩, fun k hk => ?_⟩, h.chg.mono (fun i _ hi => (hX i).2 (Or.inl hi))⟩
  · rcases hf k h1 with h | h
    · exact hd k h h2
    · have := C.lt _ _ hy k h2; omega
  · rcases hk with h | h
    · exact (hf k h).elim (fun x => Or.inl ((hX k).2 (Or.inl x))) Or.inr
    · exact Or.inl ((hX k).2 (Or.inr h))
theorem sep_comm {w : World} {O : Nat → Prop} (h : (A * B).P w O) : (B * A).P w O := by
  obtain ⟨X, Y, hA, hB, hd, hO⟩ := h
  exact ⟨Y, X, hB, hA, fun k h1 h2 => hd k h2 h1, fun k => by rw [hO k]; exact Or.comm⟩
theorem sep_assoc {w : World} {O : Nat → Prop} (h : ((A * B) * C).P w O) : (A * (B * C)).P w O := by
  obtain ⟨X, Y, ⟨X1, X2, h1, h2, hd1, hX⟩, h3, hd, hO⟩ := h
  refine ⟨X1, fun k => X2 k ∨ Y k, h1, ⟨X2, Y, h2, h3, fun k a b => hd k ((hX k).2 (Or.inr a)) b, fun _ => Iff.rfl⟩, fun k a b => ?_, fun k => ?_⟩
  · rcases b with b | b
    · exact hd1 k a b
    · exact hd k ((hX k).2 (Or.inl a)) b
  · rw [hO k, hX k]; exact or_assoc
theorem sep_assoc' {w : World} {O : Nat → Prop} (h : (A * (B * C)).P w O) : ((A * B) * C).P w O := by
  obtain ⟨X, Y, h1, ⟨Y1, Y2, h2, h3, hd1, hY⟩, hd, hO⟩ := h
  refine ⟨fun k => X k ∨ Y1 k, Y2, ⟨X, Y1, h1, h2, fun k a b => hd k a ((hY k).2 (Or.inl b)), fun _ => Iff.rfl⟩, h3, fun k a b => ?_, fun k => ?_⟩
  · rcases a with a | a
    · exact hd k a ((hY k).2 (Or.inr b))
    · exact hd1 k a b
  · rw [hO k, hY k]; exact or_assoc.symm
theorem Own.map (h : Own w0 O0 w A) (hk : ∀ O, A.P w O → ∃ O', B.P w O' ∧ ∀ k, O' k → O k) : Own w0 O0 w B := by
  obtain ⟨O, hA, hf⟩ := h.ex
  obtain ⟨O', hB, hs⟩ := hk O hA
  exact ⟨⟨O', hB, fun k hk => hf k (hs k hk)⟩, h.chg⟩
theorem Own.comm (h : Own w0 O0 w (A * B)) : Own w0 O0 w (B * A) := h.map (fun O hO => ⟨O, sep_comm hO, fun _ => id⟩)
theorem Own.assoc (h : Own w0 O0 w ((A * B) * C)) : Own w0 O0 w (A * (B * C)) := h.map (fun O hO => ⟨O, sep_assoc hO, fun _ => id⟩)
theorem Own.assoc' (h : Own w0 O0 w (A * (B * C))) : Own w0 O0 w ((A * B) * C) := h.map (fun O hO => ⟨O, sep_assoc' hO, fun _ => id⟩)
/-- What isn't wanted any more is left. -/
theorem Own.left (h : Own w0 O0 w (A * B)) : Own w0 O0 w A := h.map (fun O ⟨X, Y, hA, hB, hd, hO⟩ => ⟨X, hA, fun k hk => (hO k).2 (Or.inl hk)⟩)
theorem Own.right (h : Own w0 O0 w (A * B)) : Own w0 O0 w B := h.map (fun O ⟨X, Y, hA, hB, hd, hO⟩ => ⟨Y, hB, fun k hk => (hO k).2 (Or.inr hk)⟩)
theorem Own.below (h : Own w0 O0 w A) (hb : Below w.heap.size w w') : Own w0 O0 w' A := by
  refine h.then fun O hA => ⟨⟨O, A.keep _ _ _ _ hA (Chg.of_below (S := fun _ => False) hb) (fun _ _ => id), Fresh.refl _ _⟩, Chg.of_below hb⟩
theorem Own.drewN (h : Own w0 O0 w A) (n : Nat) : Own w0 O0 (w.drewN n) A := h.below ⟨rfl, rfl, rfl, Nat.le_refl _, fun _ _ => rfl⟩
theorem Own.drew (h : Own w0 O0 w A) : Own w0 O0 w.drew A := h.below ⟨rfl, rfl, rfl, Nat.le_refl _, fun _ _ => rfl⟩
theorem Own.alloc (h : Own w0 O0 w A) (cs : Array Value) (T : TypeId) : Own w0 O0 (w.alloc (.cells cs T)) (Asn.blk w.heap.size T cs * A) := by
  refine h.then fun O hA => ?_
  have hc : Chg (fun _ => False) w (w.alloc (.cells cs T)) := (Chg.refl _ _).alloc _
  refine ⟨⟨fun k => k = w.heap.size ∨ O k, ⟨(· = w.heap.size), O, ⟨Blk.new _ _ _, fun _ => Iff.rfl⟩, A.keep _ _ _ _ hA hc (fun _ _ => id), fun k h1 h2 => ?_, fun _ => Iff.rfl⟩, ?_⟩, hc.mono (fun _ _ h => h.elim)⟩
  · have := A.lt _ _ hA k h2; omega
  · rintro k (rfl | h)
    · exact Or.inr (Nat.le_refl _)
    · exact Or.inl h

theorem Own.addEmp (h : Own w0 O0 w A) : Own w0 O0 w (A * Asn.emp) := h.map (fun O hO => ⟨O, ⟨O, fun _ => False, hO, fun _ => id, fun _ _ => id, fun k => by simp⟩, fun _ => id⟩)
/-- What is known is known in other words. -/
def Imp (A B : Asn) : Prop := ∀ w O, A.P w O → B.P w O
theorem Imp.l (h : Imp A B) : Imp (A * C) (B * C) := fun w O ⟨X, Y, hA, hC, hd, hO⟩ => ⟨X, Y, h w X hA, hC, hd, hO⟩
theorem Imp.r (h : Imp A B) : Imp (C * A) (C * B) := fun w O ⟨X, Y, hC, hA, hd, hO⟩ => ⟨X, Y, hC, h w Y hA, hd, hO⟩
theorem Own.imp (h : Own w0 O0 w A) (t : Imp A B) : Own w0 O0 w B := h.map (fun O hO => ⟨O, t w O hO, fun _ => id⟩)

/-! Contracts. -/
/-- The call wants A, answers v, and leaves B. -/
def Tr (P : Program) (f : FuncId) (args : Array Value) (A : Asn) (v : Value) (B : Asn) : Prop := ∀ w O, A.P w O → Calls P f args w fun e w' => e = .returned v ∧ Own w O w' B
/-- The call wants A, answers v, and leaves all as it is. -/
def Qt (P : Program) (f : FuncId) (args : Array Value) (A : Asn) (v : Value) : Prop := ∀ w O, A.P w O → Calls P f args w fun e w' => e = .returned v ∧ ∃ k, w' = w.drewN k
theorem Tr.l (h : Tr P f args A v B) : Tr P f args (A * C) v (B * C) := fun w O ⟨X, Y, hA, hC, hd, hO⟩ => (h w X hA).mono fun e w' ⟨he, ho⟩ => ⟨he, ho.frame hC hd hO⟩
theorem Qt.tr (h : Qt P f args A v) : Tr P f args A v A := fun w O hA => (h w O hA).mono fun e w' ⟨he, k, hk⟩ => ⟨he, hk ▸ (Own.start hA).drewN k⟩
theorem Own.call (h : Own w0 O0 w A) (t : Tr P f args A v B) : Calls P f args w fun e w' => e = .returned v ∧ Own w0 O0 w' B := by
  obtain ⟨O, hA, hf⟩ := h.ex
  have h' : Own w0 O0 w (⟨fun w O' => A.P w O' ∧ O' = O, fun w O h => A.lt w O h.1, fun _ _ _ _ h a b => ⟨A.keep _ _ _ _ h.1 a b, h.2⟩⟩) := ⟨⟨O, ⟨hA, rfl⟩, hf⟩, h.chg⟩
  exact (t w O hA).mono fun e w' ⟨he, ho⟩ => ⟨he, h'.then fun O' hO' => hO'.2 ▸ ho⟩
/-! What lies where. -/
def Has (A : Asn) (g : Nat) (T : TypeId) (cs : Array Value) : Prop := ∀ w O, A.P w O → Blk w g T cs
theorem has_blk (g : Nat) (T : TypeId) (cs : Array Value) : Has (Asn.blk g T cs) g T cs := fun _ _ h => h.1
theorem Has.l {g : Nat} {T : TypeId} {cs : Array Value} (h : Has A g T cs) : Has (A * B) g T cs := fun w O ⟨X, Y, hA, _⟩ => h w X hA
theorem Has.r {g : Nat} {T : TypeId} {cs : Array Value} (h : Has B g T cs) : Has (A * B) g T cs := fun w O ⟨X, Y, _, hA, _⟩ => h w Y hA
theorem Own.has (h : Own w0 O0 w A) {g : Nat} {T : TypeId} {cs : Array Value} (t : Has A g T cs) : Blk w g T cs := by
  obtain ⟨O, hA, hf⟩ := h.ex
  exact t w O hA
/-- A block of what is owned. -/
def Mem (A : Asn) (g : Nat) : Prop := ∀ w O, A.P w O → O g
theorem mem_blk (g : Nat) (T : TypeId) (cs : Array Value) : Mem (Asn.blk g T cs) g := fun _ _ h => (h.2 g).2 rfl
theorem Mem.l {g : Nat} (h : Mem A g) : Mem (A * B) g := fun w O ⟨X, Y, hA, _, _, hO⟩ => (hO g).2 (Or.inl (h w X hA))
theorem Mem.r {g : Nat} (h : Mem B g) : Mem (A * B) g := fun w O ⟨X, Y, _, hA, _, hO⟩ => (hO g).2 (Or.inr (h w Y hA))
theorem Own.ne (h : Own w0 O0 w (A * B)) {a b : Nat} (ha : Mem A a) (hb : Mem B b) : a ≠ b := by
  obtain ⟨O, ⟨X, Y, hA, hB, hd, -⟩, -⟩ := h.ex
  rintro rfl
  exact hd a (ha w X hA) (hb w Y hB)
/-- A cell is written. -/
def Sets (A : Asn) (p : Addr) (u : Value) (B : Asn) : Prop := ∀ w O, A.P w O → B.P (w.setCell p u) O ∧ O p.block
theorem sets_blk (g : Nat) (T : TypeId) (cs : Array Value) (i : Nat) (u : Value) : Sets (Asn.blk g T cs) ⟨g, i, none⟩ u (Asn.blk g T (cs.setIfInBounds i u)) := fun _ _ h => ⟨⟨h.1.set i u, h.2⟩, (h.2 g).2 rfl⟩
theorem Sets.l {p : Addr} {u : Value} (h : Sets A p u B) : Sets (A * C) p u (B * C) := fun w O ⟨X, Y, hA, hC, hd, hO⟩ => by
  obtain ⟨h1, h2⟩ := h w X hA
  exact ⟨⟨X, Y, h1, C.keep _ _ _ _ hC ((Chg.refl (· = p.block) w).setCell (fun _ => rfl) u) (fun k hk e => hd k (e ▸ h2) hk), hd, hO⟩, (hO _).2 (Or.inl h2)⟩
theorem Sets.r {p : Addr} {u : Value} (h : Sets A p u B) : Sets (C * A) p u (C * B) := fun w O hO => by
  obtain ⟨h1, h2⟩ := h.l (C := C) w O (sep_comm hO)
  exact ⟨sep_comm h1, h2⟩
theorem Own.set (h : Own w0 O0 w A) {p : Addr} {u : Value} (t : Sets A p u B) : Own w0 O0 (w.setCell p u) B := by
  refine h.then fun O hA => ?_
  obtain ⟨h1, h2⟩ := t w O hA
  exact ⟨⟨O, h1, Fresh.refl _ _⟩, (Chg.refl _ _).setCell (fun _ => h2) u⟩
end
end Go.Proofs.Yteiiogaopgfpfaa.Aid
end
