/- Small theorems of no program: what is known of memory that something owns, its blocks named, each part apart from the others. -/
import Derived.Test.YtoofoalpffoheaaVec
namespace Go.Proofs.Ytoofoalpffoheaa.Aid
open Go.ChangeShapes Go.WideShapes Go.ChangeAt Go.RowKit Go.PlainAid
set_option linter.unusedVariables false

/-- What is known of the blocks O of a world, and of no others. -/
structure Asn where
  P : World → (Nat → Prop) → Prop
  lt : ∀ w O, P w O → ∀ k, O k → k < w.heap.size
  keep : ∀ w w' O S, P w O → Chg S w w' → (∀ k, O k → ¬ S k) → P w' O
/-- Both, of blocks that are apart. -/
def Asn.sep (A B : Asn) : Asn where
  P w O := ∃ X Y, A.P w X ∧ B.P w Y ∧ (∀ k, X k → ¬ Y k) ∧ ∀ k, O k ↔ X k ∨ Y k
  lt := by
    rintro w O ⟨X, Y, hA, hB, -, h⟩ k hk
    rcases (h k).1 hk with h | h
    · exact A.lt _ _ hA _ h
    · exact B.lt _ _ hB _ h
  keep := by
    rintro w w' O S ⟨X, Y, hA, hB, hd, h⟩ hc hS
    exact ⟨X, Y, A.keep _ _ _ _ hA hc (fun k hk => hS k ((h k).2 (Or.inl hk))), B.keep _ _ _ _ hB hc (fun k hk => hS k ((h k).2 (Or.inr hk))), hd, h⟩
instance : Mul Asn := ⟨Asn.sep⟩
/-- Nothing. -/
def Asn.emp : Asn := ⟨fun _ O => ∀ k, ¬ O k, fun _ _ h k hk => (h k hk).elim, fun _ _ _ _ h _ _ => h⟩
/-- A block. -/
def Asn.blk (g : Nat) (T : TypeId) (cs : Array Value) : Asn :=
  ⟨fun w O => Blk w g T cs ∧ ∀ k, O k ↔ k = g, fun _ _ h k hk => by rw [(h.2 k).1 hk]; exact h.1.lt, fun _ _ _ _ h hc hS => ⟨h.1.keep hc (hS g ((h.2 g).2 rfl)), h.2⟩⟩
/-- A row that grows. -/
def Asn.vec (e : TypeId) (size : Nat) (v : Value) (n : Nat) (xs : List Value) : Asn :=
  ⟨fun w O => Vec w e size v n xs ∧ ∀ k, O k ↔ VB v k, fun _ _ h k hk => h.1.lt ((h.2 k).1 hk), fun _ _ _ _ h hc hS => ⟨h.1.keep hc (fun k hk => hS k ((h.2 k).2 hk)), h.2⟩⟩
/-- Some one. -/
def Asn.ex {α : Type} (A : α → Asn) : Asn :=
  ⟨fun w O => ∃ a, (A a).P w O, fun w O ⟨a, h⟩ => (A a).lt w O h, fun w w' O S ⟨a, h⟩ hc hS => ⟨a, (A a).keep w w' O S h hc hS⟩⟩
/-- .. of which more is known. -/
def Asn.if (p : Prop) (A : Asn) : Asn :=
  ⟨fun w O => p ∧ A.P w O, fun w O ⟨_, h⟩ => A.lt w O h, fun w w' O S ⟨a, h⟩ hc hS => ⟨a, A.keep w w' O S h hc hS⟩⟩

/-- A is known of the world w, which came of w0, where the blocks of O0 were owned. -/
structure Own (w0 : World) (O0 : Nat → Prop) (w : World) (A : Asn) : Prop where
  ex : ∃ O, A.P w O ∧ Fresh w0 O0 O
  chg : Chg O0 w0 w
def No : Nat → Prop := fun _ => False
section
variable {w0 w w' : World} {O0 O : Nat → Prop} {A B C D : Asn} {P : Program} {f : FuncId} {args : Array Value} {v : Value}
theorem Own.start (h : A.P w O) : Own w O w A := ⟨⟨O, h, Fresh.refl _ _⟩, Chg.refl _ _⟩
theorem Own.none (w : World) : Own w No w Asn.emp := Own.start (fun _ => id)
theorem Own.of_below (h : Below w0.heap.size w0 w) : Own w0 No w Asn.emp := ⟨⟨No, fun _ => id, fun _ h => Or.inl h⟩, Chg.of_below h⟩
theorem Own.bel (h : Own w0 No w A) : Below w0.heap.size w0 w := h.chg.below (Nat.le_refl _) (fun _ _ x => x.elim)
theorem Own.then (h : Own w0 O0 w A) (hk : ∀ O, A.P w O → Own w O w' B) : Own w0 O0 w' B := by
  obtain ⟨O, hA, hf⟩ := h.ex
  obtain ⟨⟨O', hB, hf'⟩, hc⟩ := hk O hA
  refine ⟨⟨O', hB, fun k hk => ?_⟩, h.chg.trans hc (fun i hi hO => (hf i hO).elim id (fun x => by omega))⟩
  rcases hf' k hk with h' | h'
  · exact hf k h'
  · exact Or.inr (by have := h.chg.size; omega)
/-- The frame: what is apart stays. -/
theorem Own.frame (h : Own w O w' B) {Y : Nat → Prop} (hy : C.P w Y) (hd : ∀ k, O k → ¬ Y k) {X : Nat → Prop} (hX : ∀ k, X k ↔ O k ∨ Y k) : Own w X w' (B * C) := by
  obtain ⟨O', hB, hf⟩ := h.ex
  refine ⟨⟨fun k => O' k ∨ Y k, ⟨O', Y, hB, C.keep _ _ _ _ hy h.chg (fun k hk hO => hd k hO hk), fun k h1 h2 => ?_, fun _ => Iff.rfl⟩, fun k hk => ?_⟩, h.chg.mono (fun i _ hi => (hX i).2 (Or.inl hi))⟩
  · rcases hf k h1 with h | h
    · exact hd k h h2
    · have := C.lt _ _ hy k h2; omega
  · rcases hk with h | h
    · exact (hf k h).elim (fun x => Or.inl ((hX k).2 (Or.inl x))) Or.inr
    · exact Or.inl ((hX k).2 (Or.inr h))
theorem sep_comm {w : World} {O : Nat → Prop} (h : (A * B).P w O) : (B * A).P w O := by
  obtain ⟨X, Y, hA, hB, hd, hO⟩ := h
  exact ⟨Y, X, hB, hA, fun k h1 h2 => hd k h2 h1, fun k => by rw [hO k]; exact Or.comm⟩
theorem sep_assoc {w : World} {O : Nat → Prop} (h : ((A * B) * C).P w O) : (A * (B * C)).P w O := by
  obtain ⟨X, Y, ⟨X1, X2, h1, h2, hd1, hX⟩, h3, hd, hO⟩ := h
  refine ⟨X1, fun k => X2 k ∨ Y k, h1, ⟨X2, Y, h2, h3, fun k a b => hd k ((hX k).2 (Or.inr a)) b, fun _ => Iff.rfl⟩, fun k a b => ?_, fun k => ?_⟩
  · rcases b with b | b
    · exact hd1 k a b
    · exact hd k ((hX k).2 (Or.inl a)) b
  · rw [hO k, hX k]; exact or_assoc
theorem sep_assoc' {w : World} {O : Nat → Prop} (h : (A * (B * C)).P w O) : ((A * B) * C).P w O := by
  obtain ⟨X, Y, h1, ⟨Y1, Y2, h2, h3, hd1, hY⟩, hd, hO⟩ := h
  refine ⟨fun k => X k ∨ Y1 k, Y2, ⟨X, Y1, h1, h2, fun k a b => hd k a ((hY k).2 (Or.inl b)), fun _ => Iff.rfl⟩, h3, fun k a b => ?_, fun k => ?_⟩
  · rcases a with a | a
    · exact hd k a ((hY k).2 (Or.inr b))
    · exact hd1 k a b
  · rw [hO k, hY k]; exact or_assoc.symm
theorem Own.map (h : Own w0 O0 w A) (hk : ∀ O, A.P w O → ∃ O', B.P w O' ∧ ∀ k, O' k → O k) : Own w0 O0 w B := by
  obtain ⟨O, hA, hf⟩ := h.ex
  obtain ⟨O', hB, hs⟩ := hk O hA
  exact ⟨⟨O', hB, fun k hk => hf k (hs k hk)⟩, h.chg⟩
theorem Own.comm (h : Own w0 O0 w (A * B)) : Own w0 O0 w (B * A) := h.map (fun O hO => ⟨O, sep_comm hO, fun _ => id⟩)
theorem Own.assoc (h : Own w0 O0 w ((A * B) * C)) : Own w0 O0 w (A * (B * C)) := h.map (fun O hO => ⟨O, sep_assoc hO, fun _ => id⟩)
theorem Own.assoc' (h : Own w0 O0 w (A * (B * C))) : Own w0 O0 w ((A * B) * C) := h.map (fun O hO => ⟨O, sep_assoc' hO, fun _ => id⟩)
/-- What isn't wanted any more is left. -/
theorem Own.left (h : Own w0 O0 w (A * B)) : Own w0 O0 w A := h.map (fun O ⟨X, Y, hA, hB, hd, hO⟩ => ⟨X, hA, fun k hk => (hO k).2 (Or.inl hk)⟩)
theorem Own.right (h : Own w0 O0 w (A * B)) : Own w0 O0 w B := h.map (fun O ⟨X, Y, hA, hB, hd, hO⟩ => ⟨Y, hB, fun k hk => (hO k).2 (Or.inr hk)⟩)
theorem Own.below (h : Own w0 O0 w A) (hb : Below w.heap.size w w') : Own w0 O0 w' A := by
  refine h.then fun O hA => ⟨⟨O, A.keep _ _ _ _ hA (Chg.of_below (S := fun _ => False) hb) (fun _ _ => id), Fresh.refl _ _⟩, Chg.of_below hb⟩
theorem Own.drewN (h : Own w0 O0 w A) (n : Nat) : Own w0 O0 (w.drewN n) A := h.below ⟨rfl, rfl, rfl, Nat.le_refl _, fun _ _ => rfl⟩
theorem Own.drew (h : Own w0 O0 w A) : Own w0 O0 w.drew A := h.below ⟨rfl, rfl, rfl, Nat.le_refl _, fun _ _ => rfl⟩
theorem Own.alloc (h : Own w0 O0 w A) (cs : Array Value) (T : TypeId) : Own w0 O0 (w.alloc (.cells cs T)) (Asn.blk w.heap.size T cs * A) := by
  refine h.then fun O hA => ?_
  have hc : Chg (fun _ => False) w (w.alloc (.cells cs T)) := (Chg.refl _ _).alloc _
  refine ⟨⟨fun k => k = w.heap.size ∨ O k, ⟨(· = w.heap.size), O, ⟨Blk.new _ _ _, fun _ => Iff.rfl⟩, A.keep _ _ _ _ hA hc (fun _ _ => id), fun k h1 h2 => ?_, fun _ => Iff.rfl⟩, ?_⟩, hc.mono (fun _ _ h => h.elim)⟩
  · have := A.lt _ _ hA k h2; omega
  · rintro k (rfl | h)
    · exact Or.inr (Nat.le_refl _)
    · exact Or.inl h

theorem Own.addEmp (h : Own w0 O0 w A) : Own w0 O0 w (A * Asn.emp) := h.map (fun O hO => ⟨O, ⟨O, fun _ => False, hO, fun _ => id, fun _ _ => id, fun k => by simp⟩, fun _ => id⟩)
theorem Own.get (h : Own w0 O0 w A) {p : Prop} (t : ∀ w O, A.P w O → p) : p := by
  obtain ⟨O, hA, -⟩ := h.ex
  exact t w O hA
/-- What is known of a part. -/
def Fact (A : Asn) (p : Prop) : Prop := ∀ w O, A.P w O → p
theorem Fact.l {p : Prop} (h : Fact A p) : Fact (A * B) p := fun w O ⟨X, Y, hA, _⟩ => h w X hA
theorem Fact.r {p : Prop} (h : Fact B p) : Fact (A * B) p := fun w O ⟨X, Y, _, hA, _⟩ => h w Y hA
/-- What is known is known in other words. -/
def Imp (A B : Asn) : Prop := ∀ w O, A.P w O → B.P w O
theorem Imp.l (h : Imp A B) : Imp (A * C) (B * C) := fun w O ⟨X, Y, hA, hC, hd, hO⟩ => ⟨X, Y, h w X hA, hC, hd, hO⟩
theorem Imp.r (h : Imp A B) : Imp (C * A) (C * B) := fun w O ⟨X, Y, hC, hA, hd, hO⟩ => ⟨X, Y, hC, h w Y hA, hd, hO⟩
theorem Own.imp (h : Own w0 O0 w A) (t : Imp A B) : Own w0 O0 w B := h.map (fun O hO => ⟨O, t w O hO, fun _ => id⟩)

/-! Contracts. -/
/-- The call wants A, answers v, and leaves B. -/
def Tr (P : Program) (f : FuncId) (args : Array Value) (A : Asn) (v : Value) (B : Asn) : Prop := ∀ w O, A.P w O → Calls P f args w fun e w' => e = .returned v ∧ Own w O w' B
/-- .. one of the v, and leaves what belongs to it. -/
def TrE {α : Type} (P : Program) (f : FuncId) (args : Array Value) (A : Asn) (v : α → Value) (B : α → Asn) : Prop := ∀ w O, A.P w O → Calls P f args w fun e w' => ∃ a, e = .returned (v a) ∧ Own w O w' (B a)
/-- The call wants A, answers v, and leaves all as it is. -/
def Qt (P : Program) (f : FuncId) (args : Array Value) (A : Asn) (v : Value) : Prop := ∀ w O, A.P w O → Calls P f args w fun e w' => e = .returned v ∧ ∃ k, w' = w.drewN k
theorem Tr.l (h : Tr P f args A v B) : Tr P f args (A * C) v (B * C) := fun w O ⟨X, Y, hA, hC, hd, hO⟩ => (h w X hA).mono fun e w' ⟨he, ho⟩ => ⟨he, ho.frame hC hd hO⟩
theorem Tr.r (h : Tr P f args A v B) : Tr P f args (C * A) v (C * B) := fun w O hO => (h.l (C := C) w O (sep_comm hO)).mono fun e w' ⟨he, ho⟩ => ⟨he, ho.comm⟩
theorem TrE.l {α : Type} {v : α → Value} {B : α → Asn} (h : TrE P f args A v B) : TrE P f args (A * C) v (fun a => B a * C) := fun w O ⟨X, Y, hA, hC, hd, hO⟩ => (h w X hA).mono fun e w' ⟨a, he, ho⟩ => ⟨a, he, ho.frame hC hd hO⟩
theorem TrE.r {α : Type} {v : α → Value} {B : α → Asn} (h : TrE P f args A v B) : TrE P f args (C * A) v (fun a => C * B a) := fun w O hO => (h.l (C := C) w O (sep_comm hO)).mono fun e w' ⟨a, he, ho⟩ => ⟨a, he, ho.comm⟩
theorem Qt.l (h : Qt P f args A v) : Qt P f args (A * C) v := fun w O ⟨X, Y, hA, _⟩ => h w X hA
theorem Qt.r (h : Qt P f args A v) : Qt P f args (C * A) v := fun w O ⟨X, Y, _, hA, _⟩ => h w Y hA
theorem Qt.tr (h : Qt P f args A v) : Tr P f args A v A := fun w O hA => (h w O hA).mono fun e w' ⟨he, k, hk⟩ => ⟨he, hk ▸ (Own.start hA).drewN k⟩
theorem Own.call (h : Own w0 O0 w A) (t : Tr P f args A v B) : Calls P f args w fun e w' => e = .returned v ∧ Own w0 O0 w' B := by
  obtain ⟨O, hA, hf⟩ := h.ex
  have h' : Own w0 O0 w (⟨fun w O' => A.P w O' ∧ O' = O, fun w O h => A.lt w O h.1, fun _ _ _ _ h a b => ⟨A.keep _ _ _ _ h.1 a b, h.2⟩⟩) := ⟨⟨O, ⟨hA, rfl⟩, hf⟩, h.chg⟩
  exact (t w O hA).mono fun e w' ⟨he, ho⟩ => ⟨he, h'.then fun O' hO' => hO'.2 ▸ ho⟩
theorem Own.callE {α : Type} {v : α → Value} {B : α → Asn} (h : Own w0 O0 w A) (t : TrE P f args A v B) : Calls P f args w fun e w' => ∃ a, e = .returned (v a) ∧ Own w0 O0 w' (B a) := by
  obtain ⟨O, hA, hf⟩ := h.ex
  have h' : Own w0 O0 w (⟨fun w O' => A.P w O' ∧ O' = O, fun w O h => A.lt w O h.1, fun _ _ _ _ h a b => ⟨A.keep _ _ _ _ h.1 a b, h.2⟩⟩) := ⟨⟨O, ⟨hA, rfl⟩, hf⟩, h.chg⟩
  exact (t w O hA).mono fun e w' ⟨a, he, ho⟩ => ⟨a, he, h'.then fun O' hO' => hO'.2 ▸ ho⟩
theorem Own.ask (h : Own w0 O0 w A) (t : Qt P f args A v) : Calls P f args w fun e w' => e = .returned v ∧ ∃ k, w' = w.drewN k := by
  obtain ⟨O, hA, hf⟩ := h.ex
  exact t w O hA

/-! What lies where. -/
def Has (A : Asn) (g : Nat) (T : TypeId) (cs : Array Value) : Prop := ∀ w O, A.P w O → Blk w g T cs
theorem has_blk (g : Nat) (T : TypeId) (cs : Array Value) : Has (Asn.blk g T cs) g T cs := fun _ _ h => h.1
theorem Has.l {g : Nat} {T : TypeId} {cs : Array Value} (h : Has A g T cs) : Has (A * B) g T cs := fun w O ⟨X, Y, hA, _⟩ => h w X hA
theorem Has.r {g : Nat} {T : TypeId} {cs : Array Value} (h : Has B g T cs) : Has (A * B) g T cs := fun w O ⟨X, Y, _, hA, _⟩ => h w Y hA
theorem Own.has (h : Own w0 O0 w A) {g : Nat} {T : TypeId} {cs : Array Value} (t : Has A g T cs) : Blk w g T cs := by
  obtain ⟨O, hA, hf⟩ := h.ex
  exact t w O hA
/-- A block of what is owned. -/
def Mem (A : Asn) (g : Nat) : Prop := ∀ w O, A.P w O → O g
theorem mem_blk (g : Nat) (T : TypeId) (cs : Array Value) : Mem (Asn.blk g T cs) g := fun _ _ h => (h.2 g).2 rfl
theorem Mem.l {g : Nat} (h : Mem A g) : Mem (A * B) g := fun w O ⟨X, Y, hA, _, _, hO⟩ => (hO g).2 (Or.inl (h w X hA))
theorem Mem.r {g : Nat} (h : Mem B g) : Mem (A * B) g := fun w O ⟨X, Y, _, hA, _, hO⟩ => (hO g).2 (Or.inr (h w Y hA))
theorem Own.ne (h : Own w0 O0 w (A * B)) {a b : Nat} (ha : Mem A a) (hb : Mem B b) : a ≠ b := by
  obtain ⟨O, ⟨X, Y, hA, hB, hd, -⟩, -⟩ := h.ex
  rintro rfl
  exact hd a (ha w X hA) (hb w Y hB)
/-- A cell is written. -/
def Sets (A : Asn) (p : Addr) (u : Value) (B : Asn) : Prop := ∀ w O, A.P w O → B.P (w.setCell p u) O ∧ O p.block
theorem sets_blk (g : Nat) (T : TypeId) (cs : Array Value) (i : Nat) (u : Value) : Sets (Asn.blk g T cs) ⟨g, i, none⟩ u (Asn.blk g T (cs.setIfInBounds i u)) := fun _ _ h => ⟨⟨h.1.set i u, h.2⟩, (h.2 g).2 rfl⟩
theorem Sets.l {p : Addr} {u : Value} (h : Sets A p u B) : Sets (A * C) p u (B * C) := fun w O ⟨X, Y, hA, hC, hd, hO⟩ => by
  obtain ⟨h1, h2⟩ := h w X hA
  exact ⟨⟨X, Y, h1, C.keep _ _ _ _ hC ((Chg.refl (· = p.block) w).setCell (fun _ => rfl) u) (fun k hk e => hd k (e ▸ h2) hk), hd, hO⟩, (hO _).2 (Or.inl h2)⟩
theorem Sets.r {p : Addr} {u : Value} (h : Sets A p u B) : Sets (C * A) p u (C * B) := fun w O hO => by
  obtain ⟨h1, h2⟩ := h.l (C := C) w O (sep_comm hO)
  exact ⟨sep_comm h1, h2⟩
theorem Own.set (h : Own w0 O0 w A) {p : Addr} {u : Value} (t : Sets A p u B) : Own w0 O0 (w.setCell p u) B := by
  refine h.then fun O hA => ?_
  obtain ⟨h1, h2⟩ := t w O hA
  exact ⟨⟨O, h1, Fresh.refl _ _⟩, (Chg.refl _ _).setCell (fun _ => h2) u⟩
end
end Go.Proofs.Ytoofoalpffoheaa.Aid
