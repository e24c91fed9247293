/- Texts of ours, joined. -/
import Derived.Test.YtapdpdhibpblgaaGreatDoorChg
import Derived.Shelf.LaysM
import Derived.Shelf.Strconv.Clone
import Derived.Test.YtapdpdhibpblgaaGreatDoorProg
import Derived.Test.YtapdpdhibpblgaaGreatDoorAid
import Derived.Test.YtapdpdhibpblgaaGreatDoorRows

-- joined
section
namespace Go.Proofs.YtapdpdhibpblgaaGreatDoor.Aid
open Go.ChangeShapes Go.WideShapes Go.ChangeAt Go.RowKit Go.PlainAid
set_option linter.unusedVariables false

/-- What is known of the blocks O of a world, and of no others. -/
structure Asn where
  P : World → (Nat → Prop) → Prop
  lt : ∀ w O, P w O → ∀ k, O k → k < w.heap.size
  keep : ∀ w w' O S, P w O → Chg S w w' → (∀ k, O k → ¬ S k) → P w' O
/-- Both, of blocks that are apart. -/
def Asn.sep (A B : Asn) : Asn where
  P w O := ∃ X Y, A.P w X ∧ B.P w Y ∧ (∀ k, X k → ¬ Y k) ∧ ∀ k, O k ↔ X k ∨ Y k
  lt := by
    rintro w O ⟨X, Y, hA, hB, -, h⟩ k hk
    rcases (h k).1 hk with h | h
    · exact A.lt _ _ hA _ h
    · exact B.lt _ _ hB _ h
  keep := by
    rintro w w' O S ⟨X, Y, hA, hB, hd, h⟩ hc hS
    exact ⟨X, Y, A.keep _ _ _ _ hA hc (fun k hk => hS k ((h k).2 (Or.inl hk))), B.keep _ _ _ _ hB hc (fun k hk => hS k ((h k).2 (Or.inr hk))), hd, h⟩
instance : Mul Asn := ⟨Asn.sep⟩
/-- Nothing. -/
def Asn.emp : Asn := ⟨fun _ O => ∀ k, ¬ O k, fun _ _ h k hk => (h k hk).elim, fun _ _ _ _ h _ _ => h⟩
/-- A block. -/
def Asn.blk (g : Nat) (T : TypeId) (cs : Array Value) : Asn :=
  ⟨fun w O => Blk w g T cs ∧ ∀ k, O k ↔ k = g, fun _ _ h k hk => by rw [(h.2 k).1 hk]; exact h.1.lt, fun _ _ _ _ h hc hS => ⟨h.1.keep hc (hS g ((h.2 g).2 rfl)), h.2⟩⟩
/-- A row that grows. -/
def Asn.vec (e : TypeId) (size : Nat) (v : Value) (n : Nat) (xs : List Value) : Asn :=
  ⟨fun w O => Vec w e size v n xs ∧ ∀ k, O k ↔ VB v k, fun _ _ h k hk => h.1.lt ((h.2 k).1 hk), fun _ _ _ _ h hc hS => ⟨h.1.keep hc (fun k hk => hS k ((h.2 k).2 hk)), h.2⟩⟩
/-- Some one. -/
def Asn.ex {α : Type} (A : α → Asn) : Asn :=
  ⟨fun w O => ∃ a, (A a).P w O, fun w O ⟨a, h⟩ => (A a).lt w O h, fun w w' O S ⟨a, h⟩ hc hS => ⟨a, (A a).keep w w' O S h hc hS⟩⟩
/-- .. of which more is known. -/
def Asn.if (p : Prop) (A : Asn) : Asn :=
  ⟨fun w O => p ∧ A.P w O, fun w O ⟨_, h⟩ => A.lt w O h, fun w w' O S ⟨a, h⟩ hc hS => ⟨a, A.keep w w' O S h hc hS⟩⟩

/-- A is known of the world w, which came of w0, where the blocks of O0 were owned. -/
structure Own (w0 : World) (O0 : Nat → Prop) (w : World) (A : Asn) : Prop where
  ex : ∃ O, A.P w O ∧ Fresh w0 O0 O
  chg : Chg O0 w0 w
def No : Nat → Prop := fun _ => False
section
variable {w0 w w' : World} {O0 O : Nat → Prop} {A B C D : Asn} {P : Program} {f : FuncId} {args : Array Value} {v : Value}
theorem Own.start (h : A.P w O) : Own w O w A := ⟨⟨O, h, Fresh.refl _ _⟩, Chg.refl _ _⟩
theorem Own.none (w : World) : Own w No w Asn.emp := Own.start (fun _ => id)
theorem Own.of_below (h : Below w0.heap.size w0 w) : Own w0 No w Asn.emp := ⟨⟨No, fun _ => id, fun _ h => Or.inl h⟩, Chg.of_below h⟩
theorem Own.bel (h : Own w0 No w A) : Below w0.heap.size w0 w := h.chg.below (Nat.le_refl _) (fun _ _ x => x.elim)
theorem Own.then (h : Own w0 O0 w A) (hk : ∀ O, A.P w O → Own w O w' B) : Own w0 O0 w' B := by
  obtain ⟨O, hA, hf⟩ := h.ex
  obtain ⟨⟨O', hB, hf'⟩, hc⟩ := hk O hA
  refine ⟨⟨O', hB, fun k hk => ?_⟩, h.chg.trans hc (fun i hi hO => (hf i hO).elim id (fun x => by omega))⟩
  rcases hf' k hk with h' | h'
  · exact hf k h'
  · exact Or.inr (by have := h.chg.size; omega)
/-- The frame: what is apart stays. -/
theorem Own.frame (h : Own w O w' B) {Y : Nat → Prop} (hy : C.P w Y) (hd : ∀ k, O k → ¬ Y k) {X : Nat → Prop} (hX : ∀ k, X k ↔ O k ∨ Y k) : Own w X w' (B * C) := by
  obtain ⟨O', hB, hf⟩ := h.ex
  refine ⟨⟨fun k => O' k ∨ Y k, ⟨O', Y, hB, C.keep _ _ _ _ hy h.chg (fun k hk hO => hd k hO hk), fun k h1 h2 => ?_, fun _ => Iff.rfl⟩, fun k hk => ?_⟩, h.chg.mono (fun i _ hi => (hX i).2 (Or.inl hi))⟩
  · rcases hf k h1 with h | h
    · exact hd k h h2
    · have := C.lt _ _ hy k h2; omega
  · rcases hk with h | h
    · exact (hf k h).elim (fun x => Or.inl ((hX k).2 (Or.inl x))) Or.inr
    · exact Or.inl ((hX k).2 (Or.inr h))
theorem sep_comm {w : World} {O : Nat → Prop} (h : (A * B).P w O) : (B * A).P w O := by
  obtain ⟨X, Y, hA, hB, hd, hO⟩ := h
  exact ⟨Y, X, hB, hA, fun k h1 h2 => hd k h2 h1, fun k => by rw [hO k]; exact Or.comm⟩
theorem sep_assoc {w : World} {O : Nat → Prop} (h : ((A * B) * C).P w O) : (A * (B * C)).P w O := by
  obtain ⟨X, Y, ⟨X1, X2, h1, h2, hd1, hX⟩, h3, hd, hO⟩ := h
  refine ⟨X1, fun k => X2 k ∨ Y k, h1, ⟨X2, Y, h2, h3, fun k a b => hd k ((hX k).2 (Or.inr a)) b, fun _ => Iff.rfl⟩, fun k a b => ?_, fun k => ?_⟩
  · rcases b with b | b
    · exact hd1 k a b
    · exact hd k ((hX k).2 (Or.inl a)) b
  · rw [hO k, hX k]; exact or_assoc
theorem sep_assoc' {w : World} {O : Nat → Prop} (h : (A * (B * C)).P w O) : ((A * B) * C).P w O := by
  obtain ⟨X, Y, h1, ⟨Y1, Y2, h2, h3, hd1, hY⟩, hd, hO⟩ := h
  refine ⟨fun k => X k ∨ Y1 k, Y2, ⟨X, Y1, h1, h2, fun k a b => hd k a ((hY k).2 (Or.inl b)), fun _ => Iff.rfl⟩, h3, fun k a b => ?_, fun k => ?_⟩
  · rcases a with a | a
    · exact hd k a ((hY k).2 (Or.inr b))
    · exact hd1 k a b
  · rw [hO k, hY k]; exact or_assoc.symm
theorem Own.map (h : Own w0 O0 w A) (hk : ∀ O, A.P w O → ∃ O', B.P w O' ∧ ∀ k, O' k → O k) : Own w0 O0 w B := by
  obtain ⟨O, hA, hf⟩ := h.ex
  obtain ⟨O', hB, hs⟩ := hk O hA
  exact ⟨⟨O', hB, fun k hk => hf k (hs k hk)⟩, h.chg⟩
theorem Own.comm (h : Own w0 O0 w (A * B)) : Own w0 O0 w (B * A) := h.map (fun O hO => ⟨O, sep_comm hO, fun _ => id⟩)
theorem Own.assoc (h : Own w0 O0 w ((A * B) * C)) : Own w0 O0 w (A * (B * C)) := h.map (fun O hO => ⟨O, sep_assoc hO, fun _ => id⟩)
theorem Own.assoc' (h : Own w0 O0 w (A * (B * C))) : Own w0 O0 w ((A * B) * C) := h.map (fun O hO => ⟨O, sep_assoc' hO, fun _ => id⟩)
/-- What isn't wanted any more is left. -/
theorem Own.left (h : Own w0 O0 w (A * B)) : Own w0 O0 w A := h.map (fun O ⟨X, Y, hA, hB, hd, hO⟩ => ⟨X, hA, fun k hk => (hO k).2 (Or.inl hk)⟩)
theorem Own.right (h : Own w0 O0 w (A * B)) : Own w0 O0 w B := h.map (fun O ⟨X, Y, hA, hB, hd, hO⟩ => ⟨Y, hB, fun k hk => (hO k).2 (Or.inr hk)⟩)
theorem Own.below (h : Own w0 O0 w A) (hb : Below w.heap.size w w') : Own w0 O0 w' A := by
  refine h.then fun O hA => ⟨⟨O, A.keep _ _ _ _ hA (Chg.of_below (S := fun _ => False) hb) (fun _ _ => id), Fresh.refl _ _⟩, Chg.of_below hb⟩
theorem Own.drewN (h : Own w0 O0 w A) (n : Nat) : Own w0 O0 (w.drewN n) A := h.below ⟨rfl, rfl, rfl, Nat.le_refl _, fun _ _ => rfl⟩
theorem Own.drew (h : Own w0 O0 w A) : Own w0 O0 w.drew A := h.below ⟨rfl, rfl, rfl, Nat.le_refl _, fun _ _ => rfl⟩
theorem Own.alloc (h : Own w0 O0 w A) (cs : Array Value) (T : TypeId) : Own w0 O0 (w.alloc (.cells cs T)) (Asn.blk w.heap.size T cs * A) := by
  refine h.then fun O hA => ?_
  have hc : Chg (fun _ => False) w (w.alloc (.cells cs T)) := (Chg.refl _ _).alloc _
  refine ⟨⟨fun k => k = w.heap.size ∨ O k, ⟨(· = w.heap.size), O, ⟨Blk.new _ _ _, fun _ => Iff.rfl⟩, A.keep _ _ _ _ hA hc (fun _ _ => id), fun k h1 h2 => ?_, fun _ => Iff.rfl⟩, ?_⟩, hc.mono (fun _ _ h => h.elim)⟩
  · have := A.lt _ _ hA k h2; omega
  · rintro k (rfl | h)
    · exact Or.inr (Nat.le_refl _)
    · exact Or.inl h

theorem Own.addEmp (h : Own w0 O0 w A) : Own w0 O0 w (A * Asn.emp) := h.map (fun O hO => ⟨O, ⟨O, fun _ => False, hO, fun _ => id, fun _ _ => id, fun k => by simp⟩, fun _ => id⟩)
theorem Own.get (h : Own w0 O0 w A) {p : Prop} (t : ∀ w O, A.P w O → p) : p := by
  obtain ⟨O, hA, -⟩ := h.ex
  exact t w O hA
/-- What is known of a part. -/
def Fact (A : Asn) (p : Prop) : Prop := ∀ w O, A.P w O → p
theorem Fact.l {p : Prop} (h : Fact A p) : Fact (A * B) p := fun w O ⟨X, Y, hA, _⟩ => h w X hA
theorem Fact.r {p : Prop} (h : Fact B p) : Fact (A * B) p := fun w O ⟨X, Y, _, hA, _⟩ => h w Y hA
/-- What is known is known in other words. -/
def Imp (A B : Asn) : Prop := ∀ w O, A.P w O → B.P w O
theorem Imp.l (h : Imp A B) : Imp (A * C) (B * C) := fun w O ⟨X, Y, hA, hC, hd, hO⟩ => ⟨X, Y, h w X hA, hC, hd, hO⟩
theorem Imp.r (h : Imp A B) : Imp (C * A) (C * B) := fun w O ⟨X, Y, hC, hA, hd, hO⟩ => ⟨X, Y, hC, h w Y hA, hd, hO⟩
theorem Own.imp (h : Own w0 O0 w A) (t : Imp A B) : Own w0 O0 w B := h.map (fun O hO => ⟨O, t w O hO, fun _ => id⟩)

/-! Contracts. -/
/-- The call wants A, answers v, and leaves B. -/
def Tr (P : Program) (f : FuncId) (args : Array Value) (A : Asn) (v : Value) (B : Asn) : Prop := ∀ w O, A.P w O → Calls P f args w fun e w' => e = .returned v ∧ Own w O w' B
/-- .. one of the v, and leaves what belongs to it. -/
def TrE {α : Type} (P : Program) (f : FuncId) (args : Array Value) (A : Asn) (v : α → Value) (B : α → Asn) : Prop := ∀ w O, A.P w O → Calls P f args w fun e w' => ∃ a, e = .returned (v a) ∧ Own w O w' (B a)
/-- The call wants A, answers v, and leaves all as it is. -/
def Qt (P : Program) (f : FuncId) (args : Array Value) (A : Asn) (v : Value) : Prop := ∀ w O, A.P w O → Calls P f args w fun e w' => e = .returned v ∧ ∃ k, w' = w.drewN k
theorem Tr.l (h : Tr P f args A v B) : Tr P f args (A * C) v (B * C) := fun w O ⟨X, Y, hA, hC, hd, hO⟩ => (h w X hA).mono fun e w' ⟨he, ho⟩ => ⟨he, ho.frame hC hd hO⟩
theorem Tr.r (h : Tr P f args A v B) : Tr P f args (C * A) v (C * B) := fun w O hO => (h.l (C := C) w O (sep_comm hO)).mono fun e w' ⟨he, ho⟩ => ⟨he, ho.comm⟩
theorem TrE.l {α : Type} {v : α → Value} {B : α → Asn} (h : TrE P f args A v B) : TrE P f args (A * C) v (fun a => B a * C) := fun w O ⟨X, Y, hA, hC, hd, hO⟩ => (h w X hA).mono fun e w' ⟨a, he, ho⟩ => ⟨a, he, ho.frame hC hd hO⟩
theorem TrE.r {α : Type} {v : α → Value} {B : α → Asn} (h : TrE P f args A v B) : TrE P f args (C * A) v (fun a => C * B a) := fun w O hO => (h.l (C := C) w O (sep_comm hO)).mono fun e w' ⟨a, he, ho⟩ => ⟨a, he, ho.comm⟩
theorem Qt.l (h : Qt P f args A v) : Qt P f args (A * C) v := fun w O ⟨X, Y, hA, _⟩ => h w X hA
theorem Qt.r (h : Qt P f args A v) : Qt P f args (C * A) v := fun w O ⟨X, Y, _, hA, _⟩ => h w Y hA
theorem Qt.tr (h : Qt P f args A v) : Tr P f args A v A := fun w O hA => (h w O hA).mono fun e w' ⟨he, k, hk⟩ => ⟨he, hk ▸ (Own.start hA).drewN k⟩
theorem Own.call (h : Own w0 O0 w A) (t : Tr P f args A v B) : Calls P f args w fun e w' => e = .returned v ∧ Own w0 O0 w' B := by
  obtain ⟨O, hA, hf⟩ := h.ex
  have h' : Own w0 O0 w (⟨fun w O' => A.P w O' ∧ O' = O, fun w O h => A.lt w O h.1, fun _ _ _ _ h a b => ⟨A.keep _ _ _ _ h.1 a b, h.2⟩⟩) := ⟨⟨O, ⟨hA, rfl⟩, hf⟩, h.chg⟩
  exact (t w O hA).mono fun e w' ⟨he, ho⟩ => ⟨he, h'.then fun O' hO' => hO'.2 ▸ ho⟩
theorem Own.callE {α : Type} {v : α → Value} {B : α → Asn} (h : Own w0 O0 w A) (t : TrE P f args A v B) : Calls P f args w fun e w' => ∃ a, e = .returned (v a) ∧ Own w0 O0 w' (B a) := by
  obtain ⟨O, hA, hf⟩ := h.ex
  have h' : Own w0 O0 w (⟨fun w O' => A.P w O' ∧ O' = O, fun w O h => A.lt w O h.1, fun _ _ _ _ h a b => ⟨A.keep _ _ _ _ h.1 a b, h.2⟩⟩) := ⟨⟨O, ⟨hA, rfl⟩, hf⟩, h.chg⟩
  exact (t w O hA).mono fun e w' ⟨a, he, ho⟩ => ⟨a, he, h'.then fun O' hO' => hO'.2 ▸ ho⟩
theorem Own.ask (h : Own w0 O0 w A) (t : Qt P f args A v) : Calls P f args w fun e w' => e = .returned v ∧ ∃ k, w' = w.drewN k := by
  obtain ⟨O, hA, hf⟩ := h.ex
  exact t w O hA

/-! What lies where. -/
def Has (A : Asn) (g : Nat) (T : TypeId) (cs : Array Value) : Prop := ∀ w O, A.P w O → Blk w g T cs
theorem has_blk (g : Nat) (T : TypeId) (cs : Array Value) : Has (Asn.blk g T cs) g T cs := fun _ _ h => h.1
theorem Has.l {g : Nat} {T : TypeId} {cs : Array Value} (h : Has A g T cs) : Has (A * B) g T cs := fun w O ⟨X, Y, hA, _⟩ => h w X hA
theorem Has.r {g : Nat} {T : TypeId} {cs : Array Value} (h : Has B g T cs) : Has (A * B) g T cs := fun w O ⟨X, Y, _, hA, _⟩ => h w Y hA
theorem Own.has (h : Own w0 O0 w A) {g : Nat} {T : TypeId} {cs : Array Value} (t : Has A g T cs) : Blk w g T cs := by
  obtain ⟨O, hA, hf⟩ := h.ex
  exact t w O hA
/-- A block of what is owned. -/
def Mem (A : Asn) (g : Nat) : Prop := ∀ w O, A.P w O → O g
theorem mem_blk (g : Nat) (T : TypeId) (cs : Array Value) : Mem (Asn.blk g T cs) g := fun _ _ h => (h.2 g).2 rfl
theorem Mem.l {g : Nat} (h : Mem A g) : Mem (A * B) g := fun w O ⟨X, Y, hA, _, _, hO⟩ => (hO g).2 (Or.inl (h w X hA))
theorem Mem.r {g : Nat} (h : Mem B g) : Mem (A * B) g := fun w O ⟨X, Y, _, hA, _, hO⟩ => (hO g).2 (Or.inr (h w Y hA))
theorem Own.ne (h : Own w0 O0 w (A * B)) {a b : Nat} (ha : Mem A a) (hb : Mem B b) : a ≠ b := by
  obtain ⟨O, ⟨X, Y, hA, hB, hd, -⟩, -⟩ := h.ex
  rintro rfl
  exact hd a (ha w X hA) (hb w Y hB)
/-- A cell is written. -/
def Sets (A : Asn) (p : Addr) (u : Value) (B : Asn) : Prop := ∀ w O, A.P w O → B.P (w.setCell p u) O ∧ O p.block
theorem sets_blk (g : Nat) (T : TypeId) (cs : Array Value) (i : Nat) (u : Value) : Sets (Asn.blk g T cs) ⟨g, i, none⟩ u (Asn.blk g T (cs.setIfInBounds i u)) := fun _ _ h => ⟨⟨h.1.set i u, h.2⟩, (h.2 g).2 rfl⟩
theorem Sets.l {p : Addr} {u : Value} (h : Sets A p u B) : Sets (A * C) p u (B * C) := fun w O ⟨X, Y, hA, hC, hd, hO⟩ => by
  obtain ⟨h1, h2⟩ := h w X hA
  exact ⟨⟨X, Y, h1, C.keep _ _ _ _ hC ((Chg.refl (· = p.block) w).setCell (fun _ => rfl) u) (fun k hk e => hd k (e ▸ h2) hk), hd, hO⟩, (hO _).2 (Or.inl h2)⟩
theorem Sets.r {p : Addr} {u : Value} (h : Sets A p u B) : Sets (C * A) p u (C * B) := fun w O hO => by
  obtain ⟨h1, h2⟩ := h.l (C := C) w O (sep_comm hO)
  exact ⟨sep_comm h1, h2⟩
theorem Own.set (h : Own w0 O0 w A) {p : Addr} {u : Value} (t : Sets A p u B) : Own w0 O0 (w.setCell p u) B := by
  refine h.then fun O hA => ?_
  obtain ⟨h1, h2⟩ := t w O hA
  exact ⟨⟨O, h1, Fresh.refl _ _⟩, (Chg.refl _ _).setCell (fun _ => h2) u⟩
end
end Go.Proofs.YtapdpdhibpblgaaGreatDoor.Aid
end

-- joined
section
namespace Go.Proofs
open Go.Shelf
def Tryz.laysM316_ren : Go.Shelf.Ren := ⟨fun | 316 => 147 | n => n, fun | 9 => 9 | 3 => 3 | 4 => 4 | 37 => 138 | 0 => 0 | 127 => 199 | 5 => 5 | n => n, fun | n => n⟩
theorem Tryz.laysM316 : Go.Proofs.LaysM.n316 Tryz.prog Tryz.laysM316_ren := {
  mixed := by kernel_rfl
  f316 := Tryz.func147.trans (congrArg some (by kernel_rfl))
  t0 := Tryz.underlying0
  a0 := Tryz.isAgg0
  z0 := Tryz.sizeOf0
  v0 := Tryz.zeroValue0
  t3 := Tryz.underlying3
  a3 := Tryz.isAgg3
  z3 := Tryz.sizeOf3
  v3 := Tryz.zeroValue3
  t4 := Tryz.underlying4
  a4 := Tryz.isAgg4
  z4 := Tryz.sizeOf4
  v4 := Tryz.zeroValue4
  t9 := Tryz.underlying9
  a9 := Tryz.isAgg9
  z9 := Tryz.sizeOf9
  v9 := Tryz.zeroValue9
  t37 := Tryz.underlying138
  a37 := Tryz.isAgg138
  z37 := Tryz.sizeOf138
  v37 := Tryz.zeroValue138
  t127 := Tryz.underlying199
  a127 := Tryz.isAgg199
  z127 := Tryz.sizeOf199
  v127 := Tryz.zeroValue199
  t5 := Tryz.underlying5
  a5 := Tryz.isAgg5
  z5 := Tryz.sizeOf5
  v5 := Tryz.zeroValue5
  i0 := by kernel_rfl
  i3 := by kernel_rfl
  i4 := by kernel_rfl
  i5 := by kernel_rfl
  i9 := by kernel_rfl
  i37 := by kernel_rfl
  i127 := by kernel_rfl }
open Go.RowKit in
theorem Tryz.stringslite_Clone (s : ByteArray) (w : World) (hlim : s.size ≤ 281474976710656) :
    Calls Tryz.prog 147 #[.string s] w fun e w' => e = .returned (.string s) ∧ Below w.heap.size w w' := Any.stringslite_Clone Tryz.laysM316 s w hlim
end Go.Proofs
end

-- joined
section
namespace Go.Proofs.YtapdpdhibpblgaaGreatDoor.Cr
open Go.ChangeShapes Go.WideShapes Go.ChangeAt Go.RowKit Go.PlainAid Aid
set_option linter.unusedVariables false
set_option linter.unusedSimpArgs false

theorem nx (a b : BitVec 32) : bits BinOp.xor IntKind.u32 (a.toNat : Int) (b.toNat : Int) = ((a ^^^ b).toNat : Int) := by
  show IntKind.u32.wrap (((BitVec.ofInt 32 (a.toNat : Int)) ^^^ (BitVec.ofInt 32 (b.toNat : Int))).toNat : Int) = _
  rw [BitVec.ofInt_natCast, BitVec.ofInt_natCast, BitVec.ofNat_toNat, BitVec.ofNat_toNat, BitVec.setWidth_eq, BitVec.setWidth_eq, IntKind.wrap_u32]
  have := (a ^^^ b).isLt
  omega
theorem na (a b : BitVec 32) : bits BinOp.and IntKind.u32 (a.toNat : Int) (b.toNat : Int) = ((a &&& b).toNat : Int) := by
  show IntKind.u32.wrap (((BitVec.ofInt 32 (a.toNat : Int)) &&& (BitVec.ofInt 32 (b.toNat : Int))).toNat : Int) = _
  rw [BitVec.ofInt_natCast, BitVec.ofInt_natCast, BitVec.ofNat_toNat, BitVec.ofNat_toNat, BitVec.setWidth_eq, BitVec.setWidth_eq, IntKind.wrap_u32]
  have := (a &&& b).isLt
  omega
theorem ns (a : BitVec 32) (k : Nat) : (a.toNat : Int) / 2 ^ k = ((a >>> k).toNat : Int) := by
  rw [BitVec.toNat_ushiftRight, Nat.shiftRight_eq_div_pow]
  simp
theorem nn (a : BitVec 32) : bits BinOp.xor IntKind.u32 IntKind.u32.max (a.toNat : Int) = ((~~~ a).toNat : Int) := by
  have := nx (BitVec.allOnes 32) a
  rw [BitVec.allOnes_xor] at this
  exact this
/-- A byte, as a number of 32 bits. -/
def by32 (s : ByteArray) (k : Nat) : BitVec 32 := BitVec.ofNat 32 (s.data.toList.getD k 0).toNat
theorem by32_num (s : ByteArray) (k : Nat) : IntKind.u32.wrap (bt s k) = ((by32 s k).toNat : Int) := by
  rw [bt_list, by32, BitVec.toNat_ofNat, IntKind.wrap_u32]
  have := (s.data.toList.getD k 0).toNat_lt
  omega
theorem st_take (s : ByteArray) (k : Nat) (h : k < s.size) : st ones (s.data.toList.take (k + 1)) = upd (st ones (s.data.toList.take k)) (by32 s k) := by
  have hl : k < s.data.toList.length := by rw [← Lib.size_eq]; exact h
  rw [List.take_add_one, List.getElem?_eq_getElem hl, Option.toList_some, st_snoc, by32, List.getD, List.getElem?_eq_getElem hl]
  rfl

/-- The table of the code. -/
def tabI (i : Nat) : Int := ((advs 4 (BitVec.ofNat 32 i)).toNat : Int)
def tabZ : List Int := [0, 498536548, 997073096, 651767980, 1994146192, 1802195444, 1303535960, 1342533948, 3988292384, 4027552580, 3604390888, 3412177804, 2607071920, 2262029012, 2685067896, 3183342108]
theorem tab_is (i : Nat) (h : i < 16) : tabZ.getD i 0 = tabI i := by
  have : ∀ i : Fin 16, tabZ.getD i.val 0 = tabI i.val := by decide +kernel
  exact this ⟨i, h⟩
def Tab (w : World) : Prop := 0 < w.heap.size ∧ ∀ i, i < 16 → w.cell? ⟨0, i, none⟩ = some (.int .u32 (tabI i))
theorem Tab.keep {w w' : World} (h : Tab w) (hb : Below w.heap.size w w') : Tab w' :=
  ⟨by have := hb.size; have := h.1; omega, fun i hi => by rw [(bcell hb).1 _ _ h.1]; exact h.2 i hi⟩
theorem Tab.alloc {w : World} (h : Tab w) (o : Obj) : Tab (w.alloc o) := h.keep (blA (Below.refl _ _) o)
theorem Tab.drewN {w : World} (h : Tab w) (n : Nat) : Tab (w.drewN n) := h.keep (blN (Below.refl _ _) n)

theorem look (w : World) (h : Tab w) (c : BitVec 32) : ∃ (j : Nat) (t : Int), j < 16 ∧ bits BinOp.and IntKind.u32 (c.toNat : Int) 15 = (j : Int) ∧ w.cell? ⟨0, j, none⟩ = some (.int .u32 t) ∧ bits BinOp.xor IntKind.u32 ((c.toNat : Int) / 16) t = ((advs 4 c).toNat : Int) := by
  have hj : (c &&& 15#32).toNat < 16 := by
    rw [BitVec.toNat_and]; have := Nat.and_le_right (n := c.toNat) (m := (15#32).toNat)
    exact Nat.lt_of_le_of_lt this (by decide)
  refine ⟨(c &&& 15#32).toNat, _, hj, na c 15#32, h.2 _ hj, ?_⟩
  unfold tabI
  rw [BitVec.ofNat_toNat, BitVec.setWidth_eq, show (16 : Int) = 2 ^ 4 from rfl, ns, nx, part4 c, BitVec.xor_comm]

set_option maxHeartbeats 1000000 in
theorem Sum_same (s : ByteArray) (w : World) (hs : s.size ≤ maxLen) (ht : Tab w) :
    Calls Tryz.prog 113 #[.string s] w fun e w' => e = .returned (.int .u32 (crc s.data.toList).toNat) ∧ w' = w := by
  unfold maxLen at hs
  have hb := get_bt s
  have HT := Lib.hid ht
  clear ht
  go_enter Tryz.func113, Tryz.ntmps113
  go_wp2
  go_loop [3, 7] (fun n i => ∃ k : Nat, k ≤ s.size ∧ i = .int .i64 k ∧ n = .int .u32 ((st ones (s.data.toList.take k)).toNat : Nat)) (fun _ i => s.size - (intOf i).toNat)
  case atStart => exact ⟨0, by omega, rfl, rfl⟩
  case round =>
    obtain ⟨k, hk, rfl, rfl⟩ := hrel
    by_cases hlt : k < s.size
    · have hstep := st_take s k hlt
      generalize st ones (s.data.toList.take k) = c at *
      have hx : bits BinOp.xor IntKind.u32 (c.toNat : Int) (bt s k % 4294967296) = ((c ^^^ by32 s k).toNat : Int) := by rw [← IntKind.wrap_u32, by32_num, nx]
      have hup : upd c (by32 s k) = advs 4 (advs 4 (c ^^^ by32 s k)) := by unfold upd; rw [← advs_add]
      generalize c ^^^ by32 s k = c1 at *
      obtain ⟨j1, t1, hj1, ha1, hc1, he1⟩ := look w HT.out c1
      obtain ⟨j2, t2, hj2, ha2, hc2, he2⟩ := look w HT.out (advs 4 c1)
      generalize advs 4 c1 = c2 at *
      have HS := Lib.hid (hstep.trans hup)
      clear hstep hup
      go_wp2
      go_round
      case rel => exact ⟨k + 1, by omega, by go_num, by rw [HS.out]⟩
      case measure => simp [intOf]; omega
    · obtain rfl : k = s.size := by omega
      have e : s.data.toList.take s.size = s.data.toList := List.take_of_length_le (by rw [← Lib.size_eq]; exact Nat.le_refl _)
      rw [e]
      have hn : bits BinOp.xor IntKind.u32 IntKind.u32.max ((st ones s.data.toList).toNat : Int) = ((crc s.data.toList).toNat : Int) := nn _
      go_wp2
      go_returns
      exact ⟨rfl, rfl⟩

theorem Sum_any (s : ByteArray) (w : World) (hs : s.size ≤ maxLen) (ht : Tab w) :
    Calls Tryz.prog 113 #[.string s] w fun e w' => e = .returned (.int .u32 (crc s.data.toList).toNat) ∧ Below w.heap.size w w' :=
  (Sum_same s w hs ht).mono (by rintro e w' ⟨rfl, rfl⟩; exact ⟨rfl, Below.refl _ _⟩)

/-! The document's answer, bit by bit. -/
theorem low_is (c : BitVec 32) : bits BinOp.and IntKind.u32 (c.toNat : Int) 1 = if c.getLsbD 0 then 1 else 0 := by
  have h := na c 1#32
  have e : (c &&& 1#32) = if c.getLsbD 0 then 1#32 else 0#32 := by
    apply BitVec.eq_of_getLsbD_eq
    intro i hi
    rw [BitVec.getLsbD_and]
    cases i with
    | zero => cases c.getLsbD 0 <;> rfl
    | succ i =>
      have : (1#32).getLsbD (i + 1) = false := by
        rw [BitVec.getLsbD_ofNat]; simp [Nat.testBit_succ]
      rw [this, Bool.and_false]
      split
      · exact this.symm
      · simp
  rw [e] at h
  rw [show ((1#32).toNat : Int) = 1 from rfl] at h
  rw [h]
  split <;> rfl
set_option maxHeartbeats 4000000 in
theorem refSum_any (s : ByteArray) (w : World) (hs : s.size ≤ maxLen) :
    Calls Tryz.prog 126 #[.string s] w fun e w' => e = .returned (.int .u32 (crc s.data.toList).toNat) ∧ Below w.heap.size w w' := by
  unfold maxLen at hs
  have hb := get_bt s
  go_enter Tryz.func126, Tryz.ntmps126
  go_wp2
  go_loop [3, 4] (fun n i => ∃ k : Nat, k ≤ s.size ∧ i = .int .i64 k ∧ n = .int .u32 ((st ones (s.data.toList.take k)).toNat : Nat)) (fun _ i => s.size - (intOf i).toNat)
  case atStart => exact ⟨0, by omega, rfl, rfl⟩
  case round =>
    obtain ⟨k, hk, rfl, rfl⟩ := hrel
    by_cases hlt : k < s.size
    · have hstep := st_take s k hlt
      generalize st ones (s.data.toList.take k) = c at *
      have hx : bits BinOp.xor IntKind.u32 (c.toNat : Int) (bt s k % 4294967296) = ((c ^^^ by32 s k).toNat : Int) := by rw [← IntKind.wrap_u32, by32_num, nx]
      have hup : upd c (by32 s k) = advs 8 (c ^^^ by32 s k) := rfl
      generalize c ^^^ by32 s k = c1 at *
      have HS := Lib.hid (hstep.trans hup)
      clear hstep hup
      go_wp2
      go_loop [3, 5] (fun n i => ∃ j : Nat, j ≤ 8 ∧ i = .int .i64 j ∧ n = .int .u32 ((advs j c1).toNat : Nat)) (fun _ i => 8 - (intOf i).toNat)
      case atStart => exact ⟨0, by omega, rfl, rfl⟩
      case round =>
        obtain ⟨j, hj, rfl, rfl⟩ := hrel
        by_cases hlj : j < 8
        · have hadv : advs (j + 1) c1 = adv (advs j c1) := advs_add j 1 c1
          generalize advs j c1 = d at *
          have hlow := low_is d
          have hsh := ns d 1
          rw [show (2 : Int) ^ 1 = 2 from rfl] at hsh
          cases hb0 : d.getLsbD 0 with
          | true =>
            rw [hb0, if_pos rfl] at hlow
            have hx1 : bits BinOp.xor IntKind.u32 ((d >>> 1).toNat : Int) 3988292384 = ((adv d).toNat : Int) := by
              unfold adv; rw [hb0, if_pos rfl]; exact nx (d >>> 1) 0xEDB88320#32
            generalize d >>> 1 = d1 at *
            have HA := Lib.hid hadv
            clear hadv
            go_wp2
            go_round
            case rel => exact ⟨j + 1, by omega, by go_num, by rw [HA.out]⟩
            case measure => simp [intOf]; omega
          | false =>
            rw [hb0, if_neg (by decide)] at hlow
            have hx1 : adv d = d >>> 1 := adv_low d hb0
            generalize d >>> 1 = d1 at *
            have HA := Lib.hid (hadv.trans hx1)
            clear hadv hx1
            go_wp2
            go_round
            case rel => exact ⟨j + 1, by omega, by go_num, by rw [HA.out]⟩
            case measure => simp [intOf]; omega
        · obtain rfl : j = 8 := by omega
          go_wp2
          go_round
          case rel => exact ⟨k + 1, by omega, by go_num, by rw [HS.out]⟩
          case measure => simp [intOf]; omega
    · obtain rfl : k = s.size := by omega
      have e : s.data.toList.take s.size = s.data.toList := List.take_of_length_le (by rw [← Lib.size_eq]; exact Nat.le_refl _)
      rw [e]
      have hn : bits BinOp.xor IntKind.u32 ((st ones s.data.toList).toNat : Int) 4294967295 = ((crc s.data.toList).toNat : Int) := by
        have := nx (st ones s.data.toList) (BitVec.allOnes 32)
        rw [BitVec.xor_allOnes] at this
        exact this
      go_wp2
      go_returns
      exact ⟨rfl, Below.refl _ _⟩
end Go.Proofs.YtapdpdhibpblgaaGreatDoor.Cr
end
