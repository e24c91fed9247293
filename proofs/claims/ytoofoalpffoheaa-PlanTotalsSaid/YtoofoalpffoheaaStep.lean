/- Small theorems of no program: append, as a step of a region that draws its order. -/
import Derived.Test.YtoofoalpffoheaaSep
import Derived.Deep.RegionLaw
import Derived.Deep.RegionHeld
namespace Go.Proofs.Ytoofoalpffoheaa.Aid
open Go.ChangeShapes Go.WideShapes Go.ChangeAt Go.RowKit Go.PlainAid
set_option linter.unusedVariables false
section
variable {P : Program}
/-- append, as a step of a region that draws its order: s a row that something owns. -/
theorem step_append_vec {ops : Array Oper} {o : Oper} {a : Act} {K : Act → World → Prop} {Q : Exit → Act → World → Prop} {E : Prop} {w : World} (hgd : o.guard = none) (s x : Operand) (t tx : TypeId)
    (ho : o.op = .call { callee := .builtin .append, args := #[s, x], argTypes := #[t, tx] })
    (e : TypeId) (z : Value) (size bytes : Nat) (ht : P.underlying t = some (.slice e)) (hinfo : (P.info? e).map (fun i => (i.zero, i.size, i.bytes)) = some (some z, size, bytes)) (hzs : z.cells.size = size) (hsz : 0 < size)
    (v : Value) (n : Nat) (xs : List Value) (hs : a.eval s = v) (hown : Vec w e size v n xs) (xv : Value) (hx : a.eval x = xv) (m : Nat) (news : List Value) (hsrc : Src P size tx xv m news w)
    (h63 : n + m ≤ maxLen) (hbytes : (n + m) * bytes ≤ 140737488355328)
    (h : ∀ v' w', Vec w' e size v' (n + m) (xs ++ news) → Chg (VB v) w w' → Fresh w (VB v) (VB v') → K (a.put o.dst v') w') :
    if Region.wanted o (yielded ops a.tmps) = true then Oper.wp P o a w K Q else E := by
  have hw : Region.wanted o (yielded ops a.tmps) = true := by simp [Region.wanted, hgd]
  rw [if_pos hw]
  obtain ⟨i, hi, hzz⟩ := Option.map_eq_some_iff.1 hinfo
  simp only [Prod.mk.injEq] at hzz
  obtain ⟨hz, rfl, rfl⟩ := hzz
  obtain ⟨v', w', hr, h2, h3, h4⟩ := run_append_vec (P := P) w t tx o.type e i z ht hi hz hzs hsz v n xs hown xv m news hsrc h63 hbytes
  unfold Oper.wp execOp
  simp only [ho, resolve, invoke, builtin, Sem.run_bind, Sem.run_pure, Result.andThen_ok, List.map_toArray, List.map_cons, List.map_nil, hs, hx, hr]
  exact h v' w' h2 h3 h4
end
section
variable {w0 w w' : World} {O0 : Nat → Prop} {A B C : Asn}
theorem own_front (h : Own w0 O0 w (A * (B * C))) : Own w0 O0 w (B * (A * C)) := (h.assoc'.imp (Imp.l (fun _ _ => sep_comm))).assoc
end
/-- Bytes that a conversion made, owned. -/
def aRaw (g : Nat) (l : List UInt8) : Asn :=
  ⟨fun w O => Bytes w g l ∧ ∀ k, O k ↔ k = g, fun w O h k hk => by rw [(h.2 k).1 hk]; exact h.1.1, fun w w' O S h hc hS =>
    ⟨⟨Nat.lt_of_lt_of_le h.1.1 hc.size, fun i x hx => by rw [hc.cell h.1.1 (hS g ((h.2 g).2 rfl))]; exact h.1.2.1 i x hx, fun i hi => by rw [hc.frozen h.1.1 (hS g ((h.2 g).2 rfl))]; exact h.1.2.2 i hi⟩, h.2⟩⟩
/-- Which bytes lie in a block. -/
def Raws (A : Asn) (g : Nat) (l : List UInt8) : Prop := ∀ w O, A.P w O → Bytes w g l
theorem raws_raw (g : Nat) (l : List UInt8) : Raws (aRaw g l) g l := fun _ _ h => h.1
theorem Raws.l {A B : Asn} {g : Nat} {l : List UInt8} (h : Raws A g l) : Raws (A * B) g l := fun w O ⟨X, Y, hA, _⟩ => h w X hA
theorem Raws.r {A B : Asn} {g : Nat} {l : List UInt8} (h : Raws B g l) : Raws (A * B) g l := fun w O ⟨X, Y, _, hA, _⟩ => h w Y hA
section
variable {w0 w w' : World} {O0 : Nat → Prop} {A : Asn} {g : Nat} {l : List UInt8}
theorem raw_new (h : Own w0 O0 w A) (hb : Below w.heap.size w w') (hB : Bytes w' w.heap.size l) : Own w0 O0 w' (aRaw w.heap.size l * A) := by
  refine h.then fun O hO => ?_
  have h2 : Own w (fun _ => False) w' (aRaw w.heap.size l) := ⟨⟨(· = w.heap.size), ⟨hB, fun _ => Iff.rfl⟩, fun k hk => Or.inr (by rw [hk]; exact Nat.le_refl _)⟩, Chg.of_below hb⟩
  exact h2.frame hO (fun _ h => h.elim) (fun k => by simp)
theorem Own.raws (h : Own w0 O0 w A) (t : Raws A g l) : Bytes w g l := by
  obtain ⟨O, hA, -⟩ := h.ex
  exact t w O hA
theorem src_raw {P : Program} {tx e : TypeId} (ht : P.underlying tx = some (.slice e)) (h : Bytes w g l) (cap n : Nat) (hn : l.length = n) : Src P 1 tx (.slice (some ⟨g, 0, none⟩) n cap) n (Lib.byteCells l) w :=
  Src.ofSlice _ ht _ n cap _ (by rw [Lib.byteCells, List.length_map, hn, Nat.mul_one]) (fun j u hu => by
    rw [addr_zero]
    simp only [Lib.byteCells, List.getElem?_map, Option.map_eq_some_iff] at hu
    obtain ⟨x, hx, rfl⟩ := hu
    exact h.2.1 j x hx) (fun u hu => by
    simp only [Lib.byteCells, List.mem_map] at hu
    obtain ⟨x, -, rfl⟩ := hu
    rfl)
end
theorem wpAnyH_weak {P : Program} {md : Region.Mode} {ops : Array Oper} {Q : Exit → Act → World → Prop} {S T : World → Prop} (hST : ∀ w, S w → T w) : ∀ (fuel : Nat) (listed : Array Bool) (a : Act) (w : World), wpAnyH P md ops Q S fuel listed a w → wpAnyH P md ops Q T fuel listed a w
  | 0, _, _, _, h => h
  | fuel + 1, listed, a, w, h => ⟨h.1, fun i hi => wpOp_mono (fun a' w' ⟨h1, h2⟩ => ⟨hST _ h1, wpAnyH_weak hST fuel _ _ _ h2⟩) (h.2 i hi)⟩
end Go.Proofs.Ytoofoalpffoheaa.Aid
