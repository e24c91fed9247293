/- Small theorems of no program: a block of n cells, of which each is a function's value at its place. -/
import Derived.Test.YtoofoalpffoheaaChg
import Derived.Laws.MakeOwn
namespace Go.Proofs.Ytoofoalpffoheaa.Aid
open Go.ChangeShapes Go.WideShapes Go.ChangeAt Go.RowKit Go.PlainAid
set_option linter.unusedVariables false

/-- A block of n cells, that may be written; the cell k holds f k. -/
def Tab (w : World) (b : Nat) (T : TypeId) (n : Nat) (f : Nat → Value) : Prop := Blk w b T (Array.ofFn (n := n) fun i => f i.1)
section
variable {w w' : World} {b n : Nat} {T : TypeId} {f h : Nat → Value}
theorem Tab.cell (t : Tab w b T n f) {i : Nat} (hi : i < n) : w.cell? ⟨b, i, none⟩ = some (f i) := by
  rw [Blk.cell t]; simp [hi]
theorem Tab.free (t : Tab w b T n f) (i : Nat) : w.frozen? ⟨b, i, none⟩ = false := Blk.free t i
theorem Tab.lt (t : Tab w b T n f) : b < w.heap.size := Blk.lt t
theorem Tab.congr (t : Tab w b T n f) (e : ∀ k, k < n → f k = h k) : Tab w b T n h := by
  unfold Tab at *
  have : (Array.ofFn (n := n) fun i => f i.1) = Array.ofFn (n := n) fun i => h i.1 := by
    congr 1; funext i; exact e i.1 i.2
  rw [← this]; exact t
theorem Tab.set (t : Tab w b T n f) (i : Nat) (v : Value) : Tab (w.setCell ⟨b, i, none⟩ v) b T n (fun k => if k = i then v else f k) := by
  unfold Tab at *
  have := Blk.set t i v
  have e : (Array.ofFn (n := n) fun k => f k.1).setIfInBounds i v = Array.ofFn (n := n) fun k => if k.1 = i then v else f k.1 := by
    apply Array.ext_getElem?
    intro k
    rw [Array.getElem?_setIfInBounds, Array.getElem?_ofFn, Array.getElem?_ofFn]
    by_cases hk : i = k
    · subst hk
      by_cases hi : i < n <;> simp [hi]
    · have hk' : ¬ k = i := fun x => hk x.symm
      rw [if_neg hk]
      by_cases hi : k < n <;> simp [hi, hk']
  rw [e] at this
  exact this
theorem Tab.set' (t : Tab w b T n f) (i : Nat) (v : Value) (e : ∀ k, k < n → (if k = i then v else f k) = h k) : Tab (w.setCell ⟨b, i, none⟩ v) b T n h := (t.set i v).congr e
theorem Tab.other (t : Tab w b T n f) {p : Addr} (hp : b ≠ p.block) (u : Value) : Tab (w.setCell p u) b T n f := Blk.other t hp u
theorem Tab.keep {S : Nat → Prop} (t : Tab w b T n f) (hb : Chg S w w') (hs : ¬ S b) : Tab w' b T n f := Blk.keep t hb hs
theorem Tab.keepB (t : Tab w b T n f) (hb : Below w.heap.size w w') : Tab w' b T n f := Blk.keepB t hb
theorem Tab.new (w : World) (cs : Array Value) (T : TypeId) (hn : cs.size = n) (hf : ∀ k, k < n → cs[k]? = some (f k)) : Tab (w.alloc (.cells cs T)) w.heap.size T n f := by
  unfold Tab
  have : cs = Array.ofFn (n := n) fun i => f i.1 := by
    apply Array.ext
    · simp [hn]
    · intro k h1 h2
      have := hf k (by omega)
      rw [Array.getElem?_eq_getElem h1] at this
      simpa using this
  rw [← this]
  exact Blk.new _ _ _
theorem Blk.new' (w : World) (cs : Array Value) (T : TypeId) (g : Nat) (hg : g = w.heap.size) : Blk (w.alloc (.cells cs T)) g T cs := by subst hg; exact Blk.new _ _ _
theorem Tab.made (w : World) (z : Array Value) (n : Nat) (T : TypeId) : Tab (w.alloc (.cells (madeCells z n) T)) w.heap.size T n (fun k => z[k % z.size]!) :=
  Tab.new _ _ _ (size_madeCells _ _) (fun k hk => by simp [madeCells, hk])
theorem Tab.of_made {w : World} {b n : Nat} {T : TypeId} {z : Value} (h : Blk w b T (madeCells #[z] n)) : Tab w b T n (fun _ => z) := by
  have e : madeCells #[z] n = Array.ofFn (n := n) fun _ => z := by
    apply Array.ext_getElem?
    intro k
    rw [Array.getElem?_ofFn]
    by_cases hk : k < n <;> simp [madeCells, hk, Nat.mod_one]
  unfold Tab
  rw [← e]; exact h
theorem look4 (w : World) (A B C D : Obj) : ((((w.alloc A).alloc B).alloc C).alloc D).drew.heap[w.heap.size]? = some A ∧ ((((w.alloc A).alloc B).alloc C).alloc D).drew.heap[w.heap.size + 1]? = some B ∧ ((((w.alloc A).alloc B).alloc C).alloc D).drew.heap[w.heap.size + 1 + 1]? = some C ∧ ((((w.alloc A).alloc B).alloc C).alloc D).drew.heap[w.heap.size + 1 + 1 + 1]? = some D := by
  have e : ((((w.alloc A).alloc B).alloc C).alloc D).drew.heap = (((w.heap.push A).push B).push C).push D := rfl
  rw [e]
  simp only [Array.getElem?_push, Array.size_push]
  generalize w.heap.size = n
  refine ⟨?_, ?_, ?_, ?_⟩
  · rw [if_neg (by omega), if_neg (by omega), if_neg (by omega), if_pos True.intro]
  · rw [if_neg (by omega), if_neg (by omega), if_pos True.intro]
  · rw [if_neg (by omega), if_pos True.intro]
  · rw [if_pos True.intro]
/-- make([]T, n): an equation for every world. -/
theorem make_rows {P : Program} (t e : TypeId) (z : Value) (size bytes : Nat) (ht : P.underlying t = some (.slice e)) (hinfo : (P.info? e).map (fun i => (i.zero, i.size, i.bytes)) = some (some z, size, bytes))
    (kl kc : IntKind) (n : Nat) (hbytes : bytes * n ≤ 281474976710656) (h63 : n ≤ 9223372036854775807) (w : World) :
    (Instr.makeSlice t (.int kl (n : Int)) (.int kc (n : Int))).run P w = .ok (.slice (some ⟨w.heap.size, 0, none⟩) n n) (w.alloc (.cells (madeCells z.cells (n * size)) e)) := by
  obtain ⟨i, hi, hzz⟩ := Option.map_eq_some_iff.1 hinfo
  simp only [Prod.mk.injEq] at hzz
  obtain ⟨hz, hs, hb⟩ := hzz
  subst hs hb
  have hb' : (i.bytes : Int) * (n : Int) ≤ 281474976710656 := by
    have h : ((i.bytes * n : Nat) : Int) ≤ 281474976710656 := by omega
    rwa [Int.natCast_mul] at h
  have hr := run_make (P := P) w t e i z ht hi hz kl kc n n (by omega) (Int.le_refl _) hb' (by omega)
  simp only [Int.toNat_natCast] at hr
  exact hr
theorem Tab.drewN (t : Tab w b T n f) (k : Nat) : Tab (w.drewN k) b T n f := t
end
end Go.Proofs.Ytoofoalpffoheaa.Aid
