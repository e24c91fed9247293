/- Small theorems of no program: rows whose elements have several cells: copied within themselves, cut, cleared, opened for one more. -/
import Derived.Test.YtoofoalpffoheaaVec
import Derived.Lib.AppendZerosOnto
import Derived.Lib.Overlaps
import Derived.Lib.SliceRun
import Derived.Laws.CopyRow
namespace Go.Proofs.Ytoofoalpffoheaa.Aid
open Go.ChangeShapes Go.WideShapes Go.ChangeAt Go.RowKit Go.PlainAid
set_option linter.unusedVariables false
set_option linter.unusedSimpArgs false
section
variable {P : Program}
/-- The list, with others in the place of some from o on. -/
def lay (cur : List Value) (o : Nat) (cs : List Value) : List Value := cur.take o ++ cs ++ cur.drop (o + cs.length)
theorem lay_len (cur : List Value) (o : Nat) (cs : List Value) (h : o + cs.length ≤ cur.length) : (lay cur o cs).length = cur.length := by
  simp only [lay, List.length_append, List.length_take, List.length_drop]; omega
theorem run_copy_rows (w : World) (dT sT ty e : TypeId) (size : Nat) (g o dLen dCap : Nat) (a : Addr) (sLen sCap : Nat) (cur : List Value) (t : TypeId) (cs : List Value)
    (hu : P.underlying dT = some (.slice e)) (hs : (P.info? e).map (·.size) = some size)
    (hg : w.heap[g]? = some (.cells cur.toArray t (0, 0))) (hn : cs.length = Nat.min sLen dLen * size)
    (hsrc : ∀ j v, cs[j]? = some v → w.cell? (a.add j) = some v) (hfit : o + cs.length ≤ cur.length) (h1 : ∀ v ∈ cs, v.oneCell' = true) :
    (Builtin.copy_ #[dT, sT] ty #[.slice (some ⟨g, o, none⟩) dLen dCap, .slice (some a) sLen sCap]).run P w =
      .ok (goInt (Nat.min sLen dLen : Nat)) (w.setRow g (lay cur o cs).toArray) := by
  have hl := run_loadCells_list (P := P) w a cs hsrc
  have hst := run_storeCells_at P g o t cs 0 cur.toArray w hg (by simpa using hfit) h1
  simp only [Nat.add_zero] at hst
  cases hq : P.info? e with
  | none => simp [hq] at hs
  | some i =>
    have hi : i.size = size := by simpa [hq] using hs
    have hn' : cs.length = Nat.min sLen dLen * i.size := by rw [hi]; exact hn
    simp [Builtin.copy_, run_underlying hu, Builtin.lenOf, Builtin.firstCells, sizeOf, typeInfo, hq, ← hn', hl, hst, lay]
/-- append where there is room: in place. -/
theorem append_rows (w : World) (t tx ty e : TypeId) (i : TypeInfo) (ht : P.underlying t = some (.slice e)) (hi : P.info? e = some i)
    (g n cap : Nat) (cur : List Value) (tt : TypeId) (hg : w.heap[g]? = some (.cells cur.toArray tt (0, 0))) (x : Value) (m : Nat) (news : List Value) (hs : Src P i.size tx x m news w)
    (hroom : n + m ≤ cap) (hfit : n * i.size + news.length ≤ cur.length) :
    (Builtin.append_ #[t, tx] ty #[.slice (some ⟨g, 0, none⟩) n cap, x]).run P w = .ok (.slice (some ⟨g, 0, none⟩) (n + m) cap) (w.setRow g (lay cur (n * i.size) news).toArray) := by
  have hst := run_storeCells_at P g (n * i.size) tt news 0 cur.toArray w hg (by simpa using hfit) hs.one
  simp only [Nat.add_zero] at hst
  rcases hs.kind with ⟨e', hk⟩ | hk <;> simp [Builtin.append_, run_underlying ht, run_underlying hk, sizeOf, typeInfo, hi, hs.len, hroom, hs.cells, Addr.add_lit, hst, lay]
theorem run_clear_rows (w : World) (t e ty : TypeId) (z : Value) (ht : P.underlying t = some (.slice e)) (hv : ∀ w, (zeroValue e).run P w = .ok z w) (h1 : ∀ v ∈ z.cells, v.oneCell' = true) (g o n c : Nat) (hn : 0 < n)
    (cur : List Value) (tt : TypeId) (hg : w.heap[g]? = some (.cells cur.toArray tt (0, 0))) (hfit : o + n * z.cells.size ≤ cur.length) :
    (Builtin.clear_ #[t] ty #[.slice (some ⟨g, o, none⟩) n c]).run P w = .ok (.tuple #[]) (w.setRow g (lay cur o (Builtin.zeroCells z.cells n).toList).toArray) := by
  have hzl : (Builtin.zeroCells z.cells n).toList.length = n * z.cells.size := by simp [size_zeroCells]
  have hst := run_storeCells_at P g o tt (Builtin.zeroCells z.cells n).toList 0 cur.toArray w hg (by rw [hzl]; simpa using hfit) (by
    intro v hv'
    rw [Array.mem_toList_iff] at hv'
    obtain ⟨k, hk, rfl⟩ := Array.getElem_of_mem hv'
    have hp : 0 < z.cells.size := by
      rcases Nat.eq_zero_or_pos z.cells.size with h | h
      · simp [Builtin.zeroCells, h] at hk
      · exact h
    simp only [Builtin.zeroCells, Array.getElem_map, Array.getElem_range]
    rw [getElem!_pos z.cells (k % z.cells.size) (Nat.mod_lt _ hp)]
    exact h1 _ (Array.getElem_mem _))
  simp only [Nat.add_zero] at hst
  obtain ⟨m, rfl⟩ : ∃ m, n = m + 1 := ⟨n - 1, by omega⟩
  simp [Builtin.clear_, run_underlying ht, hv, hst, lay]
end
section
variable {P : Program}
/-- A call of copy, append or clear (F) whose run is known: as a step of the walk, and of a region that draws. -/
theorem list_known {w : World} {ops : Array Oper} {rest : List Oper} {o : Oper} {a : Act} {Q : Exit → Act → World → Prop} (hgd : o.guard = none) (b : Builtin) (F : Array TypeId → TypeId → Array Value → Sem Value)
    (hb : ∀ ts t cs vs, builtin b ts t cs vs = (do pure (.value (← F ts t vs)))) (args : Array Operand) (ts : Array TypeId)
    (ho : o.op = .call { callee := .builtin b, args := args, argTypes := ts }) (vs : Array Value) (hv : args.map a.eval = vs) {v' : Value} {w' : World}
    (hr : (F ts o.type vs).run P w = .ok v' w') (h : wpList P ops Q rest (a.put o.dst v') w') : wpList P ops Q (o :: rest) a w := by
  refine wpList_plain hgd fun K hK => ?_
  unfold Oper.wp execOp
  simp only [ho, resolve, invoke, hb, Sem.run_bind, Sem.run_pure, Result.andThen_ok, hv, hr]
  exact hK _ _ h
theorem step_known {ops : Array Oper} {o : Oper} {a : Act} {w : World} {K : Act → World → Prop} {Q : Exit → Act → World → Prop} {E : Prop}
    (hg : o.guard = none) (b : Builtin) (F : Array TypeId → TypeId → Array Value → Sem Value) (hb : ∀ ts t cs vs, builtin b ts t cs vs = (do pure (.value (← F ts t vs)))) (args : Array Operand) (ts : Array TypeId)
    (hop : o.op = Op.call { callee := Callee.builtin b, args := args, argTypes := ts })
    (vs : Array Value) (hv : args.map a.eval = vs) {v' : Value} {w' : World} (hr : (F ts o.type vs).run P w = .ok v' w') (hK : K (a.put o.dst v') w') :
    if Region.wanted o (yielded ops a.tmps) = true then Oper.wp P o a w K Q else E := by
  have hw : Region.wanted o (yielded ops a.tmps) = true := by simp [Region.wanted, hg]
  rw [if_pos hw]
  unfold Oper.wp execOp
  simp only [hop, resolve, invoke, hb, Sem.run_bind, Sem.run_pure, Result.andThen_ok, hv, hr]
  exact hK
end
section
variable {w w' : World} {e : TypeId} {size n : Nat} {v : Value} {xs : List Value}
/-- The block of such a row, opened. -/
theorem Vec.opened {g cap : Nat} (h : Vec w e size (.slice (some ⟨g, 0, none⟩) n cap) n xs) :
    ∃ cur : List Value, w.heap[g]? = some (.cells cur.toArray e (0, 0)) ∧ n ≤ cap ∧ cap ≤ maxLen ∧ cur.length = cap * size ∧ cur.take (n * size) = xs ∧ xs.length = n * size := by
  obtain ⟨h1, ⟨h', -⟩ | ⟨g', cap', cur, h', h0, hg, hn, hc, hz, ht⟩⟩ := h
  · cases h'
  · simp only [Value.slice.injEq, Option.some.injEq, Addr.mk.injEq, and_true, true_and] at h'
    obtain ⟨rfl, rfl⟩ := h'
    exact ⟨cur.toList, by simpa using hg, hn, hc, by simpa using hz, ht, h1⟩
theorem Vec.built {g cap : Nat} (cur : List Value) (hg : w.heap[g]? = some (.cells cur.toArray e (0, 0))) (hn : n ≤ cap) (hc : cap ≤ maxLen) (hz : cur.length = cap * size) (ht : cur.take (n * size) = xs) :
    Vec w e size (.slice (some ⟨g, 0, none⟩) n cap) n xs :=
  ⟨by
    have := Nat.mul_le_mul_right size hn
    rw [← ht, List.length_take]; omega, Or.inr ⟨g, cap, cur.toArray, rfl, Nat.zero_le _, hg, hn, hc, by simpa using hz, by simpa using ht⟩⟩
end
/-- Some are put in their midst. -/
theorem lay_in (cur xs ys : List Value) (a s N : Nat) (hx : cur.take N = xs) (hl : xs.length = N) (ha : a ≤ N) (hs : ys.length = s) (hf : N + s ≤ cur.length) :
    (lay (lay cur (a + s) (xs.drop a)) a ys).take (N + s) = xs.take a ++ ys ++ xs.drop a := by
  have hd : (xs.drop a).length = N - a := by rw [List.length_drop, hl]
  have e1 : (lay cur (a + s) (xs.drop a)).take a = xs.take a := by
    unfold lay
    rw [List.append_assoc, List.take_append_of_le_length (by rw [List.length_take]; omega), List.take_take, Nat.min_eq_left (by omega), ← hx, List.take_take, Nat.min_eq_left ha]
  have e2 : (lay cur (a + s) (xs.drop a)).drop (a + s) = xs.drop a ++ cur.drop (a + s + (N - a)) := by
    unfold lay
    rw [List.append_assoc, List.drop_append_of_le_length (by rw [List.length_take]; omega), List.drop_eq_nil_of_le (by rw [List.length_take]; omega), List.nil_append, hd]
  have e3 : lay (lay cur (a + s) (xs.drop a)) a ys = xs.take a ++ ys ++ (xs.drop a ++ cur.drop (a + s + (N - a))) := by
    rw [lay, e1, hs, e2]
  rw [e3, ← List.append_assoc, List.take_append_of_le_length (by simp only [List.length_append, List.length_take, hd, hs, hl]; omega), List.take_of_length_le (by simp only [List.length_append, List.length_take, hd, hs, hl]; omega)]
/-- One is cut out of their midst. -/
theorem lay_out (cur xs zs : List Value) (a s N : Nat) (hx : cur.take N = xs) (hl : xs.length = N) (ha : a + s ≤ N) (hz : zs.length = s) (hf : N ≤ cur.length) :
    (lay (lay cur a (xs.drop (a + s))) (N - s) zs).take (N - s) = xs.take a ++ xs.drop (a + s) := by
  have hd : (xs.drop (a + s)).length = N - (a + s) := by rw [List.length_drop, hl]
  have e1 : (lay cur a (xs.drop (a + s))).take (N - s) = xs.take a ++ xs.drop (a + s) := by
    unfold lay
    rw [show cur.take a = xs.take a by rw [← hx, List.take_take, Nat.min_eq_left (by omega)], List.take_append_of_le_length (by simp only [List.length_append, List.length_take, hd, hl]; omega),
      List.take_of_length_le (by simp only [List.length_append, List.length_take, hd, hl]; omega)]
  have hll : (lay cur a (xs.drop (a + s))).length = cur.length := lay_len _ _ _ (by rw [hd]; omega)
  rw [lay, List.append_assoc, List.take_append_of_le_length (by rw [List.length_take, hll]; omega), List.take_take, Nat.min_self, e1]
theorem chg_setRow (w : World) (g : Nat) (cs : Array Value) : Chg (· = g) w (w.setRow g cs) :=
  ⟨rfl, rfl, rfl, by simp, fun k _ hk => setRow_other w g k _ (fun e => hk e)⟩
end Go.Proofs.Ytoofoalpffoheaa.Aid
