/- Small theorems of no program: a row of memory that an object owns, which grows by append, whatever is appended. -/
import Derived.Test.YtoofoalpffoheaaChg
import Derived.Deep.AppendSrc
namespace Go.Proofs.Ytoofoalpffoheaa.Aid
open Go.ChangeShapes Go.WideShapes Go.ChangeAt Go.RowKit Go.PlainAid
set_option linter.unusedVariables false

/-- A row that something owns: nil, or the beginning of a block that may be written. -/
def Vec (w : World) (e : TypeId) (size : Nat) (v : Value) (n : Nat) (xs : List Value) : Prop := w.ownsRow 0 e size v n xs
/-- The block in which a row lies. -/
def VB (v : Value) : Nat → Prop := fun k => v.ownBlock = some k
/-- What is owned later was owned, or is new. -/
def Fresh (w : World) (O O' : Nat → Prop) : Prop := ∀ k, O' k → O k ∨ w.heap.size ≤ k
theorem Fresh.refl (w : World) (O : Nat → Prop) : Fresh w O O := fun _ h => Or.inl h
theorem Fresh.trans {w w' : World} {A B C : Nat → Prop} (h : Fresh w A B) (k : Fresh w' B C) (hs : w.heap.size ≤ w'.heap.size) : Fresh w A C := fun i hi => (k i hi).elim (fun x => h i x) (fun x => Or.inr (by omega))
theorem Fresh.not {w : World} {O O' : Nat → Prop} (h : Fresh w O O') {k : Nat} (hk : ¬ O k) (hl : k < w.heap.size) : ¬ O' k := fun x => (h k x).elim hk (fun y => by omega)
section
variable {w w' : World} {e : TypeId} {size n : Nat} {v : Value} {xs : List Value}
theorem Vec.nil (w : World) (e : TypeId) (size : Nat) : Vec w e size (.slice none 0 0) 0 [] := World.ownsRow_nil w 0 e size
theorem Vec.keep {S : Nat → Prop} (h : Vec w e size v n xs) (hb : Chg S w w') (hS : ∀ k, VB v k → ¬ S k) : Vec w' e size v n xs := by
  obtain ⟨h1, ⟨rfl, rfl⟩ | ⟨g, cap, cur, rfl, hg0, hg, hn, hc, hz, ht⟩⟩ := h
  · exact ⟨h1, Or.inl ⟨rfl, rfl⟩⟩
  · refine ⟨h1, Or.inr ⟨g, cap, cur, rfl, hg0, ?_, hn, hc, hz, ht⟩⟩
    have hlt : g < w.heap.size := by
      rcases Nat.lt_or_ge g w.heap.size with h' | h'
      · exact h'
      · simp [Array.getElem?_eq_none h'] at hg
    rw [hb.block g hlt (hS g rfl)]; exact hg
theorem Vec.keepB (h : Vec w e size v n xs) (hb : Below w.heap.size w w') : Vec w' e size v n xs := h.keep (S := fun _ => False) (Chg.of_below hb) (fun _ _ => id)
theorem Vec.lt (h : Vec w e size v n xs) {k : Nat} (hk : VB v k) : k < w.heap.size := (World.ownsRow.lt h k hk).2
theorem Vec.forms (h : Vec w e size v n xs) : (v = .slice none 0 0 ∧ n = 0) ∨ ∃ g cap, v = .slice (some ⟨g, 0, none⟩) n cap ∧ g < w.heap.size ∧ n ≤ cap ∧ cap ≤ maxLen := by
  have hlt := fun k => Vec.lt (k := k) h
  obtain ⟨h1, ⟨rfl, rfl⟩ | ⟨g, cap, cur, rfl, hg0, hg, hn, hc, hz, ht⟩⟩ := h
  · exact Or.inl ⟨rfl, rfl⟩
  · exact Or.inr ⟨g, cap, rfl, hlt g rfl, hn, hc⟩
theorem Vec.slice (h : Vec w e size v n xs) : ∃ A c, v = .slice A n c := by
  rcases h.forms with ⟨rfl, rfl⟩ | ⟨g, cap, rfl, -⟩
  · exact ⟨_, _, rfl⟩
  · exact ⟨_, _, rfl⟩
theorem Vec.cell {g cap : Nat} (h : Vec w e size (.slice (some ⟨g, 0, none⟩) n cap) n xs) {j : Nat} {u : Value} (hj : xs[j]? = some u) : w.cell? ⟨g, j, none⟩ = some u := by
  have := World.ownsRow.cells h (g := g) rfl j u hj
  rwa [addr_zero] at this
theorem Vec.free {g cap : Nat} (h : Vec w e size (.slice (some ⟨g, 0, none⟩) n cap) n xs) (j : Nat) : w.frozen? ⟨g, j, none⟩ = false := by
  obtain ⟨-, ⟨h', -⟩ | ⟨g', cap', cur, h', -, hg, -⟩⟩ := h
  · cases h'
  · simp only [Value.slice.injEq, Option.some.injEq, Addr.mk.injEq, and_true, true_and] at h'
    obtain ⟨rfl, rfl⟩ := h'
    simp [World.frozen?, hg]
/-- Fewer of them. -/
theorem Vec.cut {g cap : Nat} (h : Vec w e size (.slice (some ⟨g, 0, none⟩) n cap) n xs) {k : Nat} (hk : k ≤ n) : Vec w e size (.slice (some ⟨g, 0, none⟩) k cap) k (xs.take (k * size)) := by
  obtain ⟨h1, ⟨h', -⟩ | ⟨g', cap', cur, h', h0, hg, hn, hc, hz, ht⟩⟩ := h
  · cases h'
  · simp only [Value.slice.injEq, Option.some.injEq, Addr.mk.injEq, and_true, true_and] at h'
    obtain ⟨rfl, rfl⟩ := h'
    have := Nat.mul_le_mul_right size hk
    refine ⟨by rw [List.length_take, h1]; omega, Or.inr ⟨g, cap, cur, rfl, h0, hg, by omega, hc, hz, ?_⟩⟩
    rw [← ht, List.take_take, Nat.min_eq_left this]
/-- A cell is written. -/
theorem Vec.set {g cap : Nat} (h : Vec w e size (.slice (some ⟨g, 0, none⟩) n cap) n xs) {i : Nat} (hi : i < n * size) (u : Value) :
    Vec (w.setCell ⟨g, i, none⟩ u) e size (.slice (some ⟨g, 0, none⟩) n cap) n (xs.set i u) := by
  obtain ⟨h1, ⟨h', -⟩ | ⟨g', cap', cur, h', h0, hg, hn, hc, hz, ht⟩⟩ := h
  · cases h'
  · simp only [Value.slice.injEq, Option.some.injEq, Addr.mk.injEq, and_true, true_and] at h'
    obtain ⟨rfl, rfl⟩ := h'
    refine ⟨by rw [List.length_set]; exact h1, Or.inr ⟨g, cap, cur.setIfInBounds i u, rfl, h0, heap_setCell_same w g i cur e u hg, hn, hc, by rw [Array.size_setIfInBounds]; exact hz, ?_⟩⟩
    rw [Array.toList_setIfInBounds, List.take_set, ht]
theorem Vec.other (h : Vec w e size v n xs) {p : Addr} (hp : ∀ k, VB v k → k ≠ p.block) (u : Value) : Vec (w.setCell p u) e size v n xs :=
  h.keep (S := (· = p.block)) ((Chg.refl (· = p.block) w).setCell (fun _ => rfl) u) (fun k hk e => hp k hk e)
theorem Vec.len (h : Vec w e size v n xs) : xs.length = n * size := h.1
end

section
variable {P : Program}
theorem run_append_vec (w : World) (t tx ty e : TypeId) (i : TypeInfo) (z : Value) (ht : P.underlying t = some (.slice e)) (hi : P.info? e = some i) (hz : i.zero = some z) (hzs : z.cells.size = i.size) (hsz : 0 < i.size)
    (v : Value) (n : Nat) (xs : List Value) (hown : Vec w e i.size v n xs) (x : Value) (m : Nat) (news : List Value) (hs : Src P i.size tx x m news w)
    (h63 : n + m ≤ maxLen) (hbytes : (n + m) * i.bytes ≤ 140737488355328) :
    ∃ v' w', (Builtin.append_ #[t, tx] ty #[v, x]).run P w = .ok v' w' ∧ Vec w' e i.size v' (n + m) (xs ++ news) ∧ Chg (VB v) w w' ∧ Fresh w (VB v) (VB v') := by
  have hsmall : n + m ≤ 9223372036854775807 := by simp only [maxLen] at h63; omega
  have hl := hs.newsLen
  have hlen : (xs ++ news).length = (n + m) * i.size := by rw [List.length_append, hown.1, hl, Nat.add_mul]
  have grown : ∀ (old : Nat), old < n + m →
      Vec (w.drew.alloc (.cells ((xs ++ news).toArray ++ Builtin.zeroCells z.cells (grownCap w (n + m) old e - (n + m))) e)) e i.size
        (.slice (some ⟨w.heap.size, 0, none⟩) (n + m) (grownCap w (n + m) old e)) (n + m) (xs ++ news) ∧
      Chg (VB v) w (w.drew.alloc (.cells ((xs ++ news).toArray ++ Builtin.zeroCells z.cells (grownCap w (n + m) old e - (n + m))) e)) := by
    intro old ho
    have hge := grownCap_ge w (n + m) old e
    have hcm : grownCap w (n + m) old e ≤ maxLen := grownCap_le_maxLen w (n + m) old e h63
    refine ⟨⟨hlen, .inr ⟨w.heap.size, _, _, rfl, Nat.zero_le _, heap_alloc_new w.drew _, hge, hcm, ?_, ?_⟩⟩, ⟨rfl, rfl, rfl, by simp, fun k hk _ => Below.heap_alloc w.drew _ _ hk⟩⟩
    · simp only [Array.size_append, List.size_toArray, size_zeroCells, hzs, hlen, ← Nat.add_mul]
      congr 1
      omega
    · simp only [Array.toList_append]
      rw [← hlen]
      exact List.take_left
  have hown' := hown
  rcases hown.2 with ⟨rfl, rfl⟩ | ⟨g, cap, cur, rfl, hbg, hg, hnc, hcm, hcs, htake⟩
  · have hx : xs = [] := List.eq_nil_of_length_eq_zero (by simpa using hown.1)
    subst hx
    by_cases hm : m = 0
    · subst hm
      have hn : news = [] := List.eq_nil_of_length_eq_zero (by simpa using hl)
      subst hn
      refine ⟨.slice none 0 0, w, ?_, Vec.nil w e i.size, Chg.refl _ _, Fresh.refl _ _⟩
      have hc := hs.cells
      rcases hs.kind with ⟨e', hk⟩ | hk <;> simp [Builtin.append_, run_underlying ht, run_underlying hk, sizeOf, typeInfo, hi, hs.len, hc]
    · have hr := run_append_grow_src (P := P) w t tx ty e i z ht hi hz none 0 0 [] (run_firstCells_none w.drew i.size 0 0 0) x m news hs (by omega) (by omega) (growslice_fits (by omega) hbytes)
      have hgr := grown 0 (by omega)
      exact ⟨_, _, hr, hgr.1, hgr.2, fun k hk => Or.inr (by simp only [VB, Value.ownBlock, Option.some.injEq] at hk; omega)⟩
  · by_cases hroom : n + m ≤ cap
    · have hfit : n * i.size + news.length ≤ cur.size := by rw [hl, hcs, ← Nat.add_mul]; exact Nat.mul_le_mul_right _ hroom
      have hst := run_storeCells_at P g (n * i.size) e news 0 cur w hg (by simpa using hfit) hs.one
      simp only [Nat.add_zero] at hst
      refine ⟨.slice (some ⟨g, 0, none⟩) (n + m) cap, w.setRow g (cur.toList.take (n * i.size) ++ news ++ cur.toList.drop (n * i.size + news.length)).toArray, ?_, ⟨hlen, .inr ⟨g, cap, _, rfl, hbg, setRow_heap w g cur _ e _ hg, hroom, hcm, ?_, ?_⟩⟩, ⟨rfl, rfl, rfl, by simp, fun k _ hk => setRow_other w g k _ (fun e => hk (by simp [VB, Value.ownBlock, e]))⟩, fun k hk => Or.inl hk⟩
      · rcases hs.kind with ⟨e', hk⟩ | hk <;> simp [Builtin.append_, run_underlying ht, run_underlying hk, sizeOf, typeInfo, hi, hs.len, hroom, hs.cells, Addr.add_lit, hst]
      · simp only [List.size_toArray, List.length_append, List.length_take, List.length_drop, Array.length_toList]
        omega
      · rw [htake, ← hlen]
        exact List.take_left
    · have holds : ∀ j u, xs[j]? = some u → w.drew.cell? ((⟨g, 0, none⟩ : Addr).add j) = some u := fun j u hu => by simpa using World.ownsRow.cells hown (g := g) rfl j u hu
      have hr := run_append_grow_src (P := P) w t tx ty e i z ht hi hz (some ⟨g, 0, none⟩) n cap xs (run_firstCells_some w.drew i.size n _ n cap xs hown.1 holds) x m news hs (by omega) (by omega) (growslice_fits (by omega) hbytes)
      have hgr := grown cap (by omega)
      exact ⟨_, _, hr, hgr.1, hgr.2, fun k hk => Or.inr (by simp only [VB, Value.ownBlock, Option.some.injEq] at hk; omega)⟩

/-- append(s, x): s a row that something owns. -/
theorem wpList_append_vec {ops : Array Oper} {rest : List Oper} {o : Oper} {a : Act} {Q : Exit → Act → World → Prop} {w : World} (hgd : o.guard = none) (s x : Operand) (t tx : TypeId)
    (ho : o.op = .call { callee := .builtin .append, args := #[s, x], argTypes := #[t, tx] })
    (e : TypeId) (z : Value) (size bytes : Nat) (ht : P.underlying t = some (.slice e)) (hinfo : (P.info? e).map (fun i => (i.zero, i.size, i.bytes)) = some (some z, size, bytes)) (hzs : z.cells.size = size) (hsz : 0 < size)
    (v : Value) (n : Nat) (xs : List Value) (hs : a.eval s = v) (hown : Vec w e size v n xs) (xv : Value) (hx : a.eval x = xv) (m : Nat) (news : List Value) (hsrc : Src P size tx xv m news w)
    (h63 : n + m ≤ maxLen) (hbytes : (n + m) * bytes ≤ 140737488355328)
    (h : ∀ v' w', Vec w' e size v' (n + m) (xs ++ news) → Chg (VB v) w w' → Fresh w (VB v) (VB v') → wpList P ops Q rest (a.put o.dst v') w') : wpList P ops Q (o :: rest) a w := by
  obtain ⟨i, hi, hzz⟩ := Option.map_eq_some_iff.1 hinfo
  simp only [Prod.mk.injEq] at hzz
  obtain ⟨hz, rfl, rfl⟩ := hzz
  refine wpList_plain hgd fun K hK => ?_
  obtain ⟨v', w', hr, h2, h3, h4⟩ := run_append_vec (P := P) w t tx o.type e i z ht hi hz hzs hsz v n xs hown xv m news hsrc h63 hbytes
  unfold Oper.wp execOp
  simp only [ho, resolve, invoke, builtin, Sem.run_bind, Sem.run_pure, Result.andThen_ok, List.map_toArray, List.map_cons, List.map_nil, hs, hx, hr]
  exact hK _ _ (h v' w' h2 h3 h4)
end
/-! Bytes. -/
theorem byteCells_eq (s : ByteArray) : byteCells s = Lib.byteCells s.data.toList := rfl
theorem byteCells_cat (a b : ByteArray) : byteCells (a ++ b) = byteCells a ++ byteCells b := by simp [byteCells, ByteArray.data_append]
theorem byteCells_take (s : ByteArray) (k : Nat) : (byteCells s).take k = byteCells (s.extract 0 k) := by
  rw [byteCells_eq, byteCells_eq, Lib.extract_data]; simp [Lib.byteCells]
/-- Bytes of such a row, as a string. -/
theorem Vec.conv {P : Program} {w : World} {src e dst : TypeId} (hs : P.underlying src = some (.slice e)) (he : P.underlying e = some (.int .u8)) (hd : P.underlying dst = some .string) {v : Value} {n : Nat} {s : ByteArray}
    (h : Vec w e 1 v n (byteCells s)) : (convert src dst v).run P w = .ok (.string s) w := by
  have hn : s.size = n := by have := h.1; rw [byteCells_length] at this; omega
  rcases h.forms with ⟨rfl, rfl⟩ | ⟨g, cap, rfl, -⟩
  · obtain rfl : s = ⟨#[]⟩ := size_zero hn
    simp [convert, run_underlying hs, run_underlying hd, run_underlying he]
    first | done | rfl
  · have := conv_row (P := P) (w := w) hs he hd g 0 cap s.data.toList (fun i x hx => by
      rw [Nat.zero_add]
      exact h.cell (by rw [byteCells_eq]; simp [Lib.byteCells, hx])) n (by rw [← Lib.size_eq]; exact hn)
    rw [ofL_back] at this
    exact this
end Go.Proofs.Ytoofoalpffoheaa.Aid
