/- Nodes as bytes, and bytes as nodes: of no program. -/
import Derived.Test.YteiiogaopgfpfaaNtP
import Derived.Lib.Bytealg
namespace Go.Proofs.Yteiiogaopgfpfaa.Nd
open Cr Nt
set_option linter.unusedVariables false
set_option linter.unusedSimpArgs false

/-! Which bytes stand ahead of which. -/
def lt (a b : By) : Bool := Go.Op.bytesLess a b
def le (a b : By) : Bool := lt a b || decide (a = b)
theorem lt_cons (x y : UInt8) (a b : By) : lt (x :: a) (y :: b) = (decide (x < y) || (x == y && lt a b)) := rfl
theorem cmp_lt : ∀ a b : By, Lib.compareBytes a b = if lt a b = true then -1 else if a = b then 0 else 1
  | [], [] => rfl
  | [], _ :: _ => rfl
  | _ :: _, [] => rfl
  | x :: a, y :: b => by
    have ih := cmp_lt a b
    rw [Lib.compareBytes, lt_cons]
    by_cases h1 : x < y
    · simp [h1]
    · by_cases h2 : x = y
      · subst h2
        simp only [h1, if_false, decide_false, beq_self_eq_true, Bool.true_and, Bool.false_or, List.cons.injEq, true_and]
        exact ih
      · have h3 : y < x := by
          have h1' : ¬ x.toNat < y.toNat := by simpa [UInt8.lt_iff_toNat_lt] using h1
          have h2' : x.toNat ≠ y.toNat := fun e => h2 (UInt8.toNat_inj.1 e)
          rw [UInt8.lt_iff_toNat_lt]; omega
        simp [h1, h2, h3]
theorem cmp_ge (a b : By) : decide (0 ≤ Lib.compareBytes a b) = !lt a b := by
  rw [cmp_lt]; split <;> rename_i h
  · rw [h]; rfl
  · simp only [Bool.not_eq_true] at h; rw [h]; split <;> rfl
theorem cmp_le (a b : By) : decide (Lib.compareBytes a b ≤ 0) = le a b := by
  rw [cmp_lt, le]; split <;> rename_i h
  · rw [h]; rfl
  · simp only [Bool.not_eq_true] at h; rw [h]; split <;> rename_i h2
    · rw [decide_eq_true h2]; rfl
    · rw [decide_eq_false h2]; rfl
theorem cmp_neg (a b : By) : decide (Lib.compareBytes a b < 0) = lt a b := by
  rw [cmp_lt]; split <;> rename_i h
  · rw [h]; rfl
  · simp only [Bool.not_eq_true] at h; rw [h]; split <;> rfl

structure Ent where
  key : By
  val : By
  ghost : Bool
deriving instance DecidableEq for Ent
structure Nod where
  tree : Int
  level : Int
  stamp : Int
  has : Bool
  high : By
  right : Int
  list : List Ent
deriving instance DecidableEq for Nod
def Nod.none : Nod := ⟨0, 0, 0, false, [], 0, []⟩

/-! What can be. -/
def cov (n : Nod) (k : By) : Bool := !n.has || lt k n.high
def gEnt (lv : Int) (e : Ent) : Bool := decide (e.key.length = 9) && (if 0 < lv then decide (e.val.length = 2) && !e.ghost else decide (e.val.length ≤ 100))
def rise (l : List Ent) (i : Nat) (e : Ent) : Bool := match i with
  | 0 => true
  | j + 1 => match l[j]? with
    | some a => lt a.key e.key
    | none => true
def gAt (n : Nod) (i : Nat) (e : Ent) : Bool := rise n.list i e && (cov n e.key && gEnt n.level e)
def gTo (n : Nod) : Nat → Bool
  | 0 => true
  | k + 1 => gTo n k && (match n.list[k]? with | some e => gAt n k e | none => true)
def gHigh (n : Nod) : Bool := if n.has then decide (n.high.length = 9) else decide (n.high = [])
def gList (n : Nod) : Bool := decide (n.list.length ≤ 100) && gTo n n.list.length
def goodB (n : Nod) : Bool := inN n.tree 255 && inN n.level 12 && inN n.stamp 2147483647 && inN n.right 255 && gHigh n && gList n
theorem gTo_step (n : Nod) (k : Nat) (e : Ent) (he : n.list[k]? = some e) : gTo n (k + 1) = (gTo n k && gAt n k e) := by rw [gTo, he]
theorem gTo_false (n : Nod) (k m : Nat) (h : gTo n k = false) (hk : k ≤ m) : gTo n m = false := by
  induction m with
  | zero => obtain rfl : k = 0 := by omega
            exact h
  | succ m ih =>
    by_cases hm : k = m + 1
    · subst hm; exact h
    · rw [gTo, ih (by omega)]; rfl
theorem gTo_at (n : Nod) (m k : Nat) (h : gTo n m = true) (hk : k < m) (e : Ent) (he : n.list[k]? = some e) : gAt n k e = true := by
  cases hg : gAt n k e with
  | true => rfl
  | false =>
    have := gTo_false n (k + 1) m (by rw [gTo_step n k e he, hg, Bool.and_false]) hk
    rw [this] at h; cases h
structure Goods (n : Nod) : Prop where
  t1 : 0 ≤ n.tree
  t2 : n.tree ≤ 255
  l1 : 0 ≤ n.level
  l2 : n.level ≤ 12
  s1 : 0 ≤ n.stamp
  s2 : n.stamp ≤ 2147483647
  r1 : 0 ≤ n.right
  r2 : n.right ≤ 255
  hh : n.has = true → n.high.length = 9
  hn : n.has = false → n.high = []
  ll : n.list.length ≤ 100
  ky : ∀ e, e ∈ n.list → e.key.length = 9
  vl : ∀ e, e ∈ n.list → e.val.length ≤ 100
theorem goods {n : Nod} (h : goodB n = true) : Goods n := by
  simp only [goodB, gList, inN, Bool.and_eq_true, decide_eq_true_eq] at h
  obtain ⟨⟨⟨⟨⟨⟨h1, h2⟩, h3, h4⟩, h5, h6⟩, h7, h8⟩, h9⟩, h10, h11⟩ := h
  have key : ∀ e, e ∈ n.list → gEnt n.level e = true := fun e he => by
    obtain ⟨i, hi⟩ := List.getElem?_of_mem he
    have hl := (List.getElem?_eq_some_iff.1 hi).1
    have := gTo_at n _ i h11 hl e hi
    simp only [gAt, Bool.and_eq_true] at this
    exact this.2.2
  refine ⟨h1, h2, h3, h4, h5, h6, h7, h8, fun e => ?_, fun e => ?_, h10, fun e he => ?_, fun e he => ?_⟩
  · simpa [gHigh, e] using h9
  · simpa [gHigh, e] using h9
  · have := key e he
    simp only [gEnt, Bool.and_eq_true, decide_eq_true_eq] at this
    exact this.1
  · have := key e he
    simp only [gEnt, Bool.and_eq_true, decide_eq_true_eq] at this
    obtain ⟨-, h⟩ := this
    split at h <;> simp at h <;> omega

/-! The bytes. -/
def one (b : Bool) : Nat := if b then 1 else 0
def flagL (b : Bool) : By := numL 1 (one b)
def highL (n : Nod) : By := if n.has then n.high else numL 9 0
def bEnt (e : Ent) : By := e.key ++ flagL e.ghost ++ numL 1 e.val.length ++ e.val
def headL (n : Nod) : By := numI 1 n.tree ++ numI 1 n.level ++ numI 4 n.stamp ++ flagL n.has ++ highL n ++ numI 2 n.right ++ numL 2 n.list.length
def body (n : Nod) : By := headL n ++ n.list.flatMap bEnt
def fill (l : By) : By := l ++ List.replicate (252 - l.length) 0
def page (n : Nod) : By := fill (body n)
def bytes (n : Nod) : By := page n ++ tailL (crc (page n))
def sizeL : List Ent → Nat
  | [] => 0
  | e :: l => 11 + e.val.length + sizeL l
def sizeN (n : Nod) : Nat := 20 + sizeL n.list
def fitsB (n : Nod) : Bool := goodB n && decide (sizeN n ≤ 252)
theorem sizeL_app (a b : List Ent) : sizeL (a ++ b) = sizeL a + sizeL b := by
  induction a with
  | nil => simp [sizeL]
  | cons e a ih => simp only [List.cons_append, sizeL, ih]; omega
theorem sizeL_take (l : List Ent) (k : Nat) (e : Ent) (h : l[k]? = some e) : sizeL (l.take (k + 1)) = sizeL (l.take k) + (11 + e.val.length) := by
  rw [List.take_add_one, h, sizeL_app]; simp [sizeL]
theorem sizeL_le (l : List Ent) (k : Nat) : sizeL (l.take k) ≤ sizeL l := by
  have := sizeL_app (l.take k) (l.drop k)
  rw [List.take_append_drop] at this; omega
theorem sizeL_bound (l : List Ent) (m : Nat) (h : ∀ e, e ∈ l → e.val.length ≤ m) : sizeL l ≤ (11 + m) * l.length := by
  induction l with
  | nil => simp [sizeL]
  | cons e l ih =>
    have h1 := h e List.mem_cons_self
    have h2 := ih (fun x hx => h x (List.mem_cons_of_mem _ hx))
    simp only [sizeL, List.length_cons, Nat.mul_succ]; omega
theorem flag_len (b : Bool) : (flagL b).length = 1 := numL_length _ _
theorem bEnt_len (e : Ent) (h : e.key.length = 9) : (bEnt e).length = 11 + e.val.length := by
  simp only [bEnt, List.length_append, flag_len, numL_length, h]
theorem flat_size (l : List Ent) (h : ∀ e, e ∈ l → e.key.length = 9) : (l.flatMap bEnt).length = sizeL l := by
  induction l with
  | nil => rfl
  | cons e l ih =>
    rw [List.flatMap_cons, List.length_append, bEnt_len e (h e List.mem_cons_self), ih (fun x hx => h x (List.mem_cons_of_mem _ hx))]; rfl
theorem high_len {n : Nod} (g : Goods n) : (highL n).length = 9 := by
  unfold highL
  cases h : n.has
  · simp [numL_length]
  · simpa using g.hh h
theorem head_len {n : Nod} (g : Goods n) : (headL n).length = 20 := by
  simp only [headL, List.length_append, numI, numL_length, flag_len, high_len g]
theorem body_len {n : Nod} (g : Goods n) : (body n).length = sizeN n := by
  rw [body, List.length_append, head_len g, flat_size _ g.ky]; rfl
theorem size_small {n : Nod} (g : Goods n) : sizeN n ≤ 11120 := by
  have h := sizeL_bound n.list 100 g.vl
  have := g.ll
  have h2 : (11 + 100) * n.list.length ≤ 111 * 100 := Nat.mul_le_mul (by decide) this
  unfold sizeN; omega
theorem fill_len (l : By) : (fill l).length = max l.length 252 := by unfold fill; rw [List.length_append, List.length_replicate]; omega
theorem fits_good {n : Nod} (h : fitsB n = true) : goodB n = true ∧ sizeN n ≤ 252 := by
  simpa [fitsB] using h
theorem page_len {n : Nod} (h : fitsB n = true) : (page n).length = 252 := by
  obtain ⟨h1, h2⟩ := fits_good h
  rw [page, fill_len, body_len (goods h1)]; omega
theorem bytes_len (n : Nod) : (bytes n).length = (page n).length + 4 := by rw [bytes, List.length_append]; rfl
theorem bytes_fits {n : Nod} (h : fitsB n = true) : (bytes n).length = 256 := by rw [bytes_len, page_len h]
theorem fits_of {n : Nod} (h : goodB n = true) (hl : (bytes n).length ≤ 256) : fitsB n = true := by
  rw [bytes_len, page, fill_len, body_len (goods h)] at hl
  rw [fitsB, h, decide_eq_true (by omega)]; rfl

/-! Bytes taken apart. -/
def pFlag (s : St) : Bool × St := (decide ((pnum 1 s).1 = 1), (pnum 1 s).2)
def pEnt (s : St) : Ent × St :=
  let a := tk 9 s
  let b := pFlag a.2
  let c := pnum 1 b.2
  let d := tk c.1 c.2
  (⟨a.1, d.1, b.1⟩, d.2)
def pNod (s : St) : Nod × St :=
  let a := pnum 1 s
  let b := pnum 1 a.2
  let c := pnum 4 b.2
  let d := pFlag c.2
  let e := tk 9 d.2
  let f := pnum 2 e.2
  let g := pnum 2 f.2
  let h := loop pEnt g.1 g.2
  (⟨a.1, b.1, c.1, d.1, if d.1 then e.1 else [], f.1, h.1⟩, h.2)
theorem pFlag_back (b : Bool) (rest : By) : pFlag ⟨flagL b ++ rest, false⟩ = (b, ⟨rest, false⟩) := by
  unfold pFlag flagL
  rw [pnum_back 1 _ _ (by cases b <;> decide)]
  cases b <;> rfl
theorem pEnt_back (e : Ent) (h : e.key.length = 9) (h2 : e.val.length ≤ 100) (rest : By) : pEnt ⟨bEnt e ++ rest, false⟩ = (e, ⟨rest, false⟩) := by
  have e1 : bEnt e ++ rest = e.key ++ (flagL e.ghost ++ (numL 1 e.val.length ++ (e.val ++ rest))) := by simp only [bEnt, List.append_assoc]
  simp only [pEnt]
  rw [e1, tk_back 9 _ _ h, pFlag_back, pnum_back 1 _ _ (by omega), tk_back _ _ _ rfl]
theorem pNod_back (n : Nod) (h : goodB n = true) (rest : By) : pNod ⟨body n ++ rest, false⟩ = (n, ⟨rest, false⟩) := by
  have g := goods h
  have e : body n ++ rest = numI 1 n.tree ++ (numI 1 n.level ++ (numI 4 n.stamp ++ (flagL n.has ++ (highL n ++ (numI 2 n.right ++ (numL 2 n.list.length ++ (n.list.flatMap bEnt ++ rest))))))) := by
    simp only [body, headL, List.append_assoc]
  have := g.t2; have := g.l2; have := g.s2; have := g.r2; have := g.ll
  simp only [pNod]
  rw [e, pnum_backI 1 _ _ g.t1 (by omega), pnum_backI 1 _ _ g.l1 (by omega), pnum_backI 4 _ _ g.s1 (by omega), pFlag_back, tk_back 9 _ _ (high_len g), pnum_backI 2 _ _ g.r1 (by omega), pnum_back 2 _ _ (by omega),
    loop_back pEnt bEnt _ (fun x hx rest => pEnt_back x (g.ky x hx) (g.vl x hx) rest)]
  have hi : (if n.has = true then highL n else []) = n.high := by
    unfold highL
    cases hb : n.has
    · simpa using (g.hn hb).symm
    · rfl
  simp only [Int.toNat_of_nonneg g.t1, Int.toNat_of_nonneg g.l1, Int.toNat_of_nonneg g.s1, Int.toNat_of_nonneg g.r1, hi]

/-! A whole page. -/
def readN (s : By) : Option Nod := if (fitsB (pNod ⟨s, false⟩).1 && decide (bytes (pNod ⟨s, false⟩).1 = s)) = true then some (pNod ⟨s, false⟩).1 else none
theorem bytes_app (n : Nod) : bytes n = body n ++ (List.replicate (252 - (body n).length) 0 ++ tailL (crc (page n))) := by simp only [bytes, page, fill, List.append_assoc]
theorem read_bytes (n : Nod) (h : fitsB n = true) : readN (bytes n) = some n := by
  obtain ⟨st, hp⟩ : ∃ st, pNod ⟨bytes n, false⟩ = (n, st) := ⟨_, by rw [bytes_app]; exact pNod_back n (fits_good h).1 _⟩
  unfold readN
  rw [hp, h, decide_eq_true rfl]; rfl
theorem read_some {s : By} {n : Nod} (h : readN s = some n) : fitsB n = true ∧ bytes n = s := by
  unfold readN at h
  split at h
  · rename_i hq
    obtain rfl := Option.some.inj h
    simpa using hq
  · cases h
theorem bytes_inj (a b : Nod) (ha : fitsB a = true) (hb : fitsB b = true) (h : bytes a = bytes b) : a = b := by
  have h1 := read_bytes a ha
  rw [h, read_bytes b hb] at h1
  exact (Option.some.inj h1).symm
theorem bytes_sealed (n : Nod) : sealedL (bytes n) = true := by
  have hl := bytes_len n
  rw [sealed_of _ (by omega), hl, Nat.add_sub_cancel]
  have : (bytes n).take (page n).length = page n := List.take_left
  rw [this]; rfl
theorem unsealed_none (s : By) (h : sealedL s = false) : readN s = none := by
  cases hr : readN s with
  | none => rfl
  | some n =>
    obtain ⟨-, rfl⟩ := read_some hr
    rw [bytes_sealed] at h; cases h

/-! .. as the document has it. -/
def goD (t : By) : Nat → Nat → List Ent → Option (List Ent)
  | 0, _, es => some es
  | k + 1, a, es => if 252 < a + 11 then none else if 252 < a + 11 + (t.getD (a + 10) 0).toNat then none
    else goD t k (a + 11 + (t.getD (a + 10) 0).toNat) (es ++ [⟨(t.drop a).take 9, (t.drop (a + 11)).take (t.getD (a + 10) 0).toNat, decide ((t.getD (a + 9) 0).toNat = 1)⟩])
def num2 (t : By) (i : Nat) : Nat := (t.getD i 0).toNat + (t.getD (i + 1) 0).toNat * 256
def num4 (t : By) (i : Nat) : Nat := (t.getD i 0).toNat + (t.getD (i + 1) 0).toNat * 256 + (t.getD (i + 2) 0).toNat * 65536 + (t.getD (i + 3) 0).toNat * 16777216
def refN (t : By) (es : List Ent) : Nod :=
  ⟨(t.getD 0 0).toNat, (t.getD 1 0).toNat, num4 t 2, decide ((t.getD 6 0).toNat = 1), if decide ((t.getD 6 0).toNat = 1) then (t.drop 7).take 9 else [], num2 t 16, es⟩
def refD (t : By) : Option Nod := match goD t (num2 t 18) 20 [] with
  | none => none
  | some es => some (refN t es)
def readD (s : By) : Option Nod :=
  if (sealedL s && decide (s.length = 256)) = true then
    match refD (s.take 252) with
    | none => none
    | some n => if (goodB n && decide (bytes n = s)) = true then some n else none
  else none
theorem tk_in (k i : Nat) (t : By) (h : i + k ≤ t.length) : tk k ⟨t.drop i, false⟩ = ((t.drop i).take k, ⟨t.drop (i + k), false⟩) := by
  unfold tk
  rw [if_neg (by rw [List.length_drop]; omega), List.drop_drop]
theorem pnum_in (k i : Nat) (t : By) (h : i + k ≤ t.length) : pnum k ⟨t.drop i, false⟩ = (unnum ((t.drop i).take k), ⟨t.drop (i + k), false⟩) := by
  unfold pnum; rw [tk_in k i t h]
theorem take1 (t : By) (i : Nat) (h : i + 1 ≤ t.length) : (t.drop i).take 1 = [t.getD i 0] := by
  rw [List.drop_eq_getElem_cons (by omega), List.take_succ_cons, List.take_zero, List.getD, List.getElem?_eq_getElem (by omega)]; rfl
theorem take_more (t : By) (i k : Nat) (h : i + 1 ≤ t.length) : (t.drop i).take (k + 1) = t.getD i 0 :: (t.drop (i + 1)).take k := by
  rw [List.drop_eq_getElem_cons (by omega), List.take_succ_cons, List.getD, List.getElem?_eq_getElem (by omega)]; rfl
theorem un1 (t : By) (i : Nat) (h : i + 1 ≤ t.length) : unnum ((t.drop i).take 1) = (t.getD i 0).toNat := by rw [take1 t i h]; simp [unnum]
theorem un2 (t : By) (i : Nat) (h : i + 2 ≤ t.length) : unnum ((t.drop i).take 2) = num2 t i := by
  rw [take_more t i 1 (by omega), take1 t (i + 1) (by omega)]; simp only [unnum, num2]; omega
theorem un4 (t : By) (i : Nat) (h : i + 4 ≤ t.length) : unnum ((t.drop i).take 4) = num4 t i := by
  rw [take_more t i 3 (by omega), take_more t (i + 1) 2 (by omega), take_more t (i + 2) 1 (by omega), take1 t (i + 3) (by omega)]; simp only [unnum, num4]; omega
theorem tk_bad (n : Nat) (s : St) (h : (tk n s).2.bad = false) : s.bad = false ∧ n ≤ s.rest.length := by
  unfold tk at h
  split at h
  · cases h
  · exact ⟨h, by omega⟩
theorem loop_bad {α : Type} (f : St → α × St) (hf : ∀ s, (f s).2.bad = false → s.bad = false) (k : Nat) (s : St) (h : (loop f k s).2.bad = false) : s.bad = false := by
  induction k generalizing s with
  | zero => exact h
  | succ k ih =>
    rw [loop] at h
    split at h
    · rename_i hb; rw [show (([] : List α), s).2.bad = s.bad from rfl, hb] at h; cases h
    · rename_i hb; simpa using hb
theorem pEnt_bad (s : St) (h : (pEnt s).2.bad = false) : s.bad = false := by
  have h1 := tk_bad _ _ h
  have h2 := tk_bad _ _ h1.1
  have h3 := tk_bad _ _ h2.1
  exact (tk_bad _ _ h3.1).1
theorem goD_of (t : By) (ht : t.length = 252) (k a : Nat) (es : List Ent) (ha : a ≤ 252) (h : (loop pEnt k ⟨t.drop a, false⟩).2.bad = false) :
    goD t k a es = some (es ++ (loop pEnt k ⟨t.drop a, false⟩).1) := by
  induction k generalizing a es with
  | zero => simp [goD, loop]
  | succ k ih =>
    have e : loop pEnt (k + 1) ⟨t.drop a, false⟩ = ((pEnt ⟨t.drop a, false⟩).1 :: (loop pEnt k (pEnt ⟨t.drop a, false⟩).2).1, (loop pEnt k (pEnt ⟨t.drop a, false⟩).2).2) := rfl
    rw [e] at h ⊢
    have hb := loop_bad pEnt pEnt_bad _ _ h
    have h1 := tk_bad _ _ hb
    have h2 := tk_bad _ _ h1.1
    have h3 := tk_bad _ _ h2.1
    have h4 := tk_bad _ _ h3.1
    have l4 := h4.2
    dsimp only at l4
    rw [List.length_drop, ht] at l4
    have e4 := tk_in 9 a t (by omega)
    have l3 := h3.2
    rw [e4] at l3
    dsimp only at l3
    rw [List.length_drop, ht] at l3
    have e3 := pnum_in 1 (a + 9) t (by omega)
    have l2 := h2.2
    simp only [pFlag] at l2
    rw [e4, e3] at l2
    dsimp only at l2
    rw [List.length_drop, ht] at l2
    have e2 := pnum_in 1 (a + 9 + 1) t (by omega)
    have l1 := h1.2
    simp only [pFlag] at l1
    rw [e4, e3] at l1
    dsimp only at l1
    rw [e2] at l1
    dsimp only at l1
    rw [un1 _ _ (by omega), List.length_drop, ht] at l1
    have e1 := tk_in (t.getD (a + 9 + 1) 0).toNat (a + 9 + 1 + 1) t (by omega)
    have ep : pEnt ⟨t.drop a, false⟩ = (⟨(t.drop a).take 9, (t.drop (a + 11)).take (t.getD (a + 10) 0).toNat, decide ((t.getD (a + 9) 0).toNat = 1)⟩, ⟨t.drop (a + 11 + (t.getD (a + 10) 0).toNat), false⟩) := by
      simp only [pEnt, pFlag]
      rw [e4, e3]
      dsimp only
      rw [e2]
      dsimp only
      rw [un1 t (a + 9 + 1) (by omega), un1 t (a + 9) (by omega), e1]
    rw [ep] at h ⊢
    dsimp only at h ⊢
    have l1' : a + 11 + (t.getD (a + 10) 0).toNat ≤ 252 := by simp only [Nat.add_assoc, Nat.reduceAdd] at l1 ⊢; omega
    rw [goD, if_neg (by omega), if_neg (by omega), ih _ _ l1' h, List.append_assoc]
    rfl
theorem refD_of (t : By) (ht : t.length = 252) (h : (pNod ⟨t, false⟩).2.bad = false) : refD t = some (pNod ⟨t, false⟩).1 := by
  have e0 : t = t.drop 0 := rfl
  have e1 := pnum_in 1 0 t (by omega)
  have e2 := pnum_in 1 1 t (by omega)
  have e3 := pnum_in 4 2 t (by omega)
  have e4 := pnum_in 1 6 t (by omega)
  have e5 := tk_in 9 7 t (by omega)
  have e6 := pnum_in 2 16 t (by omega)
  have e7 := pnum_in 2 18 t (by omega)
  simp only [un1 t 0 (by omega), un1 t 1 (by omega), un4 t 2 (by omega), un1 t 6 (by omega), un2 t 16 (by omega), un2 t 18 (by omega), List.drop_zero, Nat.reduceAdd] at e1 e2 e3 e4 e5 e6 e7
  simp only [pNod, pFlag] at h ⊢
  simp only [e1, e2, e3, e4, e5, e6, e7] at h ⊢
  unfold refD
  have u1 := un1 t 0 (by omega)
  rw [List.drop_zero] at u1
  rw [goD_of t ht _ 20 [] (by omega) h, List.nil_append, u1]
  rfl
theorem readD_eq (s : By) : readD s = readN s := by
  cases hr : readN s with
  | some n =>
    obtain ⟨hf, rfl⟩ := read_some hr
    have hl := bytes_fits hf
    have ht : (bytes n).take 252 = page n := by rw [← page_len hf]; exact List.take_left
    have hp : pNod ⟨page n, false⟩ = (n, ⟨List.replicate (252 - (body n).length) 0, false⟩) := pNod_back n (fits_good hf).1 _
    have hd := refD_of (page n) (page_len hf) (by rw [hp])
    unfold readD
    rw [bytes_sealed, hl, ht, hd, hp]
    simp [(fits_good hf).1]
  | none =>
    unfold readD
    by_cases h1 : (sealedL s && decide (s.length = 256)) = true
    · rw [if_pos h1]
      simp only [Bool.and_eq_true, decide_eq_true_eq] at h1
      cases hd : refD (s.take 252) with
      | none => rfl
      | some n =>
        dsimp only
        by_cases h2 : (goodB n && decide (bytes n = s)) = true
        · simp only [Bool.and_eq_true, decide_eq_true_eq] at h2
          obtain ⟨hg, rfl⟩ := h2
          rw [read_bytes n (fits_of hg (by have := h1.2; omega))] at hr
          cases hr
        · rw [if_neg h2]
    · rw [if_neg h1]

/-! The place of a key. -/
def lastLe (l : List Ent) (key : By) : Nat → Int
  | 0 => -1
  | k + 1 => match l[k]? with
    | some e => if le e.key key = true then (k : Int) else lastLe l key k
    | none => lastLe l key k
theorem lastLe_hit (l : List Ent) (key : By) (k : Nat) (e : Ent) (h : l[k]? = some e) (hl : le e.key key = true) : lastLe l key (k + 1) = k := by rw [lastLe, h]; simp [hl]
theorem lastLe_miss (l : List Ent) (key : By) (k : Nat) (e : Ent) (h : l[k]? = some e) (hl : le e.key key = false) : lastLe l key (k + 1) = lastLe l key k := by rw [lastLe, h]; simp [hl]
/-- The page to which an entry leads. -/
def childL (v : By) : Nat := if v.length = 2 then unnum v else 0
end Go.Proofs.Yteiiogaopgfpfaa.Nd
