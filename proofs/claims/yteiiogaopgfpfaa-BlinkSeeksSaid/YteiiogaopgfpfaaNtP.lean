/- Records as bytes, and bytes as records: of no program. -/
import Derived.Test.YteiiogaopgfpfaaAid
namespace Go.Proofs.Yteiiogaopgfpfaa.Nt
open Cr
set_option linter.unusedVariables false
set_option linter.unusedSimpArgs false
abbrev By := List UInt8
/-- A number's bytes, the lowest first. -/
def numL : Nat → Nat → By
  | 0, _ => []
  | k + 1, n => UInt8.ofNat (n % 256) :: numL k (n / 256)
def unnum : By → Nat
  | [] => 0
  | b :: l => b.toNat + 256 * unnum l
theorem numL_length (k n : Nat) : (numL k n).length = k := by
  induction k generalizing n with
  | zero => rfl
  | succ k ih => simp [numL, ih]
theorem unnum_num (k n : Nat) (h : n < 256 ^ k) : unnum (numL k n) = n := by
  induction k generalizing n with
  | zero => simp at h; subst h; rfl
  | succ k ih =>
    have := ih (n / 256) (by rw [Nat.pow_succ] at h; omega)
    simp only [numL, unnum, this]
    have : (UInt8.ofNat (n % 256)).toNat = n % 256 := by simp
    omega
theorem num_unnum (l : By) : numL l.length (unnum l) = l := by
  induction l with
  | nil => rfl
  | cons b l ih =>
    have hb : b.toNat < 256 := b.toNat_lt
    have h1 : (b.toNat + 256 * unnum l) % 256 = b.toNat := by omega
    have h2 : (b.toNat + 256 * unnum l) / 256 = unnum l := by omega
    simp only [List.length_cons, numL, unnum, h1, h2, ih]
    congr 1
    apply UInt8.toNat_inj.1; simp
theorem unnum_lt (l : By) : unnum l < 256 ^ l.length := by
  induction l with
  | nil => simp [unnum]
  | cons b l ih =>
    have hb : b.toNat < 256 := b.toNat_lt
    simp only [List.length_cons, unnum, Nat.pow_succ]
    omega

structure Und where
  kind : Int
  tree : Int
  key : By
  val : By
structure Rec where
  kind : Int
  deal : Int
  prev : Int
  next : Int
  pages : List (Int × By)
  und : Und
  opn : List (Int × Int)
  dty : List (Int × Int)
def Und.none : Und := ⟨0, 0, [], []⟩
def Rec.none : Rec := ⟨0, 0, 0, 0, [], Und.none, [], []⟩

/-! What can be. -/
def inN (n hi : Int) : Bool := decide (0 ≤ n) && decide (n ≤ hi)
def gUnd (u : Und) : Bool := inN u.kind 4 && inN u.tree 255 && decide (u.key.length ≤ 255) && decide (u.val.length ≤ 255)
def gImg (i : Int × By) : Bool := inN i.1 255 && decide (i.2.length = 256)
def gOpn (o : Int × Int) : Bool := inN o.1 2147483647 && inN o.2 2147483647
def gDty (d : Int × Int) : Bool := inN d.1 255 && inN d.2 2147483647
def goodB (r : Rec) : Bool :=
  (decide (1 ≤ r.kind) && decide (r.kind ≤ 6)) && inN r.deal 2147483647 && inN r.prev 2147483647 && inN r.next 2147483647 && gUnd r.und &&
  (decide (r.pages.length ≤ 8) && r.pages.all gImg) && (decide (r.opn.length ≤ 16) && r.opn.all gOpn) && (decide (r.dty.length ≤ 256) && r.dty.all gDty)
structure Goods (r : Rec) : Prop where
  k1 : 1 ≤ r.kind
  k2 : r.kind ≤ 6
  d1 : 0 ≤ r.deal
  d2 : r.deal ≤ 2147483647
  p1 : 0 ≤ r.prev
  p2 : r.prev ≤ 2147483647
  n1 : 0 ≤ r.next
  n2 : r.next ≤ 2147483647
  uk1 : 0 ≤ r.und.kind
  uk2 : r.und.kind ≤ 4
  ut1 : 0 ≤ r.und.tree
  ut2 : r.und.tree ≤ 255
  key : r.und.key.length ≤ 255
  val : r.und.val.length ≤ 255
  pl : r.pages.length ≤ 8
  pg : ∀ i, i ∈ r.pages → gImg i = true
  ol : r.opn.length ≤ 16
  og : ∀ i, i ∈ r.opn → gOpn i = true
  dl : r.dty.length ≤ 256
  dg : ∀ i, i ∈ r.dty → gDty i = true
theorem goods {r : Rec} (h : goodB r = true) : Goods r := by
  simp only [goodB, gUnd, inN, Bool.and_eq_true, decide_eq_true_eq, List.all_eq_true] at h
  obtain ⟨⟨⟨⟨⟨⟨⟨⟨h1, h2⟩, h3, h4⟩, h5, h6⟩, h7, h8⟩, ⟨⟨⟨h9, h10⟩, h11, h12⟩, h13⟩, h14⟩, h15, h16⟩, h17, h18⟩, h19, h20⟩ := h
  exact ⟨h1, h2, h3, h4, h5, h6, h7, h8, h9, h10, h11, h12, h13, h14, h15, h16, h17, h18, h19, h20⟩

/-! The bytes. -/
def numI (k : Nat) (n : Int) : By := numL k n.toNat
def bText (t : By) : By := numL 1 t.length ++ t
def bUnd (u : Und) : By := numI 1 u.kind ++ numI 1 u.tree ++ bText u.key ++ bText u.val
def bImg (i : Int × By) : By := numI 2 i.1 ++ i.2
def bOpn (o : Int × Int) : By := numI 4 o.1 ++ numI 4 o.2
def bDty (d : Int × Int) : By := numI 2 d.1 ++ numI 4 d.2
def body (r : Rec) : By :=
  numI 1 r.kind ++ numI 4 r.deal ++ numI 4 r.prev ++ numI 4 r.next ++ bUnd r.und ++ numL 1 r.pages.length ++ r.pages.flatMap bImg ++
  numL 1 r.opn.length ++ r.opn.flatMap bOpn ++ numL 2 r.dty.length ++ r.dty.flatMap bDty
def headed (r : Rec) : By := numL 4 (body r).length ++ body r
def bytes (r : Rec) : By := headed r ++ tailL (crc (headed r))
def sizeR (r : Rec) : Nat := 29 + r.und.key.length + r.und.val.length + 258 * r.pages.length + 8 * r.opn.length + 6 * r.dty.length
theorem flat_len {α : Type} (b : α → By) (n : Nat) (xs : List α) (h : ∀ x, x ∈ xs → (b x).length = n) : (xs.flatMap b).length = n * xs.length := by
  induction xs with
  | nil => rfl
  | cons x xs ih =>
    rw [List.flatMap_cons, List.length_append, h x (List.mem_cons_self), ih (fun y hy => h y (List.mem_cons_of_mem _ hy)), List.length_cons, Nat.mul_add]
    omega
theorem bOpn_len (o : Int × Int) : (bOpn o).length = 8 := by simp [bOpn, numI, numL_length]
theorem bDty_len (o : Int × Int) : (bDty o).length = 6 := by simp [bDty, numI, numL_length]
theorem bImg_len {i : Int × By} (h : gImg i = true) : (bImg i).length = 258 := by
  simp only [gImg, Bool.and_eq_true, decide_eq_true_eq] at h
  simp [bImg, numI, numL_length, h.2]
theorem body_size (r : Rec) (h : ∀ i, i ∈ r.pages → gImg i = true) : (body r).length + 8 = sizeR r := by
  simp only [body, bUnd, bText, List.length_append, numI, numL_length, flat_len _ 258 _ (fun x hx => bImg_len (h x hx)), flat_len _ 8 _ (fun x _ => bOpn_len x), flat_len _ 6 _ (fun x _ => bDty_len x), sizeR]
  omega
theorem headed_len (r : Rec) : (headed r).length = 4 + (body r).length := by simp [headed, numL_length]
theorem bytes_len (r : Rec) : (bytes r).length = (body r).length + 8 := by
  have : (tailL (crc (headed r))).length = 4 := rfl
  rw [bytes, List.length_append, headed_len, this]; omega
theorem size_small {r : Rec} (g : Goods r) : sizeR r ≤ 4271 := by
  have := g.key; have := g.val; have := g.pl; have := g.ol; have := g.dl
  unfold sizeR; omega

/-! Bytes taken apart. -/
structure St where
  rest : By
  bad : Bool
def tk (n : Nat) (s : St) : By × St := if s.rest.length < n then ([], ⟨s.rest, true⟩) else (s.rest.take n, ⟨s.rest.drop n, s.bad⟩)
def pnum (k : Nat) (s : St) : Nat × St := (unnum (tk k s).1, (tk k s).2)
def pText (s : St) : By × St := tk (pnum 1 s).1 (pnum 1 s).2
def loop {α : Type} (f : St → α × St) : Nat → St → List α × St
  | 0, s => ([], s)
  | n + 1, s => if s.bad then ([], s) else ((f s).1 :: (loop f n (f s).2).1, (loop f n (f s).2).2)
def pList {α : Type} (f : St → α × St) (k : Nat) (s : St) : List α × St := loop f (pnum k s).1 (pnum k s).2
def pImg (s : St) : (Int × By) × St := (((pnum 2 s).1, (tk 256 (pnum 2 s).2).1), (tk 256 (pnum 2 s).2).2)
def pOpn (s : St) : (Int × Int) × St := (((pnum 4 s).1, (pnum 4 (pnum 4 s).2).1), (pnum 4 (pnum 4 s).2).2)
def pDty (s : St) : (Int × Int) × St := (((pnum 2 s).1, (pnum 4 (pnum 2 s).2).1), (pnum 4 (pnum 2 s).2).2)
def pRec (s : St) : Rec × St :=
  let a := pnum 1 s
  let b := pnum 4 a.2
  let c := pnum 4 b.2
  let d := pnum 4 c.2
  let e := pnum 1 d.2
  let f := pnum 1 e.2
  let g := pText f.2
  let h := pText g.2
  let i := pList pImg 1 h.2
  let j := pList pOpn 1 i.2
  let k := pList pDty 2 j.2
  (⟨a.1, b.1, c.1, d.1, i.1, ⟨e.1, f.1, g.1, h.1⟩, j.1, k.1⟩, k.2)

/-- From s the bytes b were taken, and there were enough. -/
def Ok (s : St) (b : By) (s' : St) : Prop := s.bad = false ∧ s.rest = b ++ s'.rest
theorem Ok.trans {s s' s'' : St} {b c : By} (h : Ok s b s') (k : Ok s' c s'') : Ok s (b ++ c) s'' := ⟨h.1, by rw [h.2, k.2, List.append_assoc]⟩
theorem tk_ok (n : Nat) (s : St) (h : (tk n s).2.bad = false) : Ok s (tk n s).1 (tk n s).2 ∧ (tk n s).1.length = n := by
  unfold tk at *
  split
  · rename_i h'; rw [if_pos h'] at h; cases h
  · rename_i h'
    rw [if_neg h'] at h
    exact ⟨⟨h, (List.take_append_drop _ _).symm⟩, by rw [List.length_take]; omega⟩
theorem pnum_ok (k : Nat) (s : St) (h : (pnum k s).2.bad = false) : Ok s (numL k (pnum k s).1) (pnum k s).2 ∧ (pnum k s).1 < 256 ^ k := by
  obtain ⟨h1, h2⟩ := tk_ok k s h
  have e := num_unnum (tk k s).1
  rw [h2] at e
  have l := unnum_lt (tk k s).1
  rw [h2] at l
  exact ⟨by unfold pnum; rw [e]; exact h1, l⟩
theorem pText_ok (s : St) (h : (pText s).2.bad = false) : Ok s (bText (pText s).1) (pText s).2 := by
  obtain ⟨h1, h2⟩ := tk_ok _ _ h
  obtain ⟨h3, -⟩ := pnum_ok 1 s h1.1
  have := h3.trans h1
  unfold bText
  rw [show (pText s).1.length = (pnum 1 s).1 from h2]
  exact this
theorem loop_ok {α : Type} (f : St → α × St) (b : α → By) (hf : ∀ s, (f s).2.bad = false → Ok s (b (f s).1) (f s).2) (n : Nat) (s : St) (h : (loop f n s).2.bad = false) :
    Ok s ((loop f n s).1.flatMap b) (loop f n s).2 ∧ (loop f n s).1.length = n := by
  induction n generalizing s with
  | zero => exact ⟨⟨h, rfl⟩, rfl⟩
  | succ n ih =>
    have e : loop f (n + 1) s = if s.bad then ([], s) else ((f s).1 :: (loop f n (f s).2).1, (loop f n (f s).2).2) := rfl
    rw [e] at h ⊢
    by_cases hb : s.bad = true
    · rw [if_pos hb] at h; rw [hb] at h; cases h
    · rw [if_neg hb] at h ⊢
      obtain ⟨h1, h2⟩ := ih _ h
      have h3 := hf s h1.1
      exact ⟨by rw [List.flatMap_cons]; exact h3.trans h1, by rw [List.length_cons, h2]⟩
theorem pList_ok {α : Type} (f : St → α × St) (b : α → By) (hf : ∀ s, (f s).2.bad = false → Ok s (b (f s).1) (f s).2) (k : Nat) (s : St) (h : (pList f k s).2.bad = false) :
    Ok s (numL k (pList f k s).1.length ++ (pList f k s).1.flatMap b) (pList f k s).2 := by
  obtain ⟨h1, h2⟩ := loop_ok f b hf _ _ h
  obtain ⟨h3, -⟩ := pnum_ok k s h1.1
  rw [show (pList f k s).1.length = _ from h2]
  exact h3.trans h1
theorem pImg_ok (s : St) (h : (pImg s).2.bad = false) : Ok s (bImg (pImg s).1) (pImg s).2 := by
  obtain ⟨h1, h2⟩ := tk_ok _ _ h
  obtain ⟨h3, -⟩ := pnum_ok 2 s h1.1
  exact h3.trans h1
theorem pOpn_ok (s : St) (h : (pOpn s).2.bad = false) : Ok s (bOpn (pOpn s).1) (pOpn s).2 := by
  obtain ⟨h1, -⟩ := pnum_ok _ _ h
  obtain ⟨h3, -⟩ := pnum_ok 4 s h1.1
  exact h3.trans h1
theorem pDty_ok (s : St) (h : (pDty s).2.bad = false) : Ok s (bDty (pDty s).1) (pDty s).2 := by
  obtain ⟨h1, -⟩ := pnum_ok _ _ h
  obtain ⟨h3, -⟩ := pnum_ok 2 s h1.1
  exact h3.trans h1
theorem pRec_ok (s : St) (h : (pRec s).2.bad = false) : Ok s (body (pRec s).1) (pRec s).2 := by
  simp only [pRec] at *
  have hk := pList_ok pDty bDty pDty_ok 2 _ h
  have hj := pList_ok pOpn bOpn pOpn_ok 1 _ hk.1
  have hi := pList_ok pImg bImg pImg_ok 1 _ hj.1
  have hh := pText_ok _ hi.1
  have hg := pText_ok _ hh.1
  have hf := (pnum_ok 1 _ hg.1).1
  have he := (pnum_ok 1 _ hf.1).1
  have hd := (pnum_ok 4 _ he.1).1
  have hc := (pnum_ok 4 _ hd.1).1
  have hb := (pnum_ok 4 _ hc.1).1
  have ha := (pnum_ok 1 _ hb.1).1
  have := ha.trans (hb.trans (hc.trans (hd.trans (he.trans (hf.trans (hg.trans (hh.trans (hi.trans (hj.trans hk)))))))))
  simpa only [body, bUnd, numI, Int.toNat_natCast, List.append_assoc] using this

theorem tk_back (n : Nat) (t rest : By) (h : t.length = n) : tk n ⟨t ++ rest, false⟩ = (t, ⟨rest, false⟩) := by
  unfold tk
  rw [if_neg (by simp; omega)]
  simp [← h]
theorem pnum_back (k n : Nat) (rest : By) (h : n < 256 ^ k) : pnum k ⟨numL k n ++ rest, false⟩ = (n, ⟨rest, false⟩) := by
  unfold pnum
  rw [tk_back k _ rest (numL_length k n), unnum_num k n h]
theorem pnum_backI (k : Nat) (n : Int) (rest : By) (h0 : 0 ≤ n) (h : n.toNat < 256 ^ k) : pnum k ⟨numI k n ++ rest, false⟩ = (n.toNat, ⟨rest, false⟩) := pnum_back k _ rest h
theorem pText_back (t rest : By) (h : t.length ≤ 255) : pText ⟨bText t ++ rest, false⟩ = (t, ⟨rest, false⟩) := by
  unfold pText bText
  rw [List.append_assoc, pnum_back 1 _ _ (by omega), tk_back _ t rest rfl]
theorem loop_back {α : Type} (f : St → α × St) (b : α → By) (xs : List α) (hf : ∀ x, x ∈ xs → ∀ rest, f ⟨b x ++ rest, false⟩ = (x, ⟨rest, false⟩)) (rest : By) :
    loop f xs.length ⟨xs.flatMap b ++ rest, false⟩ = (xs, ⟨rest, false⟩) := by
  induction xs with
  | nil => rfl
  | cons x xs ih =>
    rw [List.length_cons, loop, List.flatMap_cons, List.append_assoc, hf x List.mem_cons_self, ih (fun y hy => hf y (List.mem_cons_of_mem _ hy))]
    rfl
theorem pList_back {α : Type} (f : St → α × St) (b : α → By) (k : Nat) (xs : List α) (hf : ∀ x, x ∈ xs → ∀ rest, f ⟨b x ++ rest, false⟩ = (x, ⟨rest, false⟩)) (hx : xs.length < 256 ^ k) (rest : By) :
    pList f k ⟨numL k xs.length ++ xs.flatMap b ++ rest, false⟩ = (xs, ⟨rest, false⟩) := by
  unfold pList
  rw [List.append_assoc, pnum_back k _ _ hx, loop_back f b xs hf]
theorem pImg_back (i : Int × By) (h : gImg i = true) (rest : By) : pImg ⟨bImg i ++ rest, false⟩ = (i, ⟨rest, false⟩) := by
  simp only [gImg, inN, Bool.and_eq_true, decide_eq_true_eq] at h
  unfold pImg bImg
  rw [List.append_assoc, pnum_backI 2 _ _ h.1.1 (by omega), tk_back _ _ _ h.2]
  simp only [Int.toNat_of_nonneg h.1.1]
theorem pOpn_back (o : Int × Int) (h : gOpn o = true) (rest : By) : pOpn ⟨bOpn o ++ rest, false⟩ = (o, ⟨rest, false⟩) := by
  simp only [gOpn, inN, Bool.and_eq_true, decide_eq_true_eq] at h
  unfold pOpn bOpn
  rw [List.append_assoc, pnum_backI 4 _ _ h.1.1 (by omega), pnum_backI 4 _ _ h.2.1 (by omega)]
  simp only [Int.toNat_of_nonneg h.1.1, Int.toNat_of_nonneg h.2.1]
theorem pDty_back (o : Int × Int) (h : gDty o = true) (rest : By) : pDty ⟨bDty o ++ rest, false⟩ = (o, ⟨rest, false⟩) := by
  simp only [gDty, inN, Bool.and_eq_true, decide_eq_true_eq] at h
  unfold pDty bDty
  rw [List.append_assoc, pnum_backI 2 _ _ h.1.1 (by omega), pnum_backI 4 _ _ h.2.1 (by omega)]
  simp only [Int.toNat_of_nonneg h.1.1, Int.toNat_of_nonneg h.2.1]
theorem pRec_back (r : Rec) (h : goodB r = true) (rest : By) : pRec ⟨body r ++ rest, false⟩ = (r, ⟨rest, false⟩) := by
  have g := goods h
  have e : body r ++ rest = numI 1 r.kind ++ (numI 4 r.deal ++ (numI 4 r.prev ++ (numI 4 r.next ++ (numI 1 r.und.kind ++ (numI 1 r.und.tree ++ (bText r.und.key ++ (bText r.und.val ++ (numL 1 r.pages.length ++ r.pages.flatMap bImg ++ (numL 1 r.opn.length ++ r.opn.flatMap bOpn ++ (numL 2 r.dty.length ++ r.dty.flatMap bDty ++ rest)))))))))) := by
    simp only [body, bUnd, List.append_assoc]
  have := g.k1; have := g.k2; have := g.d2; have := g.p2; have := g.n2; have := g.uk2; have := g.ut2; have := g.pl; have := g.ol; have := g.dl
  simp only [pRec]
  rw [e, pnum_backI 1 _ _ (by omega) (by omega), pnum_backI 4 _ _ g.d1 (by omega), pnum_backI 4 _ _ g.p1 (by omega), pnum_backI 4 _ _ g.n1 (by omega), pnum_backI 1 _ _ g.uk1 (by omega), pnum_backI 1 _ _ g.ut1 (by omega),
    pText_back _ _ g.key, pText_back _ _ g.val, pList_back pImg bImg 1 _ (fun x hx => pImg_back x (g.pg x hx)) (by omega), pList_back pOpn bOpn 1 _ (fun x hx => pOpn_back x (g.og x hx)) (by omega), pList_back pDty bDty 2 _ (fun x hx => pDty_back x (g.dg x hx)) (by omega)]
  simp only [Int.toNat_of_nonneg (show 0 ≤ r.kind by omega), Int.toNat_of_nonneg g.d1, Int.toNat_of_nonneg g.p1, Int.toNat_of_nonneg g.n1, Int.toNat_of_nonneg g.uk1, Int.toNat_of_nonneg g.ut1]

/-! A whole record. -/
def sealedL (l : By) : Bool := decide (4 ≤ l.length) && decide (l.drop (l.length - 4) = tailL (crc (l.take (l.length - 4))))
def hd (s : By) : Nat := (pnum 4 ⟨s, false⟩).1
/-- There are fewer bytes than the head tells. -/
def few (s : By) : Bool := decide (s.length < 4) || decide (s.length < hd s + 8)
def inner (s : By) : By := (s.take (hd s + 4)).drop 4
def fits (q : Rec × St) : Bool := !q.2.bad && (decide (q.2.rest = []) && goodB q.1)
def readR (s : By) : Option (Rec × Nat) :=
  if few s = true then none
  else if sealedL (s.take (hd s + 8)) = false then none
  else if fits (pRec ⟨inner s, false⟩) = true then some ((pRec ⟨inner s, false⟩).1, hd s + 8) else none
/-- .. as the document has it. -/
def fitsD (s : By) (q : Rec × St) : Bool := !q.2.bad && (goodB q.1 && decide (bytes q.1 = s.take (hd s + 8)))
def readD (s : By) : Option (Rec × Nat) :=
  if few s = true then none
  else if fitsD s (pRec ⟨inner s, false⟩) = true then some ((pRec ⟨inner s, false⟩).1, hd s + 8) else none
theorem few_no {s : By} (h : ¬ few s = true) : 4 ≤ s.length ∧ hd s + 8 ≤ s.length := by
  simp only [few, Bool.or_eq_true, decide_eq_true_eq, not_or, Nat.not_lt] at h; exact h
theorem hd_eq (s : By) (h : 4 ≤ s.length) : numL 4 (hd s) = s.take 4 := by
  have e : hd s = unnum (s.take 4) := by unfold hd pnum tk; rw [if_neg (by simp; omega)]
  have := num_unnum (s.take 4)
  rw [List.length_take, Nat.min_eq_left h] at this
  rw [e, this]
theorem sealed_of (l : By) (h : 4 ≤ l.length) : sealedL l = true ↔ l = l.take (l.length - 4) ++ tailL (crc (l.take (l.length - 4))) := by
  unfold sealedL
  rw [decide_eq_true h, Bool.true_and, decide_eq_true_eq]
  constructor
  · intro e; rw [← e, List.take_append_drop]
  · intro e
    have e2 : l = l.take (l.length - 4) ++ l.drop (l.length - 4) := (List.take_append_drop _ _).symm
    rw [e2] at e
    have h3 := List.append_inj_right' e (by rw [List.length_drop]; show _ = 4; omega)
    have hx : (l.take (l.length - 4) ++ l.drop (l.length - 4)) = l := List.take_append_drop _ _
    rw [hx] at h3
    exact h3
theorem inner_len (s : By) (h : hd s + 8 ≤ s.length) : (inner s).length = hd s := by
  unfold inner; rw [List.length_drop, List.length_take]; omega
theorem whole_eq (s : By) (h4 : 4 ≤ s.length) (h : hd s + 8 ≤ s.length) : (s.take (hd s + 8)).take (hd s + 4) = numL 4 (hd s) ++ inner s := by
  rw [hd_eq s h4, List.take_take, Nat.min_eq_left (by omega)]
  unfold inner
  have : s.take 4 = (s.take (hd s + 4)).take 4 := by rw [List.take_take, Nat.min_eq_left (by omega)]
  rw [this, List.take_append_drop]
theorem readD_eq (s : By) : readD s = readR s := by
  unfold readD readR
  split
  · rfl
  rename_i hf
  obtain ⟨h4, h8⟩ := few_no hf
  have hl : (s.take (hd s + 8)).length = hd s + 8 := by rw [List.length_take]; omega
  have hs := sealed_of (s.take (hd s + 8)) (by omega)
  rw [hl, show hd s + 8 - 4 = hd s + 4 by omega, whole_eq s h4 h8] at hs
  have hok := pRec_ok ⟨inner s, false⟩
  have hin := inner_len s h8
  generalize pRec ⟨inner s, false⟩ = q at *
  have key : fitsD s q = true ↔ (sealedL (s.take (hd s + 8)) = true ∧ fits q = true) := by
    unfold fitsD fits
    simp only [Bool.and_eq_true, Bool.not_eq_true', decide_eq_true_eq]
    rw [hs]
    constructor
    · rintro ⟨hb, hg, he⟩
      obtain ⟨-, hr⟩ := hok hb
      have hlen := congrArg List.length he
      rw [bytes_len, hl] at hlen
      have hlen2 := congrArg List.length hr
      simp only [List.length_append] at hlen2
      rw [hin] at hlen2
      have hz : q.2.rest = [] := List.eq_nil_of_length_eq_zero (by omega)
      rw [hz, List.append_nil] at hr
      have hr' : inner s = body q.1 := hr
      refine ⟨?_, hb, hz, hg⟩
      rw [← he, bytes, headed, hr', show (body q.1).length = hd s by omega]
    · rintro ⟨he, hb, hz, hg⟩
      obtain ⟨-, hr⟩ := hok hb
      rw [hz, List.append_nil] at hr
      have hr' : inner s = body q.1 := hr
      have : (body q.1).length = hd s := by rw [← hr', hin]
      refine ⟨hb, hg, ?_⟩
      rw [he, bytes, headed, hr', this]
  by_cases h1 : fitsD s q = true
  · obtain ⟨h2, h3⟩ := key.1 h1
    rw [if_pos h1, if_neg (by rw [h2]; simp), if_pos h3]
  · rw [if_neg h1]
    split
    · rfl
    · rename_i h2
      rw [if_neg (fun h3 => h1 (key.2 ⟨by simpa using h2, h3⟩))]
theorem hd_pre (r : Rec) (h : (body r).length < 4294967296) (x : By) : hd (numL 4 (body r).length ++ x) = (body r).length := by
  unfold hd; rw [pnum_back 4 _ _ (by omega)]
theorem bytes_app (r : Rec) (x : By) : bytes r ++ x = numL 4 (body r).length ++ (body r ++ tailL (crc (headed r)) ++ x) := by simp only [bytes, headed, List.append_assoc]
/-- What was written is read as it was, whatever stands behind it. -/
theorem read_bytes (r : Rec) (h : goodB r = true) (x : By) : readR (bytes r ++ x) = some (r, (bytes r).length) := by
  have g := goods h
  have hsz := size_small g
  have hb := body_size r g.pg
  have hbl := bytes_len r
  have hh : hd (bytes r ++ x) = (body r).length := by rw [bytes_app]; exact hd_pre r (by omega) _
  rw [← readD_eq]
  unfold readD
  have hlen : (bytes r ++ x).length = (body r).length + 8 + x.length := by rw [List.length_append, hbl]
  have hfew : ¬ few (bytes r ++ x) = true := by
    simp only [few, Bool.or_eq_true, decide_eq_true_eq, not_or, Nat.not_lt]; rw [hh, hlen]; omega
  rw [if_neg hfew]
  have htake : (bytes r ++ x).take ((body r).length + 8) = bytes r := by rw [← hbl]; exact List.take_left
  have hin : inner (bytes r ++ x) = body r ++ [] := by
    unfold inner
    rw [hh, bytes_app, List.take_append, numL_length]
    rw [show (body r).length + 4 - 4 = (body r).length by omega, List.append_assoc, List.take_left]
    rw [show List.take ((body r).length + 4) (numL 4 (body r).length) = numL 4 (body r).length from List.take_of_length_le (by rw [numL_length]; omega)]
    rw [List.append_nil]
    have := List.drop_left (l₁ := numL 4 (body r).length) (l₂ := body r)
    rw [numL_length] at this
    exact this
  rw [hin, pRec_back r h]
  unfold fitsD
  rw [hh, htake, h]
  simp [hbl]
/-- What is read would have been written so. -/
theorem read_some {s : By} {r : Rec} {n : Nat} (h : readR s = some (r, n)) : goodB r = true ∧ n ≤ s.length ∧ bytes r = s.take n ∧ n = hd s + 8 ∧ n = (bytes r).length := by
  rw [← readD_eq] at h
  unfold readD at h
  split at h
  · cases h
  · rename_i hf
    obtain ⟨h4, h8⟩ := few_no hf
    split at h
    · rename_i hq
      simp only [Option.some.injEq, Prod.mk.injEq] at h
      obtain ⟨rfl, rfl⟩ := h
      simp only [fitsD, Bool.and_eq_true, Bool.not_eq_true', decide_eq_true_eq] at hq
      refine ⟨hq.2.1, h8, hq.2.2, rfl, ?_⟩
      rw [hq.2.2, List.length_take]; omega
    · cases h
theorem bytes_inj (a b : Rec) (ha : goodB a = true) (hb : goodB b = true) (h : bytes a = bytes b) : a = b := by
  have h1 := read_bytes a ha []
  have h2 := read_bytes b hb []
  rw [h, h2] at h1
  simpa using h1.symm
theorem hd_bytes (r : Rec) (h : goodB r = true) (k : Nat) (hk : 4 ≤ k) : hd ((bytes r).take k) = (body r).length := by
  have g := goods h
  have hsz := size_small g
  have hb := body_size r g.pg
  have e := bytes_app r []
  rw [List.append_nil] at e
  rw [e, List.take_append, numL_length, show List.take k (numL 4 (body r).length) = numL 4 (body r).length from List.take_of_length_le (by rw [numL_length]; exact hk)]
  exact hd_pre r (by omega) _
/-- What is cut off is none. -/
theorem cut_none (r : Rec) (h : goodB r = true) (k : Nat) (hk : k < (bytes r).length) : readR ((bytes r).take k) = none := by
  unfold readR
  rw [if_pos]
  simp only [few, Bool.or_eq_true, decide_eq_true_eq]
  rw [List.length_take]
  by_cases h4 : k < 4
  · left; omega
  · right
    rw [hd_bytes r h k (by omega)]
    rw [bytes_len] at hk
    omega
/-- What isn't sealed is none. -/
theorem unsealed_none (r : Rec) (h : goodB r = true) (l : By) (hl : l.length = (bytes r).length) (h4 : l.take 4 = (bytes r).take 4) (hs : sealedL l = false) : readR l = none := by
  have hh : hd l = (body r).length := by
    have e1 : hd l = unnum (l.take 4) := by
      have := bytes_len r
      unfold hd pnum tk; rw [if_neg (by simp; omega)]
    have e2 : hd ((bytes r).take 4) = unnum (((bytes r).take 4).take 4) := by
      have := bytes_len r
      unfold hd pnum tk; rw [if_neg (by simp; omega)]
    rw [e1, h4, ← hd_bytes r h 4 (Nat.le_refl _), e2, List.take_take]; rfl
  unfold readR
  split
  · rfl
  · rw [hh, ← bytes_len, ← hl, List.take_length, if_pos hs]
end Go.Proofs.Yteiiogaopgfpfaa.Nt
