/- Texts of ours, joined. -/
import Derived.WalkKit
import Derived.ProofKit
import Derived.OpenShut
import Derived.Handy
import Derived.PlainAid
import Derived.BigQuiet
import Derived.RegionTactic
import Derived.OwnWalk
import Derived.Lib.Hide
import Derived.Lib.IndexBytes
import Derived.Lib.Bytealg
import Derived.Lib.Small
import Derived.Lib.LaidTab
import Derived.Lib.BufferWrite
import Derived.Deep.WholeRow
import Derived.Deep.AppendLies
import Derived.Deep.Onto
import Derived.Deep.RegionHeld3
import Derived.Deep.QuietTactic
import Derived.StillTailTactics
import Derived.Laws.OwnMore
import Derived.Laws.BytesArg
import Derived.Lib.ConvBytes

-- joined
section
namespace Go.Proofs.Ythoaangmekkcmaa.Aid
open Go.ChangeShapes Go.WideShapes Go.ChangeAt Go.RowKit Go.PlainAid
set_option linter.unusedVariables false

/-! What a call leaves alone. -/
theorem bl {a W w1 : World} (h1 : Below a.heap.size a W) (h2 : Below W.heap.size W w1) : Below a.heap.size a w1 := h1.trans (h2.mono h1.size)
theorem blA {a W : World} (h : Below a.heap.size a W) (o : Obj) : Below a.heap.size a (W.alloc o) := h.alloc h.size o
theorem bcell {W w1 : World} (hb : Below W.heap.size W w1) : (∀ b o, b < W.heap.size → w1.cell? ⟨b, o, none⟩ = W.cell? ⟨b, o, none⟩) ∧ (∀ b o, b < W.heap.size → w1.frozen? ⟨b, o, none⟩ = W.frozen? ⟨b, o, none⟩) :=
  ⟨fun b o h => hb.cell (p := ⟨b, o, none⟩) h, fun b o h => hb.frozen (p := ⟨b, o, none⟩) h⟩

/-! Results. -/
theorem ret_bool {a b : Bool} (h : a = b) : Ending.returned (.bool a) = .returned (.bool b) := by rw [h]
theorem ret_int {k : IntKind} {a b : Int} (h : a = b) : Ending.returned (.int k a) = .returned (.int k b) := by rw [h]
/-! Bytes of strings. -/
theorem bt_list (s : ByteArray) (k : Nat) : bt s k = ((s.data.toList.getD k 0).toNat : Int) := by
  unfold bt
  split
  · rename_i h
    rw [List.getD, Lib.data_getElem? s k h]; rfl
  · rename_i h
    have : s.data.toList[k]? = none := List.getElem?_eq_none (by rw [← Lib.size_eq]; omega)
    rw [List.getD, this]; rfl
theorem bt_ext (s t : ByteArray) (n : Nat) (hs : s.size = n) (ht : t.size = n) (h : ∀ i, i < n → bt s i = bt t i) : s = t := by
  apply ByteArray.ext; apply Array.toList_inj.1
  have ls : s.data.toList.length = n := by rw [← Lib.size_eq]; exact hs
  have lt : t.data.toList.length = n := by rw [← Lib.size_eq]; exact ht
  refine List.ext_getElem (by omega) fun i h1 h2 => ?_
  have := h i (by omega)
  rw [bt_list, bt_list, List.getD, List.getD, List.getElem?_eq_getElem h1, List.getElem?_eq_getElem h2] at this
  exact UInt8.toNat_inj.1 (Int.ofNat_inj.1 (by simpa using this))
theorem size_zero {s : ByteArray} (h : s.size = 0) : s = ⟨#[]⟩ := bt_ext s ⟨#[]⟩ 0 h rfl (fun i hi => by omega)
theorem toList_isEmpty (s : ByteArray) : s.toList.isEmpty = decide (s.size = 0) := by
  rw [ByteArray.toList_eq]; obtain ⟨⟨l⟩⟩ := s; cases l <;> simp [ByteArray.size]
theorem list_inj {a b : ByteArray} (h : a.data.toList = b.data.toList) : a = b := ByteArray.ext (Array.toList_inj.1 h)
theorem toList_inj {a b : ByteArray} (h : a.toList = b.toList) : a = b := by
  rw [ByteArray.toList_eq, ByteArray.toList_eq] at h; exact ByteArray.ext (Array.toList_inj.1 h)
/-- A string of the bytes of a list. -/
def ofL (l : List UInt8) : ByteArray := ⟨l.toArray⟩
theorem ofL_list (l : List UInt8) : (ofL l).data.toList = l := rfl
theorem ofL_size (l : List UInt8) : (ofL l).size = l.length := rfl
theorem ofL_back (s : ByteArray) : ofL s.data.toList = s := list_inj (ofL_list _)
theorem ofL_inj {l m : List UInt8} (h : ofL l = ofL m) : l = m := by have := congrArg (fun s => s.data.toList) h; simpa [ofL] using this
theorem str_eq (a b : ByteArray) : (a.toList == b.toList) = decide (a = b) := by
  by_cases h : a = b
  · subst h; simp
  · rw [decide_eq_false h, beq_eq_false_iff_ne]; exact fun e => h (toList_inj e)
theorem strOf_nums (l : List UInt8) : strOfNums (l.map fun x => (x.toNat : Int)) = ofL l := by
  unfold strOfNums ofL
  rw [List.map_map]
  congr 2
  conv => rhs; rw [← List.map_id l]
  apply List.map_congr_left
  intro x _
  simp

/-! Rows of memory that the call made itself. -/
theorem own_form {w : World} {base : Nat} {e : TypeId} {size : Nat} {v : Value} {n : Nat} {xs : List Value} (h : w.ownsRow base e size v n xs) (hv : v ≠ .slice none 0 0) :
    ∃ g cap, v = .slice (some ⟨g, 0, none⟩) n cap ∧ base ≤ g ∧ g < w.heap.size ∧ n ≤ cap ∧ cap ≤ maxLen := by
  have hlt := h.lt
  obtain ⟨h1, ⟨rfl, -⟩ | ⟨g, cap, cur, rfl, hb, hg, hn, hc, -, -⟩⟩ := h
  · exact absurd rfl hv
  · exact ⟨g, cap, rfl, hb, (hlt g rfl).2, hn, hc⟩
theorem addr_zero (g j : Nat) : (⟨g, 0, none⟩ : Addr).add j = ⟨g, j, none⟩ := by unfold Addr.add; split <;> simp_all
theorem append1 {w : World} {g0 : Nat} {x : Value} (hx : w.cell? ⟨g0, 0, none⟩ = some x) : ∀ j u, [x][j]? = some u → w.cell? ((⟨g0, 0, none⟩ : Addr).add j) = some u := by
  intro j u hu
  rw [addr_zero]
  match j, hu with
  | 0, hu => rw [hx]; exact hu
  | j + 1, hu => cases hu
/-- Bytes that lie in a row, as a string. -/
theorem conv_row {P : Program} {w : World} {src e dst : TypeId} (hs : P.underlying src = some (.slice e)) (he : P.underlying e = some (.int .u8)) (hd : P.underlying dst = some .string) (b off cap : Nat) (l : List UInt8)
    (hc : ∀ i (x : UInt8), l[i]? = some x → w.cell? ⟨b, off + i, none⟩ = some (.int .u8 x.toNat)) (n : Nat) (hn : l.length = n) :
    (convert src dst (.slice (some ⟨b, off, none⟩) n cap)).run P w = .ok (.string (ofL l)) w := by
  have := run_convert_bytes_arg (P := P) w src e hs he b off n cap (l.map fun x => (x.toNat : Int)) (by rw [List.length_map]; exact hn) (fun i hi => by
    have hl : i < l.length := by omega
    rw [hc i l[i] (List.getElem?_eq_getElem hl)]
    simp [List.getD, hl]) dst hd
  rw [strOf_nums] at this
  exact this
/-- s[:k] of a string. -/
theorem slice_to {P : Program} {t : TypeId} (ht : P.underlying t = some .string) (s : ByteArray) (k : Nat) (j : Int) (hj : j = k) (h : k ≤ s.size) (w : World) : (Instr.slice t (.string s) none (some (.int .i64 j)) none).run P w = .ok (.string (s.extract 0 k)) w := by
  rw [run_slice_string_to_if (h := ht), if_pos (by omega), show j.toNat = k by omega]

/-- Bytes that lie in a block, and can be written. -/
def Bytes (w : World) (g : Nat) (l : List UInt8) : Prop := g < w.heap.size ∧ (∀ (i : Nat) (x : UInt8), l[i]? = some x → w.cell? ⟨g, i, none⟩ = some (.int .u8 x.toNat)) ∧ ∀ i, i < l.length → w.frozen? ⟨g, i, none⟩ = false
theorem Bytes.conv {P : Program} {w : World} {src e dst : TypeId} {g : Nat} {l : List UInt8} (h : Bytes w g l) (hs : P.underlying src = some (.slice e)) (he : P.underlying e = some (.int .u8)) (hd : P.underlying dst = some .string) (cap n : Nat) (hn : l.length = n) :
    (convert src dst (.slice (some ⟨g, 0, none⟩) n cap)).run P w = .ok (.string (ofL l)) w :=
  conv_row hs he hd g 0 cap l (fun i x hx => by rw [Nat.zero_add]; exact h.2.1 i x hx) n hn
theorem to_bytes {P : Program} {src dst e : TypeId} (hs : P.underlying src = some .string) (hd : P.underlying dst = some (.slice e)) (he : P.underlying e = some (.int .u8)) (w : World) (s : ByteArray) :
    ∃ cap w', (convert src dst (.string s)).run P w = .ok (.slice (some ⟨w.heap.size, 0, none⟩) s.size cap) w' ∧ Below w.heap.size w w' ∧ Bytes w' w.heap.size s.data.toList := by
  refine ⟨_, _, Lib.run_convert_string_bytes w src dst e s hs hd he, ⟨rfl, rfl, rfl, by rw [Lib.bytesWorld_size]; omega, fun k hk => Lib.bytesWorld_at_old w e s k hk⟩, by rw [Lib.bytesWorld_size]; omega, fun i x hx => ?_, fun i hi => ?_⟩
  · have hi := (List.getElem?_eq_some_iff.1 hx).1
    rw [Lib.bytesWorld_cell w e s i (by rw [Lib.size_eq]; exact hi), List.getD, hx]
    rfl
  · have hz : s.size ≤ (Lib.bytesCells w e s).size := by
      unfold Lib.bytesCells; rw [Array.size_append, Array.size_map]; exact Nat.le_add_right _ _
    have hi' : i < s.size := by rw [Lib.size_eq]; exact hi
    unfold World.frozen?
    rw [Lib.bytesWorld_at_new]
    simp
    omega
end Go.Proofs.Ythoaangmekkcmaa.Aid
end

-- joined
section
namespace Go.Proofs.Ythoaangmekkcmaa.Cr
open Go.RowKit Go.PlainAid Aid
set_option linter.unusedVariables false
set_option linter.unusedSimpArgs false

/-- One bit down. -/
def adv (c : BitVec 32) : BitVec 32 := (c >>> 1) ^^^ (if c.getLsbD 0 then 0xEDB88320#32 else 0#32)
/-- Some bits down. -/
def advs : Nat → BitVec 32 → BitVec 32
  | 0, c => c
  | n + 1, c => advs n (adv c)
/-- A byte more. -/
def upd (c b : BitVec 32) : BitVec 32 := advs 8 (c ^^^ b)
/-- A row of bytes. -/
def st (c : BitVec 32) (l : List UInt8) : BitVec 32 := l.foldl (fun c x => upd c (BitVec.ofNat 32 x.toNat)) c
def ones : BitVec 32 := 0xFFFFFFFF#32
/-- The sum. -/
def crc (l : List UInt8) : BitVec 32 := ~~~ st ones l
/-- The bytes of a number, the lowest first. -/
def byteOf (c : BitVec 32) (i : Nat) : UInt8 := UInt8.ofNat ((c >>> (8 * i)).toNat % 256)
def tailL (c : BitVec 32) : List UInt8 := [byteOf c 0, byteOf c 1, byteOf c 2, byteOf c 3]
end Go.Proofs.Ythoaangmekkcmaa.Cr
end

-- joined
section
namespace Go.Proofs.Ythoaangmekkcmaa.Nt
open Cr
set_option linter.unusedVariables false
set_option linter.unusedSimpArgs false
abbrev By := List UInt8
/-- A number's bytes, the lowest first. -/
def numL : Nat → Nat → By
  | 0, _ => []
  | k + 1, n => UInt8.ofNat (n % 256) :: numL k (n / 256)
def unnum : By → Nat
  | [] => 0
  | b :: l => b.toNat + 256 * unnum l
theorem unnum_lt (l : By) : unnum l < 256 ^ l.length := by
  induction l with
  | nil => simp [unnum]
  | cons b l ih =>
    have hb : b.toNat < 256 := b.toNat_lt
    simp only [List.length_cons, unnum, Nat.pow_succ]
    omega

structure Und where
  kind : Int
  tree : Int
  key : By
  val : By
structure Rec where
  kind : Int
  deal : Int
  prev : Int
  next : Int
  pages : List (Int × By)
  und : Und
  opn : List (Int × Int)
  dty : List (Int × Int)
def Und.none : Und := ⟨0, 0, [], []⟩
def Rec.none : Rec := ⟨0, 0, 0, 0, [], Und.none, [], []⟩

/-! What can be. -/
def inN (n hi : Int) : Bool := decide (0 ≤ n) && decide (n ≤ hi)
/-! The bytes. -/
def numI (k : Nat) (n : Int) : By := numL k n.toNat
def bText (t : By) : By := numL 1 t.length ++ t
def bUnd (u : Und) : By := numI 1 u.kind ++ numI 1 u.tree ++ bText u.key ++ bText u.val
def bImg (i : Int × By) : By := numI 2 i.1 ++ i.2
def bOpn (o : Int × Int) : By := numI 4 o.1 ++ numI 4 o.2
def bDty (d : Int × Int) : By := numI 2 d.1 ++ numI 4 d.2
def body (r : Rec) : By :=
  numI 1 r.kind ++ numI 4 r.deal ++ numI 4 r.prev ++ numI 4 r.next ++ bUnd r.und ++ numL 1 r.pages.length ++ r.pages.flatMap bImg ++
  numL 1 r.opn.length ++ r.opn.flatMap bOpn ++ numL 2 r.dty.length ++ r.dty.flatMap bDty
def headed (r : Rec) : By := numL 4 (body r).length ++ body r
def bytes (r : Rec) : By := headed r ++ tailL (crc (headed r))
/-! Bytes taken apart. -/
structure St where
  rest : By
  bad : Bool
def tk (n : Nat) (s : St) : By × St := if s.rest.length < n then ([], ⟨s.rest, true⟩) else (s.rest.take n, ⟨s.rest.drop n, s.bad⟩)
def pnum (k : Nat) (s : St) : Nat × St := (unnum (tk k s).1, (tk k s).2)
def loop {α : Type} (f : St → α × St) : Nat → St → List α × St
  | 0, s => ([], s)
  | n + 1, s => if s.bad then ([], s) else ((f s).1 :: (loop f n (f s).2).1, (loop f n (f s).2).2)
/-! A whole record. -/
def hd (s : By) : Nat := (pnum 4 ⟨s, false⟩).1
/-- There are fewer bytes than the head tells. -/
def few (s : By) : Bool := decide (s.length < 4) || decide (s.length < hd s + 8)
end Go.Proofs.Ythoaangmekkcmaa.Nt
end

-- joined
section
namespace Go.Proofs.Ythoaangmekkcmaa.Nd
open Cr Nt
set_option linter.unusedVariables false
set_option linter.unusedSimpArgs false

/-! Which bytes stand ahead of which. -/
def lt (a b : By) : Bool := Go.Op.bytesLess a b
def le (a b : By) : Bool := lt a b || decide (a = b)
theorem lt_cons (x y : UInt8) (a b : By) : lt (x :: a) (y :: b) = (decide (x < y) || (x == y && lt a b)) := rfl
theorem cmp_lt : ∀ a b : By, Lib.compareBytes a b = if lt a b = true then -1 else if a = b then 0 else 1
  | [], [] => rfl
  | [], _ :: _ => rfl
  | _ :: _, [] => rfl
  | x :: a, y :: b => by
    have ih := cmp_lt a b
    rw [Lib.compareBytes, lt_cons]
    by_cases h1 : x < y
    · simp [h1]
    · by_cases h2 : x = y
      · subst h2
        simp only [h1, if_false, decide_false, beq_self_eq_true, Bool.true_and, Bool.false_or, List.cons.injEq, true_and]
        exact ih
      · have h3 : y < x := by
          have h1' : ¬ x.toNat < y.toNat := by simpa [UInt8.lt_iff_toNat_lt] using h1
          have h2' : x.toNat ≠ y.toNat := fun e => h2 (UInt8.toNat_inj.1 e)
          rw [UInt8.lt_iff_toNat_lt]; omega
        simp [h1, h2, h3]
theorem cmp_ge (a b : By) : decide (0 ≤ Lib.compareBytes a b) = !lt a b := by
  rw [cmp_lt]; split <;> rename_i h
  · rw [h]; rfl
  · simp only [Bool.not_eq_true] at h; rw [h]; split <;> rfl
structure Ent where
  key : By
  val : By
  ghost : Bool
deriving instance DecidableEq for Ent
structure Nod where
  tree : Int
  level : Int
  stamp : Int
  has : Bool
  high : By
  right : Int
  list : List Ent
deriving instance DecidableEq for Nod
def Nod.none : Nod := ⟨0, 0, 0, false, [], 0, []⟩

/-! What can be. -/
def cov (n : Nod) (k : By) : Bool := !n.has || lt k n.high
def gEnt (lv : Int) (e : Ent) : Bool := decide (e.key.length = 9) && (if 0 < lv then decide (e.val.length = 2) && !e.ghost else decide (e.val.length ≤ 100))
def rise (l : List Ent) (i : Nat) (e : Ent) : Bool := match i with
  | 0 => true
  | j + 1 => match l[j]? with
    | some a => lt a.key e.key
    | none => true
def gAt (n : Nod) (i : Nat) (e : Ent) : Bool := rise n.list i e && (cov n e.key && gEnt n.level e)
def gTo (n : Nod) : Nat → Bool
  | 0 => true
  | k + 1 => gTo n k && (match n.list[k]? with | some e => gAt n k e | none => true)
def gHigh (n : Nod) : Bool := if n.has then decide (n.high.length = 9) else decide (n.high = [])
def gList (n : Nod) : Bool := decide (n.list.length ≤ 100) && gTo n n.list.length
def goodB (n : Nod) : Bool := inN n.tree 255 && inN n.level 12 && inN n.stamp 2147483647 && inN n.right 255 && gHigh n && gList n
theorem gTo_step (n : Nod) (k : Nat) (e : Ent) (he : n.list[k]? = some e) : gTo n (k + 1) = (gTo n k && gAt n k e) := by rw [gTo, he]
theorem gTo_false (n : Nod) (k m : Nat) (h : gTo n k = false) (hk : k ≤ m) : gTo n m = false := by
  induction m with
  | zero => obtain rfl : k = 0 := by omega
            exact h
  | succ m ih =>
    by_cases hm : k = m + 1
    · subst hm; exact h
    · rw [gTo, ih (by omega)]; rfl
theorem gTo_at (n : Nod) (m k : Nat) (h : gTo n m = true) (hk : k < m) (e : Ent) (he : n.list[k]? = some e) : gAt n k e = true := by
  cases hg : gAt n k e with
  | true => rfl
  | false =>
    have := gTo_false n (k + 1) m (by rw [gTo_step n k e he, hg, Bool.and_false]) hk
    rw [this] at h; cases h
structure Goods (n : Nod) : Prop where
  t1 : 0 ≤ n.tree
  t2 : n.tree ≤ 255
  l1 : 0 ≤ n.level
  l2 : n.level ≤ 12
  s1 : 0 ≤ n.stamp
  s2 : n.stamp ≤ 2147483647
  r1 : 0 ≤ n.right
  r2 : n.right ≤ 255
  hh : n.has = true → n.high.length = 9
  hn : n.has = false → n.high = []
  ll : n.list.length ≤ 100
  ky : ∀ e, e ∈ n.list → e.key.length = 9
  vl : ∀ e, e ∈ n.list → e.val.length ≤ 100
theorem goods {n : Nod} (h : goodB n = true) : Goods n := by
  simp only [goodB, gList, inN, Bool.and_eq_true, decide_eq_true_eq] at h
  obtain ⟨⟨⟨⟨⟨⟨h1, h2⟩, h3, h4⟩, h5, h6⟩, h7, h8⟩, h9⟩, h10, h11⟩ := h
  have key : ∀ e, e ∈ n.list → gEnt n.level e = true := fun e he => by
    obtain ⟨i, hi⟩ := List.getElem?_of_mem he
    have hl := (List.getElem?_eq_some_iff.1 hi).1
    have := gTo_at n _ i h11 hl e hi
    simp only [gAt, Bool.and_eq_true] at this
    exact this.2.2
  refine ⟨h1, h2, h3, h4, h5, h6, h7, h8, fun e => ?_, fun e => ?_, h10, fun e he => ?_, fun e he => ?_⟩
  · simpa [gHigh, e] using h9
  · simpa [gHigh, e] using h9
  · have := key e he
    simp only [gEnt, Bool.and_eq_true, decide_eq_true_eq] at this
    exact this.1
  · have := key e he
    simp only [gEnt, Bool.and_eq_true, decide_eq_true_eq] at this
    obtain ⟨-, h⟩ := this
    split at h <;> simp at h <;> omega

/-! The bytes. -/
def one (b : Bool) : Nat := if b then 1 else 0
def sizeL : List Ent → Nat
  | [] => 0
  | e :: l => 11 + e.val.length + sizeL l
def sizeN (n : Nod) : Nat := 20 + sizeL n.list
def fitsB (n : Nod) : Bool := goodB n && decide (sizeN n ≤ 252)
theorem sizeL_app (a b : List Ent) : sizeL (a ++ b) = sizeL a + sizeL b := by
  induction a with
  | nil => simp [sizeL]
  | cons e a ih => simp only [List.cons_append, sizeL, ih]; omega
theorem sizeL_take (l : List Ent) (k : Nat) (e : Ent) (h : l[k]? = some e) : sizeL (l.take (k + 1)) = sizeL (l.take k) + (11 + e.val.length) := by
  rw [List.take_add_one, h, sizeL_app]; simp [sizeL]
theorem sizeL_le (l : List Ent) (k : Nat) : sizeL (l.take k) ≤ sizeL l := by
  have := sizeL_app (l.take k) (l.drop k)
  rw [List.take_append_drop] at this; omega
theorem sizeL_bound (l : List Ent) (m : Nat) (h : ∀ e, e ∈ l → e.val.length ≤ m) : sizeL l ≤ (11 + m) * l.length := by
  induction l with
  | nil => simp [sizeL]
  | cons e l ih =>
    have h1 := h e List.mem_cons_self
    have h2 := ih (fun x hx => h x (List.mem_cons_of_mem _ hx))
    simp only [sizeL, List.length_cons, Nat.mul_succ]; omega
theorem size_small {n : Nod} (g : Goods n) : sizeN n ≤ 11120 := by
  have h := sizeL_bound n.list 100 g.vl
  have := g.ll
  have h2 : (11 + 100) * n.list.length ≤ 111 * 100 := Nat.mul_le_mul (by decide) this
  unfold sizeN; omega
theorem fits_good {n : Nod} (h : fitsB n = true) : goodB n = true ∧ sizeN n ≤ 252 := by
  simpa [fitsB] using h
/-! Bytes taken apart. -/
/-! A whole page. -/
/-! .. as the document has it. -/
/-! The place of a key. -/
def lastLe (l : List Ent) (key : By) : Nat → Int
  | 0 => -1
  | k + 1 => match l[k]? with
    | some e => if le e.key key = true then (k : Int) else lastLe l key k
    | none => lastLe l key k
theorem lastLe_hit (l : List Ent) (key : By) (k : Nat) (e : Ent) (h : l[k]? = some e) (hl : le e.key key = true) : lastLe l key (k + 1) = k := by rw [lastLe, h]; simp [hl]
theorem lastLe_miss (l : List Ent) (key : By) (k : Nat) (e : Ent) (h : l[k]? = some e) (hl : le e.key key = false) : lastLe l key (k + 1) = lastLe l key k := by rw [lastLe, h]; simp [hl]
/-- The page to which an entry leads. -/
def childL (v : By) : Nat := if v.length = 2 then unnum v else 0
end Go.Proofs.Ythoaangmekkcmaa.Nd
end

-- joined
section
namespace Go.Proofs.Ythoaangmekkcmaa.Aid
open Go.ChangeShapes Go.WideShapes Go.ChangeAt Go.RowKit Go.PlainAid
set_option linter.unusedVariables false

/-- w' is w with new blocks, and writes to the blocks of S alone. -/
structure Chg (S : Nat → Prop) (w w' : World) : Prop where
  os : w'.os = w.os
  tape : w'.tape = w.tape
  output : w'.output = w.output
  size : w.heap.size ≤ w'.heap.size
  block : ∀ k, k < w.heap.size → ¬ S k → w'.heap[k]? = w.heap[k]?

section
variable {S T : Nat → Prop} {a b c w w' : World}
theorem Chg.refl (S : Nat → Prop) (w : World) : Chg S w w := ⟨rfl, rfl, rfl, Nat.le_refl _, fun _ _ _ => rfl⟩
theorem Chg.trans (h : Chg S a b) (k : Chg T b c) (hT : ∀ i, i < a.heap.size → T i → S i) : Chg S a c :=
  ⟨k.os.trans h.os, k.tape.trans h.tape, k.output.trans h.output, Nat.le_trans h.size k.size, fun i hi hs => (k.block i (Nat.lt_of_lt_of_le hi h.size) (fun ht => hs (hT i hi ht))).trans (h.block i hi hs)⟩
theorem Chg.mono (h : Chg S w w') (hT : ∀ i, i < w.heap.size → S i → T i) : Chg T w w' := ⟨h.os, h.tape, h.output, h.size, fun i hi hs => h.block i hi (fun x => hs (hT i hi x))⟩
theorem Chg.of_below (h : Below w.heap.size w w') : Chg S w w' := ⟨h.os, h.tape, h.output, h.size, fun i hi _ => h.block i hi⟩
theorem Chg.below (h : Chg S w w') {B : Nat} (hB : B ≤ w.heap.size) (hS : ∀ i, i < w.heap.size → S i → B ≤ i) : Below B w w' :=
  ⟨h.os, h.tape, h.output, h.size, fun i hi => h.block i (by omega) (fun x => by have := hS i (by omega) x; omega)⟩
theorem Chg.drewN (h : Chg S a w) (n : Nat) : Chg S a (w.drewN n) := ⟨h.os, h.tape, h.output, h.size, h.block⟩
theorem Chg.drew (h : Chg S a w) : Chg S a w.drew := ⟨h.os, h.tape, h.output, h.size, h.block⟩
theorem Chg.alloc (h : Chg S a w) (o : Obj) : Chg S a (w.alloc o) :=
  h.trans (T := fun _ => False) ⟨rfl, rfl, rfl, by simp, fun k hk _ => Below.heap_alloc _ _ _ hk⟩ (fun _ _ f => f.elim)
theorem Chg.setCell (h : Chg S a w) {p : Addr} (hp : p.block < a.heap.size → S p.block) (u : Value) : Chg S a (w.setCell p u) :=
  h.trans (T := (· = p.block)) ⟨rfl, rfl, rfl, by simp [World.setCell], fun k hk hs => Below.heap_setCell _ _ _ _ hs⟩ (fun i hi e => by subst e; exact hp hi)
theorem Chg.cell (h : Chg S w w') {b : Nat} (hb : b < w.heap.size) (hs : ¬ S b) (o : Nat) : w'.cell? ⟨b, o, none⟩ = w.cell? ⟨b, o, none⟩ := World.cell?_of_block (w := w) (a := ⟨b, o, none⟩) (h.block b hb hs)
theorem Chg.frozen (h : Chg S w w') {b : Nat} (hb : b < w.heap.size) (hs : ¬ S b) (o : Nat) : w'.frozen? ⟨b, o, none⟩ = w.frozen? ⟨b, o, none⟩ := World.frozen?_of_block (w := w) (a := ⟨b, o, none⟩) (h.block b hb hs)
end

/-- int(uint(n) % m). -/
theorem mod_u (n m : Int) (h0 : 0 < m) (h1 : m ≤ 9223372036854775807) : ∃ K : Nat, wrap64 ((IntKind.u64.wrap n).tmod m) = (K : Int) ∧ (K : Int) < m := by
  have g0 : 0 ≤ IntKind.u64.wrap n := by rw [IntKind.wrap_u64]; omega
  have a1 := Int.tmod_nonneg m g0
  have a2 := Int.tmod_lt_of_pos (IntKind.u64.wrap n) h0
  refine ⟨((IntKind.u64.wrap n).tmod m).toNat, ?_, ?_⟩
  · unfold wrap64
    omega
  · omega

/-! A block known whole, that may be written. -/
def Blk (w : World) (g : Nat) (T : TypeId) (cs : Array Value) : Prop := w.heap[g]? = some (.cells cs T (0, 0))
section
variable {w w' : World} {g : Nat} {T : TypeId} {cs : Array Value}
theorem Blk.lt (h : Blk w g T cs) : g < w.heap.size := by
  rcases Nat.lt_or_ge g w.heap.size with h' | h'
  · exact h'
  · simp [Blk, Array.getElem?_eq_none h'] at h
theorem Blk.cell (h : Blk w g T cs) (i : Nat) : w.cell? ⟨g, i, none⟩ = cs[i]? := by unfold Blk at h; simp [World.cell?, h]
theorem Blk.free (h : Blk w g T cs) (i : Nat) : w.frozen? ⟨g, i, none⟩ = false := by unfold Blk at h; simp [World.frozen?, h]
theorem Blk.set (h : Blk w g T cs) (i : Nat) (u : Value) : Blk (w.setCell ⟨g, i, none⟩ u) g T (cs.setIfInBounds i u) := by
  have hlt := h.lt
  have h' : w.heap[g] = .cells cs T (0, 0) := by unfold Blk at h; simpa [Array.getElem?_eq_getElem hlt] using h
  show (w.heap.modify g _)[g]? = _
  rw [Array.getElem?_eq_getElem (by simpa using hlt), Array.getElem_modify_self, h']
  rfl
theorem Blk.other (h : Blk w g T cs) {p : Addr} (hp : g ≠ p.block) (u : Value) : Blk (w.setCell p u) g T cs := by
  unfold Blk; rw [Below.heap_setCell _ _ _ _ hp]; exact h
theorem Blk.keep {S : Nat → Prop} (h : Blk w g T cs) (hb : Chg S w w') (hs : ¬ S g) : Blk w' g T cs := by
  unfold Blk; rw [hb.block g h.lt hs]; exact h
theorem Blk.new (w : World) (cs : Array Value) (T : TypeId) : Blk (w.alloc (.cells cs T)) w.heap.size T cs := by
  show (w.heap.push _)[w.heap.size]? = _
  rw [Array.getElem?_push, if_pos rfl]
theorem Blk.drewN (h : Blk w g T cs) (n : Nat) : Blk (w.drewN n) g T cs := h
end
end Go.Proofs.Ythoaangmekkcmaa.Aid
end
