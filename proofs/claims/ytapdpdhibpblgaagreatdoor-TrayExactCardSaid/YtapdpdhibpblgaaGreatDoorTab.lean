/- Texts of ours, joined. -/
import Derived.Test.YtapdpdhibpblgaaGreatDoorChg
import Derived.Laws.MakeOwn
import Derived.Test.YtapdpdhibpblgaaGreatDoorDyP
import Derived.Test.YtapdpdhibpblgaaGreatDoorSep

-- joined
section
namespace Go.Proofs.YtapdpdhibpblgaaGreatDoor.Aid
open Go.ChangeShapes Go.WideShapes Go.ChangeAt Go.RowKit Go.PlainAid
set_option linter.unusedVariables false

/-- A block of n cells, that may be written; the cell k holds f k. -/
def Tab (w : World) (b : Nat) (T : TypeId) (n : Nat) (f : Nat → Value) : Prop := Blk w b T (Array.ofFn (n := n) fun i => f i.1)
section
variable {w w' : World} {b n : Nat} {T : TypeId} {f h : Nat → Value}
theorem Tab.cell (t : Tab w b T n f) {i : Nat} (hi : i < n) : w.cell? ⟨b, i, none⟩ = some (f i) := by
  rw [Blk.cell t]; simp [hi]
theorem Tab.free (t : Tab w b T n f) (i : Nat) : w.frozen? ⟨b, i, none⟩ = false := Blk.free t i
theorem Tab.lt (t : Tab w b T n f) : b < w.heap.size := Blk.lt t
theorem Tab.congr (t : Tab w b T n f) (e : ∀ k, k < n → f k = h k) : Tab w b T n h := by
  unfold Tab at *
  have : (Array.ofFn (n := n) fun i => f i.1) = Array.ofFn (n := n) fun i => h i.1 := by
    congr 1; funext i; exact e i.1 i.2
  rw [← this]; exact t
theorem Tab.set (t : Tab w b T n f) (i : Nat) (v : Value) : Tab (w.setCell ⟨b, i, none⟩ v) b T n (fun k => if k = i then v else f k) := by
  unfold Tab at *
  have := Blk.set t i v
  have e : (Array.ofFn (n := n) fun k => f k.1).setIfInBounds i v = Array.ofFn (n := n) fun k => if k.1 = i then v else f k.1 := by
    apply Array.ext_getElem?
    intro k
    rw [Array.getElem?_setIfInBounds, Array.getElem?_ofFn, Array.getElem?_ofFn]
    by_cases hk : i = k
    · subst hk
      by_cases hi : i < n <;> simp [hi]
    · have hk' : ¬ k = i := fun x => hk x.symm
      rw [if_neg hk]
      by_cases hi : k < n <;> simp [hi, hk']
  rw [e] at this
  exact this
theorem Tab.set' (t : Tab w b T n f) (i : Nat) (v : Value) (e : ∀ k, k < n → (if k = i then v else f k) = h k) : Tab (w.setCell ⟨b, i, none⟩ v) b T n h := (t.set i v).congr e
theorem Tab.other (t : Tab w b T n f) {p : Addr} (hp : b ≠ p.block) (u : Value) : Tab (w.setCell p u) b T n f := Blk.other t hp u
theorem Tab.keep {S : Nat → Prop} (t : Tab w b T n f) (hb : Chg S w w') (hs : ¬ S b) : Tab w' b T n f := Blk.keep t hb hs
theorem Tab.keepB (t : Tab w b T n f) (hb : Below w.heap.size w w') : Tab w' b T n f := Blk.keepB t hb
theorem Tab.new (w : World) (cs : Array Value) (T : TypeId) (hn : cs.size = n) (hf : ∀ k, k < n → cs[k]? = some (f k)) : Tab (w.alloc (.cells cs T)) w.heap.size T n f := by
  unfold Tab
  have : cs = Array.ofFn (n := n) fun i => f i.1 := by
    apply Array.ext
    · simp [hn]
    · intro k h1 h2
      have := hf k (by omega)
      rw [Array.getElem?_eq_getElem h1] at this
      simpa using this
  rw [← this]
  exact Blk.new _ _ _
theorem Blk.new' (w : World) (cs : Array Value) (T : TypeId) (g : Nat) (hg : g = w.heap.size) : Blk (w.alloc (.cells cs T)) g T cs := by subst hg; exact Blk.new _ _ _
theorem Tab.made (w : World) (z : Array Value) (n : Nat) (T : TypeId) : Tab (w.alloc (.cells (madeCells z n) T)) w.heap.size T n (fun k => z[k % z.size]!) :=
  Tab.new _ _ _ (size_madeCells _ _) (fun k hk => by simp [madeCells, hk])
theorem Tab.of_made {w : World} {b n : Nat} {T : TypeId} {z : Value} (h : Blk w b T (madeCells #[z] n)) : Tab w b T n (fun _ => z) := by
  have e : madeCells #[z] n = Array.ofFn (n := n) fun _ => z := by
    apply Array.ext_getElem?
    intro k
    rw [Array.getElem?_ofFn]
    by_cases hk : k < n <;> simp [madeCells, hk, Nat.mod_one]
  unfold Tab
  rw [← e]; exact h
theorem look4 (w : World) (A B C D : Obj) : ((((w.alloc A).alloc B).alloc C).alloc D).drew.heap[w.heap.size]? = some A ∧ ((((w.alloc A).alloc B).alloc C).alloc D).drew.heap[w.heap.size + 1]? = some B ∧ ((((w.alloc A).alloc B).alloc C).alloc D).drew.heap[w.heap.size + 1 + 1]? = some C ∧ ((((w.alloc A).alloc B).alloc C).alloc D).drew.heap[w.heap.size + 1 + 1 + 1]? = some D := by
  have e : ((((w.alloc A).alloc B).alloc C).alloc D).drew.heap = (((w.heap.push A).push B).push C).push D := rfl
  rw [e]
  simp only [Array.getElem?_push, Array.size_push]
  generalize w.heap.size = n
  refine ⟨?_, ?_, ?_, ?_⟩
  · rw [if_neg (by omega), if_neg (by omega), if_neg (by omega), if_pos True.intro]
  · rw [if_neg (by omega), if_neg (by omega), if_pos True.intro]
  · rw [if_neg (by omega), if_pos True.intro]
  · rw [if_pos True.intro]
/-- make([]T, n): an equation for every world. -/
theorem make_rows {P : Program} (t e : TypeId) (z : Value) (size bytes : Nat) (ht : P.underlying t = some (.slice e)) (hinfo : (P.info? e).map (fun i => (i.zero, i.size, i.bytes)) = some (some z, size, bytes))
    (kl kc : IntKind) (n : Nat) (hbytes : bytes * n ≤ 281474976710656) (h63 : n ≤ 9223372036854775807) (w : World) :
    (Instr.makeSlice t (.int kl (n : Int)) (.int kc (n : Int))).run P w = .ok (.slice (some ⟨w.heap.size, 0, none⟩) n n) (w.alloc (.cells (madeCells z.cells (n * size)) e)) := by
  obtain ⟨i, hi, hzz⟩ := Option.map_eq_some_iff.1 hinfo
  simp only [Prod.mk.injEq] at hzz
  obtain ⟨hz, hs, hb⟩ := hzz
  subst hs hb
  have hb' : (i.bytes : Int) * (n : Int) ≤ 281474976710656 := by
    have h : ((i.bytes * n : Nat) : Int) ≤ 281474976710656 := by omega
    rwa [Int.natCast_mul] at h
  have hr := run_make (P := P) w t e i z ht hi hz kl kc n n (by omega) (Int.le_refl _) hb' (by omega)
  simp only [Int.toNat_natCast] at hr
  exact hr
theorem Tab.drewN (t : Tab w b T n f) (k : Nat) : Tab (w.drewN k) b T n f := t
end
end Go.Proofs.YtapdpdhibpblgaaGreatDoor.Aid
end

-- joined
section
namespace Go.Proofs.YtapdpdhibpblgaaGreatDoor.Sl
open Go.ChangeShapes Go.WideShapes Go.ChangeAt Go.RowKit Go.PlainAid Aid Mn
set_option linter.unusedVariables false
set_option linter.unusedSimpArgs false

/-! Pages. -/
structure Pg where
  now : ByteArray
  safe : ByteArray
  fresh : Bool
def Pg.cell (p : Pg) (j : Nat) : Value := if j = 0 then .string p.now else if j = 1 then .string p.safe else .bool p.fresh
def Pg.none : Pg := ⟨⟨#[]⟩, ⟨#[]⟩, false⟩
def Pg.write (p : Pg) (s : ByteArray) : Pg := ⟨s, p.safe, true⟩
def Pg.secure (p : Pg) : Pg := ⟨p.now, p.now, false⟩
/-- The function P, other at i. -/
def upd {α : Type} (P : Nat → α) (i : Nat) (x : α) : Nat → α := fun k => if k = i then x else P k
theorem upd_same {α : Type} (P : Nat → α) (i : Nat) (x : α) : upd P i x i = x := if_pos rfl
theorem upd_other {α : Type} (P : Nat → α) (i k : Nat) (x : α) (h : k ≠ i) : upd P i x k = P k := if_neg h
def Pgs (w : World) (b n : Nat) (P : Nat → Pg) : Prop := Tab w b 161 (n * 3) (fun k => (P (k / 3)).cell (k % 3))
section
variable {w w' : World} {b n : Nat} {P Q : Nat → Pg}
theorem Pgs.cell (h : Pgs w b n P) {i : Nat} (hi : i < n) : w.cell? ⟨b, i * 3, Option.none⟩ = some (.string (P i).now) ∧ w.cell? ⟨b, i * 3 + 1, Option.none⟩ = some (.string (P i).safe) ∧ w.cell? ⟨b, i * 3 + 2, Option.none⟩ = some (.bool (P i).fresh) := by
  refine ⟨?_, ?_, ?_⟩
  · rw [Tab.cell h (by omega)]; simp only [Pg.cell, show i * 3 / 3 = i by omega, show i * 3 % 3 = 0 by omega, if_true]
  · rw [Tab.cell h (by omega)]; simp only [Pg.cell, show (i * 3 + 1) / 3 = i by omega, show (i * 3 + 1) % 3 = 1 by omega]; rfl
  · rw [Tab.cell h (by omega)]; simp only [Pg.cell, show (i * 3 + 2) / 3 = i by omega, show (i * 3 + 2) % 3 = 2 by omega]; rfl
theorem Pgs.congr (h : Pgs w b n P) (e : ∀ i, i < n → P i = Q i) : Pgs w b n Q := Tab.congr h (fun k hk => by rw [e (k / 3) (by omega)])
theorem Pgs.set (h : Pgs w b n P) (i j : Nat) (hj : j < 3) (p : Pg) (v : Value) (e : ∀ k, k < 3 → p.cell k = if k = j then v else (P i).cell k) : Pgs (w.setCell ⟨b, i * 3 + j, Option.none⟩ v) b n (upd P i p) := by
  refine Tab.set' h _ _ (fun k hk => ?_)
  by_cases hi : k / 3 = i
  · have hk' : (k = i * 3 + j) ↔ k % 3 = j := by omega
    simp only [hk', hi, upd_same]
    rw [e (k % 3) (by omega)]
  · have hk' : ¬ (k = i * 3 + j) := by omega
    rw [if_neg hk', upd_other _ _ _ _ hi]
theorem Pgs.keep {S : Nat → Prop} (h : Pgs w b n P) (hb : Chg S w w') (hs : ¬ S b) : Pgs w' b n P := Tab.keep h hb hs
theorem Pgs.lt (h : Pgs w b n P) : b < w.heap.size := Tab.lt h
end
/-- A disk that lies in block g, on the power in block m, its pages in block b. -/
structure Dk (w : World) (g m b n : Nat) (P : Nat → Pg) (q : Pw) : Prop where
  disk : Blk w g 134 #[.pointer (some ⟨m, 0, Option.none⟩), .slice (some ⟨b, 0, Option.none⟩) n n]
  pages : Pgs w b n P
  power : Mn w m q
  small : n ≤ 256
  gm : g ≠ m
  gb : g ≠ b
  mb : m ≠ b
/-- The blocks of a disk that its calls change. -/
def DS (m b : Nat) : Nat → Prop := fun k => k = m ∨ k = b
theorem Dk.keep {S : Nat → Prop} {w w' : World} {g m b n : Nat} {P : Nat → Pg} {q : Pw} (h : Dk w g m b n P q) (hb : Chg S w w') (h1 : ¬ S g) (h2 : ¬ S m) (h3 : ¬ S b) : Dk w' g m b n P q :=
  ⟨h.disk.keep hb h1, h.pages.keep hb h3, h.power.keep hb h2, h.small, h.gm, h.gb, h.mb⟩
theorem Dk.below {w w' : World} {g m b n : Nat} {P : Nat → Pg} {q : Pw} (h : Dk w g m b n P q) (hb : Below w.heap.size w w') : Dk w' g m b n P q :=
  h.keep (S := fun _ => False) (Chg.of_below hb) id id id
theorem Dk.facts {w : World} {g m b n : Nat} {P : Nat → Pg} {q : Pw} (h : Dk w g m b n P q) : w.cell? ⟨g, 0, Option.none⟩ = some (.pointer (some ⟨m, 0, Option.none⟩)) ∧ w.cell? ⟨g, 1, Option.none⟩ = some (.slice (some ⟨b, 0, Option.none⟩) n n) := ⟨h.disk.cell 0, h.disk.cell 1⟩
/-- The power is used, or goes. -/
theorem Dk.pow {w w' : World} {g m b n : Nat} {P : Nat → Pg} {q q' : Pw} (h : Dk w g m b n P q) (hp : Mn w' m q') (hb : Chg (· = m) w w') : Dk w' g m b n P q' :=
  ⟨h.disk.keep hb h.gm, h.pages.keep hb (fun e => h.mb e.symm), hp, h.small, h.gm, h.gb, h.mb⟩

theorem contentInfo : (Tryz.prog.info? 161).map (fun i => (i.zero, i.size, i.bytes)) = some (some (.agg #[.string ⟨#[]⟩, .string ⟨#[]⟩, .bool false]), 3, 40) := by kernel_rfl

/-- The nearest number of pages. -/
def near (n : Int) : Nat := (min (max n 0) 256).toNat
theorem near_le (n : Int) : near n ≤ 256 := by unfold near; omega
set_option maxHeartbeats 400000 in
theorem New_any (m : Nat) (n : Int) (q : Pw) (w : World) (h : Mn w m q) :
    Calls Tryz.prog 24 #[.pointer (some ⟨m, 0, Option.none⟩), .int .i64 n] w fun e w' => e = .returned (.pointer (some ⟨w.heap.size + 1, 0, Option.none⟩)) ∧ Dk w' (w.heap.size + 1) m w.heap.size (near n) (fun _ => Pg.none) q ∧ Below w.heap.size w w' := by
  have hn := near_le n
  have e1 : min (max n 0) 256 = (near n : Int) := by unfold near; omega
  have hmk := make_rows (P := Tryz.prog) 132 161 _ _ _ Tryz.underlying132 contentInfo .i64 .i64 (near n) (by omega) (by omega)
  have H := Lib.hid h
  clear h
  generalize near n = k at *
  go_enter Tryz.func24, Tryz.ntmps24
  go_wp2_with fail
  go_returns
  have hlt := H.out.lt
  have t0 := Tab.made w #[.string ⟨#[]⟩, .string ⟨#[]⟩, .bool false] (k * 3) 161
  have b1 : Below w.heap.size w (w.alloc (.cells (madeCells #[.string ⟨#[]⟩, .string ⟨#[]⟩, .bool false] (k * 3)) 161)) := blA (Below.refl _ _) _
  have b2 : Below w.heap.size w ((w.alloc (.cells (madeCells #[.string ⟨#[]⟩, .string ⟨#[]⟩, .bool false] (k * 3)) 161)).alloc (.cells #[.pointer (some ⟨m, 0, Option.none⟩), .slice (some ⟨w.heap.size, 0, Option.none⟩) k k] 134)) := blA b1 _
  refine ⟨rfl, ⟨Blk.new' _ _ _ _ (by simp), ?_, H.out.keep (S := fun _ => False) (Chg.of_below b2) id, hn, by omega, by omega, by omega⟩, b2⟩
  refine Tab.keepB (t0.congr fun j hj => ?_) (blA (Below.refl _ _) _)
  have : j % 3 = 0 ∨ j % 3 = 1 ∨ j % 3 = 2 := by omega
  rcases this with h | h | h <;> simp [Pg.cell, Pg.none, h]

def hasB (n : Nat) (i : Int) : Bool := decide (0 ≤ i) && decide (i < n)
theorem has_yes (g m b n : Nat) (P : Nat → Pg) (q : Pw) (i : Nat) (w : World) (h : Dk w g m b n P q) (hi : i < n) :
    Calls Tryz.prog 89 #[.pointer (some ⟨g, 0, Option.none⟩), .int .i64 i] w fun e w' => e = .returned (.bool true) ∧ w = w' := by
  obtain ⟨c0, c1⟩ := h.facts
  clear h
  go_enter Tryz.func89, Tryz.ntmps89
  go_wp2_with fail
  go_returns
  exact ⟨rfl, rfl⟩
theorem has_no (g m b n : Nat) (P : Nat → Pg) (q : Pw) (i : Int) (w : World) (h : Dk w g m b n P q) (hi : i < 0 ∨ (n : Int) ≤ i) :
    Calls Tryz.prog 89 #[.pointer (some ⟨g, 0, Option.none⟩), .int .i64 i] w fun e w' => e = .returned (.bool false) ∧ w = w' := by
  obtain ⟨c0, c1⟩ := h.facts
  clear h
  by_cases h0 : 0 ≤ i
  · have h1 : decide (i < (n : Int)) = false := by simpa using (by omega : (n : Int) ≤ i)
    clear hi
    go_enter Tryz.func89, Tryz.ntmps89
    go_wp2_with fail
    go_returns
    exact ⟨rfl, rfl⟩
  · have h1 : decide (0 ≤ i) = false := by simpa using h0
    clear hi h0
    go_enter Tryz.func89, Tryz.ntmps89
    go_wp2_with fail
    go_returns
    exact ⟨rfl, rfl⟩
end Go.Proofs.YtapdpdhibpblgaaGreatDoor.Sl
end

-- joined
section
namespace Go.Proofs.YtapdpdhibpblgaaGreatDoor.Sl
open Go.ChangeShapes Go.WideShapes Go.ChangeAt Go.RowKit Go.PlainAid Aid Mn
set_option linter.unusedVariables false
set_option linter.unusedSimpArgs false

theorem Clone_any (s : ByteArray) (w : World) (hs : s.size ≤ 281474976710656) :
    Calls Tryz.prog 122 #[.string s] w fun e w' => e = .returned (.string s) ∧ Below w.heap.size w w' := by
  go_enter Tryz.func122, Tryz.ntmps122
  go_wp2_with fail
  refine (Tryz.stringslite_Clone s _ hs).mono ?_
  rintro e w1 ⟨rfl, hb1⟩
  go_wp2_with fail
  go_returns
  exact ⟨rfl, hb1⟩

theorem Len_any (g m b n : Nat) (P : Nat → Pg) (q : Pw) (w : World) (h : Dk w g m b n P q) :
    Calls Tryz.prog 71 #[.pointer (some ⟨g, 0, Option.none⟩)] w fun e w' => e = .returned (.int .i64 n) ∧ w = w' := by
  obtain ⟨c0, c1⟩ := h.facts
  clear h
  go_enter Tryz.func71, Tryz.ntmps71
  go_wp2_with fail
  go_returns
  exact ⟨rfl, rfl⟩

set_option maxHeartbeats 400000 in
theorem secure_any (b n i : Nat) (P : Nat → Pg) (w : World) (h : Pgs w b n P) (hi : i < n) :
    Calls Tryz.prog 82 #[.pointer (some ⟨b, i * 3, Option.none⟩)] w fun e w' => e = .returned (.tuple #[]) ∧ Pgs w' b n (upd P i (P i).secure) ∧ Chg (· = b) w w' := by
  obtain ⟨c0, c1, c2⟩ := h.cell hi
  have f0 : w.frozen? ⟨b, i * 3, Option.none⟩ = false := Tab.free h _
  have f1 : w.frozen? ⟨b, i * 3 + 1, Option.none⟩ = false := Tab.free h _
  have f2 : w.frozen? ⟨b, i * 3 + 2, Option.none⟩ = false := Tab.free h _
  have H := Lib.hid h
  clear h
  go_enter Tryz.func82, Tryz.ntmps82
  go_wp2_with fail
  go_returns
  refine ⟨rfl, ?_, ((Chg.refl _ _).set1 _ _).set1 _ _⟩
  have h1 := H.out.set i 1 (by omega) ⟨(P i).now, (P i).now, (P i).fresh⟩ (.string (P i).now) (by intro k hk; rcases (show k = 0 ∨ k = 1 ∨ k = 2 by omega) with rfl | rfl | rfl <;> rfl)
  have h2 := h1.set i 2 (by omega) (P i).secure (.bool false) (by intro k hk; rw [upd_same]; rcases (show k = 0 ∨ k = 1 ∨ k = 2 by omega) with rfl | rfl | rfl <;> rfl)
  exact h2.congr (fun k _ => by by_cases hk : k = i <;> simp [upd, hk])

set_option maxHeartbeats 400000 in
theorem Read_no (g m b n : Nat) (P : Nat → Pg) (q : Pw) (i : Int) (w : World) (h : Dk w g m b n P q) (hi : i < 0 ∨ (n : Int) ≤ i) :
    Calls Tryz.prog 51 #[.pointer (some ⟨g, 0, Option.none⟩), .int .i64 i] w fun e w' => e = .returned (.tuple #[.string ⟨#[]⟩, .int .i64 1]) ∧ w = w' := by
  have hn := Lib.hid (has_no g m b n P q i w h hi)
  clear h hi
  go_enter Tryz.func51, Tryz.ntmps51
  go_wp2_with fail
  refine hn.out.mono ?_
  rintro e w' ⟨rfl, rfl⟩
  go_wp2_with fail
  go_returns
  exact ⟨rfl, rfl⟩
def Pw.down (q : Pw) : Int := if q.on then 0 else 4
def readV (q : Pw) (s : ByteArray) : Value := if q.on then .tuple #[.string s, .int .i64 0] else .tuple #[.string ⟨#[]⟩, .int .i64 4]
set_option maxHeartbeats 400000 in
theorem Read_yes (g m b n : Nat) (P : Nat → Pg) (q : Pw) (i : Nat) (w : World) (h : Dk w g m b n P q) (hi : i < n) :
    Calls Tryz.prog 51 #[.pointer (some ⟨g, 0, Option.none⟩), .int .i64 i] w fun e w' => e = .returned (readV q (P i).now) ∧ w = w' := by
  have hn := Lib.hid (has_yes g m b n P q i w h hi)
  obtain ⟨c0, c1⟩ := h.facts
  have ho := Lib.hid (IsOn_any m q w h.power)
  obtain ⟨d0, -, -⟩ := h.pages.cell hi
  have hs := h.small
  unfold readV
  clear h
  cases hq : q.on <;> rw [hq] at ho
  all_goals
    clear hq
    go_enter Tryz.func51, Tryz.ntmps51
    go_wp2_with fail
    refine hn.out.mono ?_
    rintro e w' ⟨rfl, rfl⟩
    go_wp2_with fail
    refine ho.out.mono ?_
    rintro e w' ⟨rfl, rfl⟩
    go_wp2_with fail
    go_returns
    exact ⟨rfl, rfl⟩

theorem ans_cases (q : Pw) : q.ans = 0 ∨ q.ans = 4 := by unfold Pw.ans; split; · exact Or.inr rfl
                                                         split; · exact Or.inr rfl
                                                         exact Or.inl rfl
def wrongW (n : Nat) (i : Int) (s : ByteArray) : Prop := i < 0 ∨ (n : Int) ≤ i ∨ s.size ≠ 256
set_option maxHeartbeats 400000 in
theorem Write_arg (g m b n : Nat) (P : Nat → Pg) (q : Pw) (i : Int) (s : ByteArray) (w : World) (h : Dk w g m b n P q) (hi : wrongW n i s) :
    Calls Tryz.prog 81 #[.pointer (some ⟨g, 0, Option.none⟩), .int .i64 i, .string s] w fun e w' => e = .returned (.int .i64 1) ∧ w = w' := by
  by_cases hb : i < 0 ∨ (n : Int) ≤ i
  · have hn := Lib.hid (has_no g m b n P q i w h hb)
    clear h hi hb
    go_enter Tryz.func81, Tryz.ntmps81
    go_wp2_with fail
    refine hn.out.mono ?_
    rintro e w' ⟨rfl, rfl⟩
    go_wp2_with fail
    go_returns
    exact ⟨rfl, rfl⟩
  · have hs : ¬ s.size = 256 := by rcases hi with hi | hi | hi; · omega
                                   · omega
                                   · exact hi
    obtain ⟨k, rfl⟩ : ∃ k : Nat, i = k := ⟨i.toNat, by omega⟩
    have hn := Lib.hid (has_yes g m b n P q k w h (by omega))
    have hs1 : ((s.size : Int) == 256) = false := by simpa using (by omega : ¬ (s.size : Int) = 256)
    clear h hi hb hs
    go_enter Tryz.func81, Tryz.ntmps81
    go_wp2_with fail
    refine hn.out.mono ?_
    rintro e w' ⟨rfl, rfl⟩
    go_wp2_with fail
    go_returns
    exact ⟨rfl, rfl⟩
set_option maxHeartbeats 400000 in
theorem Write_down (g m b n : Nat) (P : Nat → Pg) (q : Pw) (i : Nat) (s : ByteArray) (w : World) (h : Dk w g m b n P q) (hi : i < n) (hs : s.size = 256) (hq : q.ans = 4) :
    Calls Tryz.prog 81 #[.pointer (some ⟨g, 0, Option.none⟩), .int .i64 i, .string s] w fun e w' => e = .returned (.int .i64 4) ∧ Dk w' g m b n P q.use ∧ Chg (DS m b) w w' := by
  have hn := Lib.hid (has_yes g m b n P q i w h hi)
  have hu := Lib.hid (Use_as m q w h.power 4 _ hq rfl)
  obtain ⟨c0, c1⟩ := h.facts
  have hs1 : (s.size : Int) = 256 := by omega
  have H := Lib.hid h
  clear h hs hq
  go_enter Tryz.func81, Tryz.ntmps81
  go_wp2_with fail
  refine hn.out.mono ?_
  rintro e w' ⟨rfl, rfl⟩
  go_wp2_with fail
  refine hu.out.mono ?_
  rintro e w1 ⟨rfl, hm1, hb1⟩
  go_wp2_with fail
  go_returns
  exact ⟨rfl, H.out.pow hm1 hb1, hb1.mono (fun _ _ e => Or.inl e)⟩
set_option maxHeartbeats 400000 in
theorem Write_ok (g m b n : Nat) (P : Nat → Pg) (q : Pw) (i : Nat) (s : ByteArray) (w : World) (h : Dk w g m b n P q) (hi : i < n) (hs : s.size = 256) (hq : q.ans = 0) :
    Calls Tryz.prog 81 #[.pointer (some ⟨g, 0, Option.none⟩), .int .i64 i, .string s] w fun e w' => e = .returned (.int .i64 0) ∧ Dk w' g m b n (upd P i ((P i).write s)) q.use ∧ Chg (DS m b) w w' := by
  have hn := Lib.hid (has_yes g m b n P q i w h hi)
  have hu := Lib.hid (Use_as m q w h.power 0 _ hq rfl)
  obtain ⟨c0, c1⟩ := h.facts
  have hs1 : (s.size : Int) = 256 := by omega
  have HS := Lib.hid hs
  have hsm := h.small
  have H := Lib.hid h
  clear h hs hq
  go_enter Tryz.func81, Tryz.ntmps81
  go_wp2_with fail
  refine hn.out.mono ?_
  rintro e w' ⟨rfl, rfl⟩
  go_wp2_with fail
  refine hu.out.mono ?_
  rintro e w1 ⟨rfl, hm1, hb1⟩
  have H1 := Lib.hid (H.out.pow hm1 hb1)
  have B1 : Hid (Chg (DS m b) w w1) := hb1.mono (fun _ _ e => Or.inl e)
  obtain ⟨c2, c3⟩ := H1.out.facts
  clear hm1 hb1 c0 c1 H
  go_wp2_with fail
  refine (Clone_any s _ (by rw [HS.out]; omega)).mono ?_
  rintro e w2 ⟨rfl, hb2⟩
  have H2 := Lib.hid (H1.out.below hb2)
  have B2 : Hid (Chg (DS m b) w w2) := B1.out.trans (T := fun _ => False) (Chg.of_below hb2) (fun _ _ f => f.elim)
  obtain ⟨d0, d1, d2⟩ := H2.out.pages.cell hi
  have f0 : w2.frozen? ⟨b, i * 3, Option.none⟩ = false := Tab.free H2.out.pages _
  have f2 : w2.frozen? ⟨b, i * 3 + 2, Option.none⟩ = false := Tab.free H2.out.pages _
  clear hb2 H1 B1 c2 c3
  go_wp2_with fail
  go_returns
  have h1 := H2.out.pages.set i 0 (by omega) ⟨s, (P i).safe, (P i).fresh⟩ (.string s) (by intro k hk; rcases (show k = 0 ∨ k = 1 ∨ k = 2 by omega) with rfl | rfl | rfl <;> rfl)
  have h2 := h1.set i 2 (by omega) ((P i).write s) (.bool true) (by intro k hk; rw [upd_same]; rcases (show k = 0 ∨ k = 1 ∨ k = 2 by omega) with rfl | rfl | rfl <;> rfl)
  have h3 := h2.congr (Q := upd P i ((P i).write s)) (fun k _ => by by_cases hk : k = i <;> simp [upd, hk])
  have hc : Chg (· = b) w2 ((w2.setCell ⟨b, i * 3, Option.none⟩ (.string s)).setCell ⟨b, i * 3 + 2, Option.none⟩ (.bool true)) := ((Chg.refl _ _).set1 _ _).set1 _ _
  exact ⟨rfl, ⟨H2.out.disk.keep hc H2.out.gb, h3, H2.out.power.keep hc H2.out.mb, H2.out.small, H2.out.gm, H2.out.gb, H2.out.mb⟩, B2.out.trans hc (fun _ _ e => Or.inr e)⟩

set_option maxHeartbeats 400000 in
theorem Sync_down (g m b n : Nat) (P : Nat → Pg) (q : Pw) (w : World) (h : Dk w g m b n P q) (hq : q.ans = 4) :
    Calls Tryz.prog 43 #[.pointer (some ⟨g, 0, Option.none⟩)] w fun e w' => e = .returned (.int .i64 4) ∧ Dk w' g m b n P q.use ∧ Chg (DS m b) w w' := by
  have hu := Lib.hid (Use_as m q w h.power 4 _ hq rfl)
  obtain ⟨c0, c1⟩ := h.facts
  have H := Lib.hid h
  clear h hq
  go_enter Tryz.func43, Tryz.ntmps43
  go_wp2_with fail
  refine hu.out.mono ?_
  rintro e w1 ⟨rfl, hm1, hb1⟩
  go_wp2_with fail
  go_returns
  exact ⟨rfl, H.out.pow hm1 hb1, hb1.mono (fun _ _ e => Or.inl e)⟩
/-- The first k pages are safe. -/
def secured (P : Nat → Pg) (k : Nat) : Nat → Pg := fun i => if i < k then (P i).secure else P i
set_option maxHeartbeats 400000 in
theorem Sync_ok (g m b n : Nat) (P : Nat → Pg) (q : Pw) (w : World) (h : Dk w g m b n P q) (hq : q.ans = 0) :
    Calls Tryz.prog 43 #[.pointer (some ⟨g, 0, Option.none⟩)] w fun e w' => e = .returned (.int .i64 0) ∧ Dk w' g m b n (fun i => (P i).secure) q.use ∧ Chg (DS m b) w w' := by
  have hu := Lib.hid (Use_as m q w h.power 0 _ hq rfl)
  obtain ⟨c0, c1⟩ := h.facts
  have H := Lib.hid h
  have hsm := h.small
  clear h hq
  go_enter Tryz.func43, Tryz.ntmps43
  go_wp2_with fail
  refine hu.out.mono ?_
  rintro e w1 ⟨rfl, hm1, hb1⟩
  have H1 := Lib.hid (H.out.pow hm1 hb1)
  have B1 : Hid (Chg (DS m b) w w1) := hb1.mono (fun _ _ e => Or.inl e)
  obtain ⟨c2, c3⟩ := H1.out.facts
  clear hm1 hb1 c0 c1 H
  go_wp2_with fail
  go_loopw [20] (fun i wr => ∃ k : Nat, k ≤ n ∧ i = .int .i64 k ∧ Hid (Dk wr g m b n (secured P k) q.use) ∧ Hid (Chg (DS m b) w wr)) (fun i _ => n - (intOf i).toNat)
  case atStart => exact ⟨0, Nat.zero_le _, rfl, H1, B1⟩
  case round =>
    clear H1 B1 c2 c3
    obtain ⟨k, hk, rfl, hD, hB⟩ := hrel
    by_cases hlt : k < n
    · obtain ⟨c2, c3⟩ := hD.out.facts
      go_wp2_with fail
      refine (secure_any b n k _ _ hD.out.pages hlt).mono ?_
      rintro e w2 ⟨rfl, hp2, hb2⟩
      have D2 : Hid (Dk w2 g m b n (secured P (k + 1)) q.use) := ⟨hD.out.disk.keep hb2 hD.out.gb, hp2.congr (fun i _ => by
        by_cases hi : i = k
        · subst hi; simp [upd, secured]
        · simp only [upd, if_neg hi, secured]; by_cases h1 : i < k <;> simp [h1, show (i < k + 1) ↔ (i < k) by omega]), hD.out.power.keep hb2 hD.out.mb, hD.out.small, hD.out.gm, hD.out.gb, hD.out.mb⟩
      have B2 : Hid (Chg (DS m b) w w2) := hB.out.trans hb2 (fun _ _ e => Or.inr e)
      clear hp2 hb2 hD hB c2 c3
      go_wp2_with fail
      go_roundw
      case rel => exact ⟨k + 1, by omega, by go_num, D2, B2⟩
      case measure => simp [intOf]; omega
    · obtain rfl : n = k := by omega
      go_wp2_with fail
      go_returns
      have D := hD.out
      exact ⟨rfl, ⟨D.disk, D.pages.congr (fun i hi => by simp [secured, hi]), D.power, D.small, D.gm, D.gb, D.mb⟩, hB.out⟩
end Go.Proofs.YtapdpdhibpblgaaGreatDoor.Sl
end
