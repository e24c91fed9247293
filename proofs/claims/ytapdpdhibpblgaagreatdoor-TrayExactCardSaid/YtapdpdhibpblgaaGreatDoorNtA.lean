/- Records in memory; which can be. -/
import Derived.Test.YtapdpdhibpblgaaGreatDoorNtP
import Derived.Test.YtapdpdhibpblgaaGreatDoorSep
import Derived.Test.YtapdpdhibpblgaaGreatDoorCrC
namespace Go.Proofs.YtapdpdhibpblgaaGreatDoor.Nt
open Go.ChangeShapes Go.WideShapes Go.ChangeAt Go.RowKit Go.PlainAid Aid Cr
set_option linter.unusedVariables false
set_option linter.unusedSimpArgs false

/-- A row of things of two cells each. -/
def Row2 {α : Type} (f : α → Value × Value) (w : World) (v : Value) (l : List α) : Prop :=
  ∃ A c, v = .slice A l.length c ∧ l.length ≤ maxLen ∧ (l = [] ∨ ∃ b o, A = some ⟨b, o, none⟩ ∧ b < w.heap.size ∧ ∀ (k : Nat) (x : α), l[k]? = some x → w.cell? ⟨b, o + k * 2, none⟩ = some (f x).1 ∧ w.cell? ⟨b, o + k * 2 + 1, none⟩ = some (f x).2)
def fImg (x : Int × By) : Value × Value := (.int .i64 x.1, .string (ofL x.2))
def fNum (x : Int × Int) : Value × Value := (.int .i64 x.1, .int .i64 x.2)
theorem Row2.keep {α : Type} {f : α → Value × Value} {w w' : World} {v : Value} {l : List α} (h : Row2 f w v l) (hb : Below w.heap.size w w') : Row2 f w' v l := by
  obtain ⟨A, c, hv, hm, h⟩ := h
  refine ⟨A, c, hv, hm, h.imp_right fun ⟨b, o, hA, hl, hc⟩ => ⟨b, o, hA, by have := hb.size; omega, fun k x hx => ?_⟩⟩
  rw [(bcell hb).1 _ _ hl, (bcell hb).1 _ _ hl]
  exact hc k x hx
theorem Row2.nil {α : Type} (f : α → Value × Value) (w : World) : Row2 f w (.slice none 0 0) [] := ⟨none, 0, rfl, Nat.zero_le _, Or.inl rfl⟩
theorem Row2.at {α : Type} {f : α → Value × Value} {w : World} {A : Option Addr} {m c : Nat} {l : List α} (h : Row2 f w (.slice A m c) l) {k : Nat} {x : α} (hx : l[k]? = some x) :
    ∃ b o, A = some ⟨b, o, none⟩ ∧ b < w.heap.size ∧ w.cell? ⟨b, o + k * 2, none⟩ = some (f x).1 ∧ w.cell? ⟨b, o + k * 2 + 1, none⟩ = some (f x).2 := by
  obtain ⟨A', c', hv, hm, h⟩ := h
  cases hv
  rcases h with rfl | ⟨b, o, rfl, hl, hc⟩
  · cases hx
  · exact ⟨b, o, rfl, hl, hc k x hx⟩
theorem Row2.len {α : Type} {f : α → Value × Value} {w : World} {A : Option Addr} {m c : Nat} {l : List α} (h : Row2 f w (.slice A m c) l) : m = l.length ∧ m ≤ maxLen := by
  obtain ⟨A', c', hv, hm, h⟩ := h
  cases hv
  exact ⟨rfl, hm⟩
theorem Row2.slice {α : Type} {f : α → Value × Value} {w : World} {v : Value} {l : List α} (h : Row2 f w v l) : ∃ A c, v = .slice A l.length c := by
  obtain ⟨A, c, hv, -⟩ := h; exact ⟨A, c, hv⟩

def undV (u : Und) : Value := .agg #[.int .i64 u.kind, .int .i64 u.tree, .string (ofL u.key), .string (ofL u.val)]
def recCells (r : Rec) (p o d : Value) : Array Value := #[.int .i64 r.kind, .int .i64 r.deal, .int .i64 r.prev, .int .i64 r.next, p, .int .i64 r.und.kind, .int .i64 r.und.tree, .string (ofL r.und.key), .string (ofL r.und.val), o, d]
/-- The value v is the record r. -/
def RecAt (w : World) (v : Value) (r : Rec) : Prop := ∃ p o d, v = .agg (recCells r p o d) ∧ Row2 fImg w p r.pages ∧ Row2 fNum w o r.opn ∧ Row2 fNum w d r.dty
theorem RecAt.keep {w w' : World} {v : Value} {r : Rec} (h : RecAt w v r) (hb : Below w.heap.size w w') : RecAt w' v r := by
  obtain ⟨p, o, d, hv, h1, h2, h3⟩ := h
  exact ⟨p, o, d, hv, h1.keep hb, h2.keep hb, h3.keep hb⟩

/-! The parts. -/
set_option maxHeartbeats 400000 in
theorem within_any (n lo hi : Int) (w : World) :
    Calls Tryz.prog 98 #[.int .i64 n, .int .i64 lo, .int .i64 hi] w fun e w' => e = .returned (.bool (decide (lo ≤ n) && decide (n ≤ hi))) ∧ w' = w := by
  by_cases h : lo ≤ n
  · go_enter Tryz.func98, Tryz.ntmps98
    go_wp2_with fail
    go_returns
    simp [h]
  · go_enter Tryz.func98, Tryz.ntmps98
    go_wp2_with fail
    go_returns
    simp [h]
    omega
set_option maxHeartbeats 400000 in
theorem isNumber_any (n : Int) (w : World) :
    Calls Tryz.prog 99 #[.int .i64 n] w fun e w' => e = .returned (.bool (inN n 2147483647)) ∧ w' = w := by
  go_enter Tryz.func99, Tryz.ntmps99
  go_wp2_with fail
  refine (within_any _ _ _ _).mono ?_
  rintro e w' ⟨rfl, rfl⟩
  go_wp2_with fail
  go_returns
  exact ⟨rfl, rfl⟩
set_option maxHeartbeats 400000 in
theorem isPage_any (n : Int) (w : World) :
    Calls Tryz.prog 132 #[.int .i64 n] w fun e w' => e = .returned (.bool (inN n 255)) ∧ w' = w := by
  go_enter Tryz.func132, Tryz.ntmps132
  go_wp2_with fail
  refine (within_any _ _ _ _).mono ?_
  rintro e w' ⟨rfl, rfl⟩
  go_wp2_with fail
  go_returns
  exact ⟨rfl, rfl⟩
set_option maxHeartbeats 1000000 in
theorem goodUndo_any (u : Und) (w : World) :
    Calls Tryz.prog 100 #[undV u] w fun e w' => e = .returned (.bool (gUnd u)) ∧ Below w.heap.size w w' := by
  obtain ⟨k, t, a, b⟩ := u
  have hg : gUnd ⟨k, t, a, b⟩ = ((decide (0 ≤ k) && decide (k ≤ 4)) && (decide (0 ≤ t) && decide (t ≤ 255)) && decide ((ofL a).size ≤ 255) && decide ((ofL b).size ≤ 255)) := rfl
  rw [hg]
  unfold undV
  have hb : Hid (Below w.heap.size w (w.alloc (.cells #[.int .i64 k, .int .i64 t, .string (ofL a), .string (ofL b)] 46))) := Lib.hid (blA (Below.refl _ _) _)
  generalize ofL a = a at *
  generalize ofL b = b at *
  have e1 := fun w => within_any k 0 4 w
  have e2 := fun w => within_any t 0 255 w
  generalize (decide (0 ≤ k) && decide (k ≤ 4)) = b1 at *
  generalize (decide (0 ≤ t) && decide (t ≤ 255)) = b2 at *
  go_enter Tryz.func100, Tryz.ntmps100
  go_wp2_with fail
  refine (e1 _).mono ?_
  rintro e w' ⟨rfl, rfl⟩
  cases b1
  · go_wp2_with fail
    go_returns
    exact ⟨rfl, hb.out⟩
  go_wp2_with fail
  refine (e2 _).mono ?_
  rintro e w' ⟨rfl, rfl⟩
  cases b2
  · go_wp2_with fail
    go_returns
    exact ⟨rfl, hb.out⟩
  by_cases h3 : a.size ≤ 255
  · by_cases h4 : b.size ≤ 255
    all_goals
      go_wp2_with fail
      go_returns
      exact ⟨by simp [h3, h4] <;> omega, hb.out⟩
  · go_wp2_with fail
    go_returns
    exact ⟨by simp [h3], hb.out⟩
set_option maxHeartbeats 1000000 in
theorem goodImage_any (x : Int × By) (w : World) :
    Calls Tryz.prog 102 #[.agg #[(fImg x).1, (fImg x).2]] w fun e w' => e = .returned (.bool (gImg x)) ∧ Below w.heap.size w w' := by
  obtain ⟨a, b⟩ := x
  have hg : gImg ⟨a, b⟩ = (inN a 255 && decide ((ofL b).size = 256)) := rfl
  rw [hg]
  unfold fImg
  dsimp only
  have hb : Hid (Below w.heap.size w (w.alloc (.cells #[.int .i64 a, .string (ofL b)] 181))) := Lib.hid (blA (Below.refl _ _) _)
  generalize ofL b = b at *
  have e1 := fun w => isPage_any a w
  generalize inN a 255 = b1 at *
  go_enter Tryz.func102, Tryz.ntmps102
  go_wp2_with fail
  refine (e1 _).mono ?_
  rintro e w' ⟨rfl, rfl⟩
  cases b1
  · go_wp2_with fail
    go_returns
    exact ⟨rfl, hb.out⟩
  by_cases h3 : b.size = 256
  all_goals
    go_wp2_with fail
    go_returns
    exact ⟨by simp [h3] <;> omega, hb.out⟩
set_option maxHeartbeats 1000000 in
theorem goodOpen_any (x : Int × Int) (w : World) :
    Calls Tryz.prog 104 #[.agg #[(fNum x).1, (fNum x).2]] w fun e w' => e = .returned (.bool (gOpn x)) ∧ Below w.heap.size w w' := by
  obtain ⟨a, b⟩ := x
  have hg : gOpn ⟨a, b⟩ = (inN a 2147483647 && inN b 2147483647) := rfl
  rw [hg]
  unfold fNum
  dsimp only
  have hb : Hid (Below w.heap.size w (w.alloc (.cells #[.int .i64 a, .int .i64 b] 185))) := Lib.hid (blA (Below.refl _ _) _)
  have e1 := fun w => isNumber_any a w
  have e2 := fun w => isNumber_any b w
  generalize inN a 2147483647 = b1 at *
  generalize inN b 2147483647 = b2 at *
  go_enter Tryz.func104, Tryz.ntmps104
  go_wp2_with fail
  refine (e1 _).mono ?_
  rintro e w' ⟨rfl, rfl⟩
  cases b1
  · go_wp2_with fail
    go_returns
    exact ⟨rfl, hb.out⟩
  go_wp2_with fail
  refine (e2 _).mono ?_
  rintro e w' ⟨rfl, rfl⟩
  go_wp2_with fail
  go_returns
  exact ⟨rfl, hb.out⟩
set_option maxHeartbeats 1000000 in
theorem goodDirty_any (x : Int × Int) (w : World) :
    Calls Tryz.prog 106 #[.agg #[(fNum x).1, (fNum x).2]] w fun e w' => e = .returned (.bool (gDty x)) ∧ Below w.heap.size w w' := by
  obtain ⟨a, b⟩ := x
  have hg : gDty ⟨a, b⟩ = (inN a 255 && inN b 2147483647) := rfl
  rw [hg]
  unfold fNum
  dsimp only
  have hb : Hid (Below w.heap.size w (w.alloc (.cells #[.int .i64 a, .int .i64 b] 72))) := Lib.hid (blA (Below.refl _ _) _)
  have e1 := fun w => isPage_any a w
  have e2 := fun w => isNumber_any b w
  generalize inN a 255 = b1 at *
  generalize inN b 2147483647 = b2 at *
  go_enter Tryz.func106, Tryz.ntmps106
  go_wp2_with fail
  refine (e1 _).mono ?_
  rintro e w' ⟨rfl, rfl⟩
  cases b1
  · go_wp2_with fail
    go_returns
    exact ⟨rfl, hb.out⟩
  go_wp2_with fail
  refine (e2 _).mono ?_
  rintro e w' ⟨rfl, rfl⟩
  go_wp2_with fail
  go_returns
  exact ⟨rfl, hb.out⟩
theorem all_take {α : Type} (p : α → Bool) (l : List α) (k : Nat) (x : α) (hx : l[k]? = some x) (h : (l.take k).all p = true) : (l.take (k + 1)).all p = p x := by
  rw [List.take_add_one, hx, List.all_append, h]; simp
theorem all_not {α : Type} (p : α → Bool) (l : List α) (k : Nat) (x : α) (hx : l[k]? = some x) (h : p x = false) : l.all p = false := by
  rw [List.all_eq_false]; exact ⟨x, List.mem_of_getElem? hx, by simp [h]⟩

/-! Image. -/
def goodImageF : Value := .func (.func 102) #[] #[]
set_option maxHeartbeats 1000000 in
theorem notImage_any (gb : Nat) (x : Int × By) (w : World) (hc : w.cell? ⟨gb, 0, none⟩ = some goodImageF) (hl : gb < w.heap.size) :
    Calls Tryz.prog 131 #[.agg #[(fImg x).1, (fImg x).2], .pointer (some ⟨gb, 0, none⟩)] w fun e w' => e = .returned (.bool (!gImg x)) ∧ Below w.heap.size w w' := by
  have e1 := fun w => goodImage_any x w
  have B0 : Hid (Below w.heap.size w (w.alloc (.cells #[(fImg x).1, (fImg x).2] 181))) := Lib.hid (blA (Below.refl _ _) _)
  have c1 := (bcell B0.out).1 _ 0 hl
  rw [hc] at c1
  unfold goodImageF at *
  clear hc
  generalize gImg x = b1 at *
  go_enter Tryz.func131, Tryz.ntmps131
  go_wp2_with fail
  refine (e1 _).mono ?_
  rintro e w2 ⟨rfl, hb⟩
  have b2 := Lib.hid (bl B0.out hb)
  clear hb 
  go_wp2_with fail
  go_returns
  exact ⟨rfl, b2.out⟩
set_option maxHeartbeats 1000000 in
theorem indexImage_any (gb : Nat) (A : Option Addr) (m c : Nat) (l : List (Int × By)) (w : World) (hr : Row2 fImg w (.slice A m c) l) (hc : w.cell? ⟨gb, 0, none⟩ = some goodImageF) (hl : gb < w.heap.size) :
    Calls Tryz.prog 162 #[.slice A m c, .func (.func 131) #[] #[.pointer (some ⟨gb, 0, none⟩)]] w fun e w' => (∃ n : Int, e = .returned (.int .i64 n) ∧ decide (0 ≤ n) = !(l.all gImg)) ∧ Below w.heap.size w w' := by
  obtain ⟨rfl, hml⟩ := hr.len
  unfold maxLen at hml
  have HR := Lib.hid hr
  have HC := Lib.hid hc
  have B0 : Hid (Below w.heap.size w w) := Lib.hid (Below.refl _ _)
  clear hr hc
  go_enter Tryz.func162, Tryz.ntmps162
  go_wp2_with fail
  go_loopw [5, 8] (fun _ i wr => ∃ k : Nat, k ≤ l.length ∧ i = .int .i64 k ∧ Hid ((l.take k).all gImg = true) ∧ Hid (Below w.heap.size w wr)) (fun _ i _ => l.length - (intOf i).toNat)
  case atStart => exact ⟨0, Nat.zero_le _, rfl, Lib.hid rfl, B0⟩
  case round =>
    clear B0
    obtain ⟨k, hk, rfl, hA, hB⟩ := hrel
    by_cases hlt : k < l.length
    · obtain ⟨x, hx⟩ : ∃ x, l[k]? = some x := ⟨l[k]'(by omega), List.getElem?_eq_getElem _⟩
      obtain ⟨b, o, rfl, hbl, c0, c1⟩ := (HR.out.keep hB.out).at hx
      have hsz := hB.out.size
      have HX := Lib.hid (notImage_any gb x wr ((hB.out.cell (p := ⟨gb, 0, none⟩) hl).trans HC.out) (by omega))
      have h1 := all_take gImg l k x hx hA.out
      have h2 := all_not gImg l k x hx
      generalize gImg x = b1 at *
      generalize (fImg x).1 = u0 at *
      generalize (fImg x).2 = u1 at *
      have H1 := Lib.hid h1
      have H2 := Lib.hid h2
      clear h1 h2 hx hsz
      go_wp2_with fail
      refine HX.out.mono ?_
      rintro e w2 ⟨rfl, hb⟩
      have B2 := Lib.hid (bl hB.out hb)
      clear HX hB hb c0 c1
      cases b1
      · go_wp2_with fail
        go_returns
        exact ⟨⟨_, rfl, by rw [H2.out (by trivial)]; simp⟩, B2.out⟩
      · go_wp2_with fail
        go_round
        case rel => exact ⟨k + 1, by omega, by go_num, H1, B2⟩
        case measure => simp [intOf]; omega
    · obtain rfl : k = l.length := by omega
      go_wp2_with fail
      go_returns
      refine ⟨⟨_, rfl, ?_⟩, hB.out⟩
      have := hA.out
      rw [List.take_of_length_le (Nat.le_refl _)] at this
      rw [this]; decide
set_option maxHeartbeats 1000000 in
theorem containsImage_any (gb : Nat) (A : Option Addr) (m c : Nat) (l : List (Int × By)) (w : World) (hr : Row2 fImg w (.slice A m c) l) (hc : w.cell? ⟨gb, 0, none⟩ = some goodImageF) (hl : gb < w.heap.size) :
    Calls Tryz.prog 130 #[.slice A m c, .func (.func 131) #[] #[.pointer (some ⟨gb, 0, none⟩)]] w fun e w' => e = .returned (.bool (!(l.all gImg))) ∧ Below w.heap.size w w' := by
  have HX := Lib.hid (indexImage_any gb A m c l w hr hc hl)
  clear hr hc
  go_enter Tryz.func130, Tryz.ntmps130
  go_wp2_with fail
  refine HX.out.mono ?_
  rintro e w2 ⟨⟨n, rfl, hn⟩, hb⟩
  have B2 := Lib.hid hb
  have HN := Lib.hid hn
  clear hn hb
  by_cases h0 : 0 ≤ n
  all_goals
    go_wp2_with fail
    go_returns
    exact ⟨ret_bool (by rw [← HN.out] <;> first | (simp [h0]; done) | (simp [h0]; omega)), B2.out⟩
set_option maxHeartbeats 1000000 in
theorem goodListImage_any (A : Option Addr) (m c : Nat) (most : Int) (l : List (Int × By)) (w : World) (hr : Row2 fImg w (.slice A m c) l) :
    Calls Tryz.prog 101 #[.slice A m c, .int .i64 most, goodImageF] w fun e w' => e = .returned (.bool (decide ((l.length : Int) ≤ most) && l.all gImg)) ∧ Below w.heap.size w w' := by
  obtain ⟨rfl, -⟩ := hr.len
  have hb : Hid (Below w.heap.size w (w.alloc (.cells #[goodImageF] 182))) := Lib.hid (blA (Below.refl _ _) _)
  have HX := Lib.hid (containsImage_any w.heap.size A _ c l _ (hr.keep hb.out) ((Blk.new w #[goodImageF] 182).cell 0) (by simp))
  have hmf : ∀ (fn : Fn) (first cap : Array Value) (w : World), (Instr.makeFunc fn first cap).run Tryz.prog w = .ok (.func fn first cap) w := fun _ _ _ _ => rfl
  generalize l.all gImg = b1 at *
  unfold goodImageF at *
  clear hr
  go_enter Tryz.func101, Tryz.ntmps101
  by_cases h0 : (l.length : Int) ≤ most
  · go_wp2_with fail
    refine HX.out.mono ?_
    rintro e w2 ⟨rfl, hb2⟩
    have B2 := Lib.hid (bl hb.out hb2)
    clear hb hb2 HX
    go_wp2_with fail
    go_returns
    exact ⟨ret_bool (by simp [h0]), B2.out⟩
  · go_wp2_with fail
    go_returns
    exact ⟨ret_bool (by simp [show ¬ ((l.length : Int) ≤ most) by omega]), hb.out⟩

/-! Open. -/
def goodOpenF : Value := .func (.func 104) #[] #[]
set_option maxHeartbeats 1000000 in
theorem notOpen_any (gb : Nat) (x : Int × Int) (w : World) (hc : w.cell? ⟨gb, 0, none⟩ = some goodOpenF) (hl : gb < w.heap.size) :
    Calls Tryz.prog 134 #[.agg #[(fNum x).1, (fNum x).2], .pointer (some ⟨gb, 0, none⟩)] w fun e w' => e = .returned (.bool (!gOpn x)) ∧ Below w.heap.size w w' := by
  have e1 := fun w => goodOpen_any x w
  have B0 : Hid (Below w.heap.size w (w.alloc (.cells #[(fNum x).1, (fNum x).2] 185))) := Lib.hid (blA (Below.refl _ _) _)
  have c1 := (bcell B0.out).1 _ 0 hl
  rw [hc] at c1
  unfold goodOpenF at *
  clear hc
  generalize gOpn x = b1 at *
  go_enter Tryz.func134, Tryz.ntmps134
  go_wp2_with fail
  refine (e1 _).mono ?_
  rintro e w2 ⟨rfl, hb⟩
  have b2 := Lib.hid (bl B0.out hb)
  clear hb 
  go_wp2_with fail
  go_returns
  exact ⟨rfl, b2.out⟩
set_option maxHeartbeats 1000000 in
theorem indexOpen_any (gb : Nat) (A : Option Addr) (m c : Nat) (l : List (Int × Int)) (w : World) (hr : Row2 fNum w (.slice A m c) l) (hc : w.cell? ⟨gb, 0, none⟩ = some goodOpenF) (hl : gb < w.heap.size) :
    Calls Tryz.prog 163 #[.slice A m c, .func (.func 134) #[] #[.pointer (some ⟨gb, 0, none⟩)]] w fun e w' => (∃ n : Int, e = .returned (.int .i64 n) ∧ decide (0 ≤ n) = !(l.all gOpn)) ∧ Below w.heap.size w w' := by
  obtain ⟨rfl, hml⟩ := hr.len
  unfold maxLen at hml
  have HR := Lib.hid hr
  have HC := Lib.hid hc
  have B0 : Hid (Below w.heap.size w w) := Lib.hid (Below.refl _ _)
  clear hr hc
  go_enter Tryz.func163, Tryz.ntmps163
  go_wp2_with fail
  go_loopw [5, 8] (fun _ i wr => ∃ k : Nat, k ≤ l.length ∧ i = .int .i64 k ∧ Hid ((l.take k).all gOpn = true) ∧ Hid (Below w.heap.size w wr)) (fun _ i _ => l.length - (intOf i).toNat)
  case atStart => exact ⟨0, Nat.zero_le _, rfl, Lib.hid rfl, B0⟩
  case round =>
    clear B0
    obtain ⟨k, hk, rfl, hA, hB⟩ := hrel
    by_cases hlt : k < l.length
    · obtain ⟨x, hx⟩ : ∃ x, l[k]? = some x := ⟨l[k]'(by omega), List.getElem?_eq_getElem _⟩
      obtain ⟨b, o, rfl, hbl, c0, c1⟩ := (HR.out.keep hB.out).at hx
      have hsz := hB.out.size
      have HX := Lib.hid (notOpen_any gb x wr ((hB.out.cell (p := ⟨gb, 0, none⟩) hl).trans HC.out) (by omega))
      have h1 := all_take gOpn l k x hx hA.out
      have h2 := all_not gOpn l k x hx
      generalize gOpn x = b1 at *
      generalize (fNum x).1 = u0 at *
      generalize (fNum x).2 = u1 at *
      have H1 := Lib.hid h1
      have H2 := Lib.hid h2
      clear h1 h2 hx hsz
      go_wp2_with fail
      refine HX.out.mono ?_
      rintro e w2 ⟨rfl, hb⟩
      have B2 := Lib.hid (bl hB.out hb)
      clear HX hB hb c0 c1
      cases b1
      · go_wp2_with fail
        go_returns
        exact ⟨⟨_, rfl, by rw [H2.out (by trivial)]; simp⟩, B2.out⟩
      · go_wp2_with fail
        go_round
        case rel => exact ⟨k + 1, by omega, by go_num, H1, B2⟩
        case measure => simp [intOf]; omega
    · obtain rfl : k = l.length := by omega
      go_wp2_with fail
      go_returns
      refine ⟨⟨_, rfl, ?_⟩, hB.out⟩
      have := hA.out
      rw [List.take_of_length_le (Nat.le_refl _)] at this
      rw [this]; decide
set_option maxHeartbeats 1000000 in
theorem containsOpen_any (gb : Nat) (A : Option Addr) (m c : Nat) (l : List (Int × Int)) (w : World) (hr : Row2 fNum w (.slice A m c) l) (hc : w.cell? ⟨gb, 0, none⟩ = some goodOpenF) (hl : gb < w.heap.size) :
    Calls Tryz.prog 133 #[.slice A m c, .func (.func 134) #[] #[.pointer (some ⟨gb, 0, none⟩)]] w fun e w' => e = .returned (.bool (!(l.all gOpn))) ∧ Below w.heap.size w w' := by
  have HX := Lib.hid (indexOpen_any gb A m c l w hr hc hl)
  clear hr hc
  go_enter Tryz.func133, Tryz.ntmps133
  go_wp2_with fail
  refine HX.out.mono ?_
  rintro e w2 ⟨⟨n, rfl, hn⟩, hb⟩
  have B2 := Lib.hid hb
  have HN := Lib.hid hn
  clear hn hb
  by_cases h0 : 0 ≤ n
  all_goals
    go_wp2_with fail
    go_returns
    exact ⟨ret_bool (by rw [← HN.out] <;> first | (simp [h0]; done) | (simp [h0]; omega)), B2.out⟩
set_option maxHeartbeats 1000000 in
theorem goodListOpen_any (A : Option Addr) (m c : Nat) (most : Int) (l : List (Int × Int)) (w : World) (hr : Row2 fNum w (.slice A m c) l) :
    Calls Tryz.prog 103 #[.slice A m c, .int .i64 most, goodOpenF] w fun e w' => e = .returned (.bool (decide ((l.length : Int) ≤ most) && l.all gOpn)) ∧ Below w.heap.size w w' := by
  obtain ⟨rfl, -⟩ := hr.len
  have hb : Hid (Below w.heap.size w (w.alloc (.cells #[goodOpenF] 186))) := Lib.hid (blA (Below.refl _ _) _)
  have HX := Lib.hid (containsOpen_any w.heap.size A _ c l _ (hr.keep hb.out) ((Blk.new w #[goodOpenF] 186).cell 0) (by simp))
  have hmf : ∀ (fn : Fn) (first cap : Array Value) (w : World), (Instr.makeFunc fn first cap).run Tryz.prog w = .ok (.func fn first cap) w := fun _ _ _ _ => rfl
  generalize l.all gOpn = b1 at *
  unfold goodOpenF at *
  clear hr
  go_enter Tryz.func103, Tryz.ntmps103
  by_cases h0 : (l.length : Int) ≤ most
  · go_wp2_with fail
    refine HX.out.mono ?_
    rintro e w2 ⟨rfl, hb2⟩
    have B2 := Lib.hid (bl hb.out hb2)
    clear hb hb2 HX
    go_wp2_with fail
    go_returns
    exact ⟨ret_bool (by simp [h0]), B2.out⟩
  · go_wp2_with fail
    go_returns
    exact ⟨ret_bool (by simp [show ¬ ((l.length : Int) ≤ most) by omega]), hb.out⟩

/-! Dirty. -/
def goodDirtyF : Value := .func (.func 106) #[] #[]
set_option maxHeartbeats 1000000 in
theorem notDirty_any (gb : Nat) (x : Int × Int) (w : World) (hc : w.cell? ⟨gb, 0, none⟩ = some goodDirtyF) (hl : gb < w.heap.size) :
    Calls Tryz.prog 136 #[.agg #[(fNum x).1, (fNum x).2], .pointer (some ⟨gb, 0, none⟩)] w fun e w' => e = .returned (.bool (!gDty x)) ∧ Below w.heap.size w w' := by
  have e1 := fun w => goodDirty_any x w
  have B0 : Hid (Below w.heap.size w (w.alloc (.cells #[(fNum x).1, (fNum x).2] 72))) := Lib.hid (blA (Below.refl _ _) _)
  have c1 := (bcell B0.out).1 _ 0 hl
  rw [hc] at c1
  unfold goodDirtyF at *
  clear hc
  generalize gDty x = b1 at *
  go_enter Tryz.func136, Tryz.ntmps136
  go_wp2_with fail
  refine (e1 _).mono ?_
  rintro e w2 ⟨rfl, hb⟩
  have b2 := Lib.hid (bl B0.out hb)
  clear hb 
  go_wp2_with fail
  go_returns
  exact ⟨rfl, b2.out⟩
set_option maxHeartbeats 1000000 in
theorem indexDirty_any (gb : Nat) (A : Option Addr) (m c : Nat) (l : List (Int × Int)) (w : World) (hr : Row2 fNum w (.slice A m c) l) (hc : w.cell? ⟨gb, 0, none⟩ = some goodDirtyF) (hl : gb < w.heap.size) :
    Calls Tryz.prog 164 #[.slice A m c, .func (.func 136) #[] #[.pointer (some ⟨gb, 0, none⟩)]] w fun e w' => (∃ n : Int, e = .returned (.int .i64 n) ∧ decide (0 ≤ n) = !(l.all gDty)) ∧ Below w.heap.size w w' := by
  obtain ⟨rfl, hml⟩ := hr.len
  unfold maxLen at hml
  have HR := Lib.hid hr
  have HC := Lib.hid hc
  have B0 : Hid (Below w.heap.size w w) := Lib.hid (Below.refl _ _)
  clear hr hc
  go_enter Tryz.func164, Tryz.ntmps164
  go_wp2_with fail
  go_loopw [5, 8] (fun _ i wr => ∃ k : Nat, k ≤ l.length ∧ i = .int .i64 k ∧ Hid ((l.take k).all gDty = true) ∧ Hid (Below w.heap.size w wr)) (fun _ i _ => l.length - (intOf i).toNat)
  case atStart => exact ⟨0, Nat.zero_le _, rfl, Lib.hid rfl, B0⟩
  case round =>
    clear B0
    obtain ⟨k, hk, rfl, hA, hB⟩ := hrel
    by_cases hlt : k < l.length
    · obtain ⟨x, hx⟩ : ∃ x, l[k]? = some x := ⟨l[k]'(by omega), List.getElem?_eq_getElem _⟩
      obtain ⟨b, o, rfl, hbl, c0, c1⟩ := (HR.out.keep hB.out).at hx
      have hsz := hB.out.size
      have HX := Lib.hid (notDirty_any gb x wr ((hB.out.cell (p := ⟨gb, 0, none⟩) hl).trans HC.out) (by omega))
      have h1 := all_take gDty l k x hx hA.out
      have h2 := all_not gDty l k x hx
      generalize gDty x = b1 at *
      generalize (fNum x).1 = u0 at *
      generalize (fNum x).2 = u1 at *
      have H1 := Lib.hid h1
      have H2 := Lib.hid h2
      clear h1 h2 hx hsz
      go_wp2_with fail
      refine HX.out.mono ?_
      rintro e w2 ⟨rfl, hb⟩
      have B2 := Lib.hid (bl hB.out hb)
      clear HX hB hb c0 c1
      cases b1
      · go_wp2_with fail
        go_returns
        exact ⟨⟨_, rfl, by rw [H2.out (by trivial)]; simp⟩, B2.out⟩
      · go_wp2_with fail
        go_round
        case rel => exact ⟨k + 1, by omega, by go_num, H1, B2⟩
        case measure => simp [intOf]; omega
    · obtain rfl : k = l.length := by omega
      go_wp2_with fail
      go_returns
      refine ⟨⟨_, rfl, ?_⟩, hB.out⟩
      have := hA.out
      rw [List.take_of_length_le (Nat.le_refl _)] at this
      rw [this]; decide
set_option maxHeartbeats 1000000 in
theorem containsDirty_any (gb : Nat) (A : Option Addr) (m c : Nat) (l : List (Int × Int)) (w : World) (hr : Row2 fNum w (.slice A m c) l) (hc : w.cell? ⟨gb, 0, none⟩ = some goodDirtyF) (hl : gb < w.heap.size) :
    Calls Tryz.prog 135 #[.slice A m c, .func (.func 136) #[] #[.pointer (some ⟨gb, 0, none⟩)]] w fun e w' => e = .returned (.bool (!(l.all gDty))) ∧ Below w.heap.size w w' := by
  have HX := Lib.hid (indexDirty_any gb A m c l w hr hc hl)
  clear hr hc
  go_enter Tryz.func135, Tryz.ntmps135
  go_wp2_with fail
  refine HX.out.mono ?_
  rintro e w2 ⟨⟨n, rfl, hn⟩, hb⟩
  have B2 := Lib.hid hb
  have HN := Lib.hid hn
  clear hn hb
  by_cases h0 : 0 ≤ n
  all_goals
    go_wp2_with fail
    go_returns
    exact ⟨ret_bool (by rw [← HN.out] <;> first | (simp [h0]; done) | (simp [h0]; omega)), B2.out⟩
set_option maxHeartbeats 1000000 in
theorem goodListDirty_any (A : Option Addr) (m c : Nat) (most : Int) (l : List (Int × Int)) (w : World) (hr : Row2 fNum w (.slice A m c) l) :
    Calls Tryz.prog 105 #[.slice A m c, .int .i64 most, goodDirtyF] w fun e w' => e = .returned (.bool (decide ((l.length : Int) ≤ most) && l.all gDty)) ∧ Below w.heap.size w w' := by
  obtain ⟨rfl, -⟩ := hr.len
  have hb : Hid (Below w.heap.size w (w.alloc (.cells #[goodDirtyF] 188))) := Lib.hid (blA (Below.refl _ _) _)
  have HX := Lib.hid (containsDirty_any w.heap.size A _ c l _ (hr.keep hb.out) ((Blk.new w #[goodDirtyF] 188).cell 0) (by simp))
  have hmf : ∀ (fn : Fn) (first cap : Array Value) (w : World), (Instr.makeFunc fn first cap).run Tryz.prog w = .ok (.func fn first cap) w := fun _ _ _ _ => rfl
  generalize l.all gDty = b1 at *
  unfold goodDirtyF at *
  clear hr
  go_enter Tryz.func105, Tryz.ntmps105
  by_cases h0 : (l.length : Int) ≤ most
  · go_wp2_with fail
    refine HX.out.mono ?_
    rintro e w2 ⟨rfl, hb2⟩
    have B2 := Lib.hid (bl hb.out hb2)
    clear hb hb2 HX
    go_wp2_with fail
    go_returns
    exact ⟨ret_bool (by simp [h0]), B2.out⟩
  · go_wp2_with fail
    go_returns
    exact ⟨ret_bool (by simp [show ¬ ((l.length : Int) ≤ most) by omega]), hb.out⟩
end Go.Proofs.YtapdpdhibpblgaaGreatDoor.Nt
