/- A book of locks in memory: of each name a map of who holds what, a line of those who wait; of each who waits what it wants. -/
import Derived.Test.YtikdjgholjealaaGreatDoorMap
import Derived.Test.YtikdjgholjealaaGreatDoorMdB
import Derived.Test.YtikdjgholjealaaGreatDoorBld
import Derived.Test.YtikdjgholjealaaGreatDoorAc
namespace Go.Proofs.YtikdjgholjealaaGreatDoor.Lk
open Go.ChangeShapes Go.WideShapes Go.ChangeAt Go.RowKit Go.PlainAid Aid
open Go.Maps (Keyed string_keyed int_keyed)
set_option linter.unusedVariables false
set_option linter.unusedSimpArgs false
abbrev By := List UInt8
theorem kS : Keyed Tryz.prog 9 := string_keyed Tryz.underlying9
theorem kI : Keyed Tryz.prog 3 := int_keyed Tryz.underlying3
/-- What is held of one name: the block of its map, and who holds what. -/
abbrev Hol := By × Nat × List (Int × Int)
/-- A line: the name, the row, who waits, in order. -/
abbrev Lin := By × Value × List Int
/-- Who wants what mode of what name. -/
abbrev Wan := Int × By × Int
def hE (H : List Hol) : List En := H.map fun x => (.string x.1, .map (some x.2.1))
def iE (l : List (Int × Int)) : List En := l.map fun p => (.int .i64 p.1, .int .i64 p.2)
def lE (L : List Lin) : List En := L.map fun x => (.string x.1, x.2.1)
def wE (W : List Wan) : List En := W.map fun x => (.int .i64 x.1, .agg #[.string (ofL x.2.1), .int .i64 x.2.2])
def nums (l : List Int) : List Value := l.map fun p => .int .i64 p
def aIn : List Hol → Asn
  | [] => Asn.emp
  | x :: H => aMap Tryz.prog 3 x.2.1 (iE x.2.2) * aIn H
def aLn : List Lin → Asn
  | [] => Asn.emp
  | x :: L => Asn.vec 3 1 x.2.1 x.2.2.length (nums x.2.2) * aLn L
def aBk (bb h l wt : Nat) (H : List Hol) (L : List Lin) (W : List Wan) : Asn :=
  Asn.blk bb 52 #[.map (some h), .map (some l), .map (some wt)] * (aMap Tryz.prog 9 h (hE H) * (aMap Tryz.prog 9 l (lE L) * (aMap Tryz.prog 3 wt (wE W) * (aIn H * aLn L))))
def bPtr (bb : Nat) : Value := .pointer (some ⟨bb, 0, none⟩)
/-- What a transaction holds of a name. -/
def mdL (l : List (Int × Int)) (id : Int) : Int := match l.find? (fun p => decide (p.1 = id)) with
  | some p => p.2
  | none => 0
def holL (H : List Hol) (name : By) : Option Hol := H.find? fun x => decide (x.1 = name)
def md (H : List Hol) (id : Int) (name : By) : Int := match holL H name with
  | some x => mdL x.2.2 id
  | none => 0
def linL (L : List Lin) (name : By) : Option Lin := L.find? fun x => decide (x.1 = name)
def ids (L : List Lin) (name : By) : List Int := match linL L name with
  | some x => x.2.2
  | none => []
def wanL (W : List Wan) (id : Int) : Option Wan := W.find? fun x => decide (x.1 = id)
def hV (H : List Hol) (name : By) : Value := match holL H name with
  | some x => .map (some x.2.1)
  | none => .map none
def lV (L : List Lin) (name : By) : Value := match linL L name with
  | some x => x.2.1
  | none => .slice none 0 0
def wV (W : List Wan) (id : Int) : By × Int := match wanL W id with
  | some x => x.2
  | none => ([], 0)
/-! What the maps answer. -/
theorem key_str (name : By) (h : name.length ≤ 1000) : keyOf Tryz.prog 9 (.string (ofL name)) = some (.string name) := by
  exact Go.WideMaps.keyOf_string_mk Tryz.underlying9 (s := ofL name) (by show name.length ≤ _; unfold maxLen; omega)
theorem key_int (id : Int) (h : (Lit.int .i64 id).wf = true) : keyOf Tryz.prog 3 (.int .i64 id) = some (.int .i64 id) := Go.Maps.keyOf_int_mk Tryz.underlying3 h
theorem at_hE (H : List Hol) (name : By) : atE (hE H) (.string name) (.map none) = hV H name := by
  unfold atE hE hV holL
  rw [List.find?_map]
  have e : ((fun p : En => p.1.sameKey (.string name)) ∘ fun x : Hol => ((.string x.1, .map (some x.2.1)) : En)) = fun x => decide (x.1 = name) := by
    funext x
    show (x.1 == name) = _
    by_cases h : x.1 = name <;> simp [h]
  rw [e]
  cases H.find? (fun x => decide (x.1 = name)) <;> rfl
theorem at_lE (L : List Lin) (name : By) : atE (lE L) (.string name) (.slice none 0 0) = lV L name := by
  unfold atE lE lV linL
  rw [List.find?_map]
  have e : ((fun p : En => p.1.sameKey (.string name)) ∘ fun x : Lin => ((.string x.1, x.2.1) : En)) = fun x => decide (x.1 = name) := by
    funext x
    show (x.1 == name) = _
    by_cases h : x.1 = name <;> simp [h]
  rw [e]
  cases L.find? (fun x => decide (x.1 = name)) <;> rfl
theorem same_int (a b : Int) : (Lit.int .i64 a).sameKey (.int .i64 b) = decide (a = b) := by
  show decide (IntKind.i64 = IntKind.i64 ∧ a = b) = _
  simp
theorem at_iE (l : List (Int × Int)) (id : Int) : atE (iE l) (.int .i64 id) (.int .i64 0) = .int .i64 (mdL l id) := by
  unfold atE iE mdL
  rw [List.find?_map]
  have e : ((fun p : En => p.1.sameKey (.int .i64 id)) ∘ fun x : Int × Int => ((.int .i64 x.1, .int .i64 x.2) : En)) = fun x => decide (x.1 = id) := by
    funext x
    exact same_int _ _
  rw [e]
  cases l.find? (fun x => decide (x.1 = id)) <;> rfl
theorem find_wE (W : List Wan) (id : Int) : (wE W).find? (fun p => p.1.sameKey (.int .i64 id)) = (wanL W id).map fun x => ((.int .i64 x.1, .agg #[.string (ofL x.2.1), .int .i64 x.2.2]) : En) := by
  unfold wE wanL
  rw [List.find?_map]
  have e : ((fun p : En => p.1.sameKey (.int .i64 id)) ∘ fun x : Wan => ((.int .i64 x.1, .agg #[.string (ofL x.2.1), .int .i64 x.2.2]) : En)) = fun x => decide (x.1 = id) := by
    funext x
    exact same_int _ _
  rw [e]
theorem at_wE (W : List Wan) (id : Int) : atE (wE W) (.int .i64 id) (.agg #[.string ⟨#[]⟩, .int .i64 0]) = .agg #[.string (ofL (wV W id).1), .int .i64 (wV W id).2] := by
  unfold atE wV
  rw [find_wE]
  cases wanL W id <;> rfl
theorem has_wE (W : List Wan) (id : Int) : hasE (wE W) (.int .i64 id) = (wanL W id).isSome := by
  unfold hasE
  rw [find_wE]
  cases wanL W id <;> rfl
/-! What is known of a book. -/
structure Bk (w : World) (bb h l wt : Nat) (H : List Hol) (L : List Lin) (W : List Wan) : Prop where
  blk : Blk w bb 52 #[.map (some h), .map (some l), .map (some wt)]
  hm : MapIs w Tryz.prog 9 h (hE H)
  lm : MapIs w Tryz.prog 9 l (lE L)
  wm : MapIs w Tryz.prog 3 wt (wE W)
  hi : ∀ x, x ∈ H → MapIs w Tryz.prog 3 x.2.1 (iE x.2.2)
  li : ∀ x, x ∈ L → Vec w 3 1 x.2.1 x.2.2.length (nums x.2.2)
theorem at_in : ∀ H : List Hol, At (aIn H) fun w => ∀ x, x ∈ H → MapIs w Tryz.prog 3 x.2.1 (iE x.2.2)
  | [], w, O, _, x, hx => by cases hx
  | y :: H, w, O, ⟨X, Y, h1, h2, _⟩, x, hx => by
    rcases List.mem_cons.1 hx with rfl | hx
    · exact h1.1
    · exact at_in H w Y h2 x hx
theorem at_ln : ∀ L : List Lin, At (aLn L) fun w => ∀ x, x ∈ L → Vec w 3 1 x.2.1 x.2.2.length (nums x.2.2)
  | [], w, O, _, x, hx => by cases hx
  | y :: L, w, O, ⟨X, Y, h1, h2, _⟩, x, hx => by
    rcases List.mem_cons.1 hx with rfl | hx
    · exact h1.1
    · exact at_ln L w Y h2 x hx
section
variable {w0 w : World} {O0 : Nat → Prop} {bb h l wt : Nat} {H : List Hol} {L : List Lin} {W : List Wan} {C : Asn}
theorem bk_of (hS : Own w0 O0 w (aBk bb h l wt H L W * C)) : Bk w bb h l wt H L W := by
  have h1 := hS.left
  unfold aBk at h1
  exact ⟨h1.has (Has.l (has_blk _ _ _)), h1.kn (At.r (At.l (at_map _ _ _ _))), h1.kn (At.r (At.r (At.l (at_map _ _ _ _)))), h1.kn (At.r (At.r (At.r (At.l (at_map _ _ _ _))))), h1.kn (At.r (At.r (At.r (At.r (At.l (at_in H)))))), h1.kn (At.r (At.r (At.r (At.r (At.r (at_ln L))))))⟩
theorem zero_map (w : World) : (zeroValue 60).run Tryz.prog w = .ok (.map none) w := by kernel_rfl
theorem zero_int (w : World) : (zeroValue 3).run Tryz.prog w = .ok (.int .i64 0) w := by kernel_rfl
theorem zero_ints (w : World) : (zeroValue 37).run Tryz.prog w = .ok (.slice none 0 0) w := by kernel_rfl
theorem zero_hold (w : World) : (zeroValue 32).run Tryz.prog w = .ok (.agg #[.string ⟨#[]⟩, .int .i64 0]) w := by kernel_rfl
theorem Bk.look_h (k : Bk w bb h l wt H L W) (name : By) (hn : name.length ≤ 1000) : (Instr.lookup 48 (.map (some h)) (.string (ofL name)) false).run Tryz.prog w = .ok (hV H name) w := by
  have := k.hm.look kS Tryz.underlying48 (zero_map w) false (key_str name hn)
  rw [at_hE] at this
  exact this
theorem Bk.look_l (k : Bk w bb h l wt H L W) (name : By) (hn : name.length ≤ 1000) : (Instr.lookup 49 (.map (some l)) (.string (ofL name)) false).run Tryz.prog w = .ok (lV L name) w := by
  have := k.lm.look kS Tryz.underlying49 (zero_ints w) false (key_str name hn)
  rw [at_lE] at this
  exact this
theorem Bk.look_w (k : Bk w bb h l wt H L W) (id : Int) (hi : (Lit.int .i64 id).wf = true) : (Instr.lookup 50 (.map (some wt)) (.int .i64 id) false).run Tryz.prog w = .ok (.agg #[.string (ofL (wV W id).1), .int .i64 (wV W id).2]) w := by
  have := k.wm.look kI Tryz.underlying50 (zero_hold w) false (key_int id hi)
  rw [at_wE] at this
  exact this
theorem Bk.look_w2 (k : Bk w bb h l wt H L W) (id : Int) (hi : (Lit.int .i64 id).wf = true) : (Instr.lookup 50 (.map (some wt)) (.int .i64 id) true).run Tryz.prog w = .ok (.tuple #[.agg #[.string (ofL (wV W id).1), .int .i64 (wV W id).2], .bool (wanL W id).isSome]) w := by
  have := k.wm.look kI Tryz.underlying50 (zero_hold w) true (key_int id hi)
  rw [at_wE, has_wE] at this
  exact this
theorem Bk.look_i (k : Bk w bb h l wt H L W) (name : By) (id : Int) (hi : (Lit.int .i64 id).wf = true) : (Instr.lookup 60 (hV H name) (.int .i64 id) false).run Tryz.prog w = .ok (.int .i64 (md H id name)) w := by
  unfold hV md
  cases hf : holL H name with
  | none =>
    have := Go.Maps.look_nil (w := w) false kI Tryz.underlying60 (zero_int w) (key_int id hi)
    exact this
  | some x =>
    have := (k.hi x (List.mem_of_find?_eq_some hf)).look kI Tryz.underlying60 (zero_int w) false (key_int id hi)
    rw [at_iE] at this
    exact this
end
end Go.Proofs.YtikdjgholjealaaGreatDoor.Lk
