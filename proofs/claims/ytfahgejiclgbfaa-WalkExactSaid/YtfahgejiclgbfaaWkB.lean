/- Texts of ours, joined. -/
import Derived.Test.YtfahgejiclgbfaaBkR
import Derived.Test.YtfahgejiclgbfaaBkO
import Derived.Test.YtfahgejiclgbfaaNdT

-- joined
section
namespace Go.Proofs.Ytfahgejiclgbfaa.Wk
open Go.ChangeShapes Go.WideShapes Go.ChangeAt Go.RowKit Go.PlainAid Aid Nt Nd Tr Bk
set_option linter.unusedVariables false
set_option linter.unusedSimpArgs false
set_option linter.unusedSectionVars false
theorem le_is (x y : By) : (!Go.Op.bytesLess (ofL x).toList (ofL y).toList && !(ofL x).toList == (ofL y).toList) = !Nd.le x y := by
  have h1 : Go.Op.bytesLess (ofL x).toList (ofL y).toList = lt x y := less x y
  have h2 : ((ofL x).toList == (ofL y).toList) = decide (x = y) := (str_eq _ _).trans (decide_eq_decide.2 ⟨Aid.ofL_inj, fun h => by rw [h]⟩)
  unfold Nd.le
  rw [h1, h2]
  cases lt x y <;> simp
theorem lt_is (x y : By) : (!Go.Op.bytesLess (ofL x).toList (ofL y).toList) = !lt x y := by
  rw [show Go.Op.bytesLess (ofL x).toList (ofL y).toList = lt x y from less x y]
/-- What first comes to. -/
def fstep (q : Ent → Bool) (s : Option Ent) (e : Ent) : Option Ent × Bool := if q e then (some e, false) else (s, !s.isSome)
def fE : Option Ent → Ent
  | some e => e
  | none => ⟨[], [], false⟩
def aKey (g : Nat) (key : By) : Asn := Asn.blk g 9 #[.string (ofL key)]
theorem next1_any (g : Nat) (key : By) (e : Ent) (w0 W : World) (C : Asn) (hS : Own w0 No W (aKey g key * C)) :
    Calls Try.prog 64 (#[.agg (entCells e)] ++ #[.pointer (some ⟨g, 0, none⟩)]) W fun r W' => r = .returned (.bool (!lt e.key key)) ∧ Own w0 No W' (aKey g key * C) := by
  unfold aKey at *
  have S := Lib.hid (hS.alloc (entCells e) 44)
  clear hS
  unfold entCells at *
  show Calls _ _ #[.agg #[.string (ofL e.key), .string (ofL e.val), .bool e.ghost], .pointer (some ⟨g, 0, none⟩)] _ _
  go_enter Try.func64, Try.ntmps64
  go_upto_region 1 with fail
  obtain ⟨g2, hgz⟩ : ∃ g, g = W.heap.size := ⟨_, rfl⟩
  rw [← hgz] at S ⊢
  clear hgz
  generalize World.alloc _ _ = w1 at *
  have c0 := (S.out.has (Has.l (has_blk g2 _ _))).cell 0
  have k0 := (S.out.has (Has.r (Has.l (has_blk g _ _)))).cell 0
  go_wp2_with fail
  go_returns
  exact ⟨ret_bool (lt_is _ _), S.out.right⟩
theorem after1_any (g : Nat) (key : By) (e : Ent) (w0 W : World) (C : Asn) (hS : Own w0 No W (aKey g key * C)) :
    Calls Try.prog 65 (#[.agg (entCells e)] ++ #[.pointer (some ⟨g, 0, none⟩)]) W fun r W' => r = .returned (.bool (!Nd.le e.key key)) ∧ Own w0 No W' (aKey g key * C) := by
  unfold aKey at *
  have S := Lib.hid (hS.alloc (entCells e) 44)
  clear hS
  unfold entCells at *
  show Calls _ _ #[.agg #[.string (ofL e.key), .string (ofL e.val), .bool e.ghost], .pointer (some ⟨g, 0, none⟩)] _ _
  go_enter Try.func65, Try.ntmps65
  go_upto_region 1 with fail
  obtain ⟨g2, hgz⟩ : ∃ g, g = W.heap.size := ⟨_, rfl⟩
  rw [← hgz] at S ⊢
  clear hgz
  generalize World.alloc _ _ = w1 at *
  have c0 := (S.out.has (Has.l (has_blk g2 _ _))).cell 0
  have k0 := (S.out.has (Has.r (Has.l (has_blk g _ _)))).cell 0
  go_wp2_with fail
  go_returns
  exact ⟨ret_bool (le_is _ _), S.out.right⟩
theorem own_3 {w0 w : World} {O0 : Nat → Prop} {A : Asn} {g : Nat} {T : TypeId} {a0 a1 a2 : Value} (h : Own w0 O0 w (Asn.blk g T #[a0, a1, a2] * A)) (b0 b1 b2 : Value) :
    Own w0 O0 (((w.setCell ⟨g, 0, none⟩ b0).setCell ⟨g, 1, none⟩ b1).setCell ⟨g, 2, none⟩ b2) (Asn.blk g T #[b0, b1, b2] * A) := by
  have := ((h.set (Sets.l (sets_blk g T _ 0 b0))).set (Sets.l (sets_blk g T _ 1 b1))).set (Sets.l (sets_blk g T _ 2 b2))
  simpa only [List.setIfInBounds_toArray, List.set_cons_zero, List.set_cons_succ] using this
theorem own_1 {w0 w : World} {O0 : Nat → Prop} {A : Asn} {g : Nat} {T : TypeId} {a0 : Value} (h : Own w0 O0 w (Asn.blk g T #[a0] * A)) (b0 : Value) : Own w0 O0 (w.setCell ⟨g, 0, none⟩ b0) (Asn.blk g T #[b0] * A) := by
  have := h.set (Sets.l (sets_blk g T _ 0 b0))
  simpa only [List.setIfInBounds_toArray, List.set_cons_zero, List.set_cons_succ] using this
theorem three_of {w : World} {g : Nat} {T : TypeId} {a0 a1 a2 : Value} (h : Blk w g T #[a0, a1, a2]) :
    (w.cell? ⟨g, 0, none⟩ = some a0 ∧ w.cell? ⟨g, 1, none⟩ = some a1 ∧ w.cell? ⟨g, 2, none⟩ = some a2) ∧ w.frozen? ⟨g, 0, none⟩ = false ∧ w.frozen? ⟨g, 1, none⟩ = false ∧ w.frozen? ⟨g, 2, none⟩ = false :=
  ⟨⟨h.cell 0, h.cell 1, h.cell 2⟩, h.free 0, h.free 1, h.free 2⟩
/-- What first writes: whether it was found, and what. -/
def aFirst (g7 g11 g12 : Nat) (kf : FuncId) (cap : Array Value) (A2 : Asn) (s : Option Ent) : Asn :=
  A2 * (Asn.blk g7 62 #[.func (.func kf) #[] cap] * (Asn.blk g11 44 (entCells (fE s)) * Asn.blk g12 4 #[.bool s.isSome]))
set_option maxHeartbeats 2000000 in
theorem first1_any (g7 g11 g12 : Nat) (kf : FuncId) (cap : Array Value) (A2 : Asn) (q : Ent → Bool) (w0 : World) (hkf : ∀ args w, (callFunc kf args).run Try.prog w = .ok (.enter kf args) w)
    (HF : ∀ e W C, Own w0 No W (A2 * C) → Calls Try.prog kf (#[.agg (entCells e)] ++ cap) W fun r W' => r = .returned (.bool (q e)) ∧ Own w0 No W' (A2 * C))
    (s : Option Ent) (e : Ent) (W : World) (C : Asn) (hS : Own w0 No W (aFirst g7 g11 g12 kf cap A2 s * C)) :
    Calls Try.prog 78 (#[.agg (entCells e)] ++ #[.pointer (some ⟨g7, 0, none⟩), .pointer (some ⟨g11, 0, none⟩), .pointer (some ⟨g12, 0, none⟩)]) W fun r W' => r = .returned (.bool (fstep q s e).2) ∧ Own w0 No W' (aFirst g7 g11 g12 kf cap A2 (fstep q s e).1 * C) := by
  unfold aFirst at *
  have S := Lib.hid (hS.alloc (entCells e) 44)
  have HF2 := Lib.hid (fun W C h => HF e W C h)
  clear hS HF
  unfold entCells at *
  show Calls _ _ #[.agg #[.string (ofL e.key), .string (ofL e.val), .bool e.ghost], .pointer (some ⟨g7, 0, none⟩), .pointer (some ⟨g11, 0, none⟩), .pointer (some ⟨g12, 0, none⟩)] _ _
  go_enter Try.func78, Try.ntmps78
  go_upto_region 1 with fail
  obtain ⟨g2, hgz⟩ : ∃ g, g = W.heap.size := ⟨_, rfl⟩
  rw [← hgz] at S ⊢
  clear hgz
  generalize World.alloc _ _ = w1 at *
  have S1 := Lib.hid (S.out.re (show _ = A2 * (Asn.blk g2 44 #[.string (ofL e.key), .string (ofL e.val), .bool e.ghost] * (Asn.blk g7 62 #[.func (.func kf) #[] cap] * (Asn.blk g11 44 #[.string (ofL (fE s).key), .string (ofL (fE s).val), .bool (fE s).ghost] * (Asn.blk g12 4 #[.bool s.isSome] * C)))) by ac_rfl))
  clear S
  have k7 := (S1.out.has (Has.r (Has.r (Has.l (has_blk g7 _ _))))).cell 0
  have k0 := (S1.out.has (Has.r (Has.l (has_blk g2 _ _)))).cell 0
  have k1 := (S1.out.has (Has.r (Has.l (has_blk g2 _ _)))).cell 1
  have k2 := (S1.out.has (Has.r (Has.l (has_blk g2 _ _)))).cell 2
  go_wp2_with fail
  refine (HF2.out _ _ S1.out).mono ?_
  rintro r w2 ⟨rfl, hX⟩
  have S2 := Lib.hid hX
  clear hX S1 HF2 k7 k0 k1 k2
  cases hq : q e with
  | false =>
    have hf : fstep q s e = (s, !s.isSome) := by unfold fstep; rw [hq]; rfl
    have c12 := (S2.out.has (Has.r (Has.r (Has.r (Has.r (Has.l (has_blk g12 _ _))))))).cell 0
    go_wp2_with fail
    go_returns
    rw [hf]
    exact ⟨by cases s <;> rfl, (S2.out.re (show _ = Asn.blk g2 44 #[.string (ofL e.key), .string (ofL e.val), .bool e.ghost] * (A2 * (Asn.blk g7 62 #[.func (.func kf) #[] cap] * (Asn.blk g11 44 #[.string (ofL (fE s).key), .string (ofL (fE s).val), .bool (fE s).ghost] * Asn.blk g12 4 #[.bool s.isSome])) * C) by ac_rfl)).right⟩
  | true =>
    have hf : fstep q s e = (some e, false) := by unfold fstep; rw [hq]; rfl
    have c12 := (S2.out.has (Has.r (Has.r (Has.r (Has.r (Has.l (has_blk g12 _ _))))))).free 0
    have c12b := (S2.out.has (Has.r (Has.r (Has.r (Has.r (Has.l (has_blk g12 _ _))))))).cell 0
    obtain ⟨⟨d0, d1, d2⟩, f0, f1, f2⟩ := three_of (S2.out.has (Has.r (Has.r (Has.r (Has.l (has_blk g11 _ _))))))
    have k0 := (S2.out.has (Has.r (Has.l (has_blk g2 _ _)))).cell 0
    have k1 := (S2.out.has (Has.r (Has.l (has_blk g2 _ _)))).cell 1
    have k2 := (S2.out.has (Has.r (Has.l (has_blk g2 _ _)))).cell 2
    have hne : g11 ≠ g12 := (S2.out.re (show _ = Asn.blk g11 44 #[.string (ofL (fE s).key), .string (ofL (fE s).val), .bool (fE s).ghost] * (Asn.blk g12 4 #[.bool s.isSome] * (A2 * (Asn.blk g2 44 #[.string (ofL e.key), .string (ofL e.val), .bool e.ghost] * (Asn.blk g7 62 #[.func (.func kf) #[] cap] * C)))) by ac_rfl)).ne (mem_blk _ _ _) (Mem.l (mem_blk _ _ _))
    have hne2 : g12 ≠ g11 := fun h => hne h.symm
    have S3 := Lib.hid (own_3 (S2.out.re (show _ = Asn.blk g11 44 #[.string (ofL (fE s).key), .string (ofL (fE s).val), .bool (fE s).ghost] * (Asn.blk g12 4 #[.bool s.isSome] * (A2 * (Asn.blk g2 44 #[.string (ofL e.key), .string (ofL e.val), .bool e.ghost] * (Asn.blk g7 62 #[.func (.func kf) #[] cap] * C)))) by ac_rfl)) (.string (ofL e.key)) (.string (ofL e.val)) (.bool e.ghost))
    have S4 := Lib.hid (own_1 (S3.out.re (show _ = Asn.blk g12 4 #[.bool s.isSome] * (Asn.blk g11 44 #[.string (ofL e.key), .string (ofL e.val), .bool e.ghost] * (A2 * (Asn.blk g2 44 #[.string (ofL e.key), .string (ofL e.val), .bool e.ghost] * (Asn.blk g7 62 #[.func (.func kf) #[] cap] * C)))) by ac_rfl)) (.bool true))
    clear S2 S3
    go_upto_region 3 with fail
    clear c12 c12b d0 d1 d2 f0 f1 f2 k0 k1 k2
    generalize World.setCell (World.setCell (World.setCell (World.setCell w2 _ _) _ _) _ _) _ _ = w3 at *
    have c12 := (S4.out.has (Has.l (has_blk g12 _ _))).cell 0
    go_wp2_with fail
    go_returns
    rw [hf]
    exact ⟨rfl, (S4.out.re (show _ = Asn.blk g2 44 #[.string (ofL e.key), .string (ofL e.val), .bool e.ghost] * (A2 * (Asn.blk g7 62 #[.func (.func kf) #[] cap] * (Asn.blk g11 44 #[.string (ofL e.key), .string (ofL e.val), .bool e.ghost] * Asn.blk g12 4 #[.bool true])) * C) by ac_rfl)).right⟩
/-- What Next and After come to. -/
def firR (S : Sf) (root : Int) (key : By) (q : Ent → Bool) : Nat × Option Ent :=
  if (goR S (fstep q) root key none).1 = 0 then (0, (goR S (fstep q) root key none).2) else ((goR S (fstep q) root key none).1, none)
section
variable (gs : Nat) (S : Sf) (V : Nat → Value)
set_option maxRecDepth 100000 in
set_option maxHeartbeats 16000000 in
theorem first_any (hs : Sm S) (hv : LvOk S) (kf : FuncId) (cap : Array Value) (A2 : Asn) (q : Ent → Bool) (root : Int) (key : By) (w0 : World) (hkf : ∀ args w, (callFunc kf args).run Try.prog w = .ok (.enter kf args) w)
    (HF : ∀ e W C, Own w0 No W (A2 * C) → Calls Try.prog kf (#[.agg (entCells e)] ++ cap) W fun r W' => r = .returned (.bool (q e)) ∧ Own w0 No W' (A2 * C))
    (w : World) (C : Asn) (hS : Own w0 No w (A2 * (aSf gs S V * C))) :
    Calls Try.prog 63 #[pgs gs, .int .i64 root, .string (ofL key), .func (.func kf) #[] cap] w fun r w' => r = .returned (.tuple #[.agg (entCells (fE (firR S root key q).2)), .bool (firR S root key q).2.isSome, .int .i64 (firR S root key q).1]) ∧ Own w0 No w' (A2 * (aSf gs S V * C)) := by
  have S0 := Lib.hid ((((hS.alloc #[.func (.func kf) #[] cap] 62).alloc #[.string ⟨#[]⟩, .string ⟨#[]⟩, .bool false] 44).alloc #[.string ⟨#[]⟩, .string ⟨#[]⟩, .bool false] 44).alloc #[.bool false] 4)
  have HGo := Lib.hid (fun g7 g11 g12 W D (h : Own w0 No W (aFirst g7 g11 g12 kf cap A2 none * (aSf gs S V * D))) => goOn_any gs S V hs hv (fstep q) (aFirst g7 g11 g12 kf cap A2) 78 #[.pointer (some ⟨g7, 0, none⟩), .pointer (some ⟨g11, 0, none⟩), .pointer (some ⟨g12, 0, none⟩)] root key w0 (fun _ => 0) (fun _ _ => Nat.zero_le _) (fun _ _ => by kernel_rfl) (fun s e W C _ h => first1_any g7 g11 g12 kf cap A2 q w0 hkf HF s e W C h) none rfl W D h)
  have hmf : ∀ (fn : Fn) (first cap : Array Value) (w : World), (Instr.makeFunc fn first cap).run Try.prog w = .ok (.func fn first cap) w := fun _ _ _ _ => rfl
  obtain ⟨r, hr⟩ : ∃ r, r = firR S root key q := ⟨_, rfl⟩
  rw [← hr]
  unfold firR at hr
  generalize goR S (fstep q) root key none = rr at *
  have HR := Lib.hid hr
  clear hr hS HF hkf
  unfold pgs at *
  go_enter Try.func63, Try.ntmps63
  go_wp2_with fail
  simp only [World.size_alloc] at S0
  obtain ⟨g7, hgz⟩ : ∃ g, g = w.heap.size := ⟨_, rfl⟩
  rw [← hgz] at S0 ⊢
  clear hgz
  generalize World.alloc (World.alloc (World.alloc (World.alloc w _) _) _) _ = w1 at *
  generalize g7 + 1 = g8 at *
  generalize g8 + 1 = g11 at *
  generalize g11 + 1 = g12 at *
  have S1 := Lib.hid (S0.out.re (show _ = aFirst g7 g11 g12 kf cap A2 none * (aSf gs S V * (Asn.blk g8 44 #[.string ⟨#[]⟩, .string ⟨#[]⟩, .bool false] * C)) by unfold aFirst; rw [show entCells (fE none) = #[.string ⟨#[]⟩, .string ⟨#[]⟩, .bool false] from rfl, show (none : Option Ent).isSome = false from rfl]; ac_rfl))
  refine (HGo.out g7 g11 g12 _ _ S1.out).mono ?_
  rintro e w2 ⟨rfl, hX⟩
  have S2 := Lib.hid hX
  clear hX HGo S0 S1
  obtain ⟨er, s⟩ := rr
  dsimp only at S2 HR
  have S3 := Lib.hid (S2.out.re (show _ = Asn.blk g8 44 #[.string ⟨#[]⟩, .string ⟨#[]⟩, .bool false] * (Asn.blk g11 44 #[.string (ofL (fE s).key), .string (ofL (fE s).val), .bool (fE s).ghost] * (Asn.blk g12 4 #[.bool s.isSome] * (A2 * (Asn.blk g7 62 #[.func (.func kf) #[] cap] * (aSf gs S V * C))))) by unfold aFirst entCells; ac_rfl))
  clear S2
  obtain ⟨⟨d0, d1, d2⟩, f0, f1, f2⟩ := three_of (S3.out.has (Has.l (has_blk g8 _ _)))
  have hne : g8 ≠ g11 := S3.out.ne (mem_blk _ _ _) (Mem.l (mem_blk _ _ _))
  have hne2 : g8 ≠ g12 := S3.out.ne (mem_blk _ _ _) (Mem.r (Mem.l (mem_blk _ _ _)))
  by_cases he : er = 0
  · subst he
    have hr := HR.out
    rw [if_pos rfl] at hr
    subst hr
    obtain ⟨⟨k0, k1, k2⟩, -⟩ := three_of (S3.out.has (Has.r (Has.l (has_blk g11 _ _))))
    have l0 := (S3.out.has (Has.r (Has.r (Has.l (has_blk g12 _ _))))).cell 0
    have S4 := Lib.hid (own_3 S3.out (.string (ofL (fE s).key)) (.string (ofL (fE s).val)) (.bool (fE s).ghost))
    go_upto_region 6 with fail
    go_region
    go_wp2_with fail
    have S5 := Lib.hid S4.out.drew
    clear S4 S3
    generalize World.drew (World.setCell (World.setCell (World.setCell w2 _ _) _ _) _ _) = w3 at *
    refine bodyPost_ret (resE (x := 8) (y := 9) (z := 10) (v1 := .bool s.isSome) (v2 := .int .i64 0) rfl rfl rfl rfl (S5.out.has (Has.l (has_blk g8 _ _)))) rfl ?_
    exact ⟨rfl, (S5.out.re (show _ = (Asn.blk g8 44 #[.string (ofL (fE s).key), .string (ofL (fE s).val), .bool (fE s).ghost] * (Asn.blk g11 44 #[.string (ofL (fE s).key), .string (ofL (fE s).val), .bool (fE s).ghost] * (Asn.blk g12 4 #[.bool s.isSome] * Asn.blk g7 62 #[.func (.func kf) #[] cap]))) * (A2 * (aSf gs S V * C)) by ac_rfl)).right⟩
  · have hr := HR.out
    rw [if_neg he] at hr
    subst hr
    have he2 : ((er : Nat) : Int) ≠ 0 := by simpa using he
    have S4 := Lib.hid (own_3 S3.out (.string ⟨#[]⟩) (.string ⟨#[]⟩) (.bool false))
    clear S3
    go_wp2_with fail
    clear d0 d1 d2 f0 f1 f2
    generalize World.setCell (World.setCell (World.setCell w2 _ _) _ _) _ _ = w3 at *
    refine bodyPost_ret (resE (x := 8) (y := 9) (z := 10) (v1 := .bool false) (v2 := .int .i64 (er : Int)) rfl rfl rfl rfl (S4.out.has (Has.l (has_blk g8 _ _)))) rfl ?_
    exact ⟨rfl, (S4.out.re (show _ = (Asn.blk g8 44 #[.string ⟨#[]⟩, .string ⟨#[]⟩, .bool false] * (Asn.blk g11 44 #[.string (ofL (fE s).key), .string (ofL (fE s).val), .bool (fE s).ghost] * (Asn.blk g12 4 #[.bool s.isSome] * Asn.blk g7 62 #[.func (.func kf) #[] cap]))) * (A2 * (aSf gs S V * C)) by ac_rfl)).right⟩
end
end Go.Proofs.Ytfahgejiclgbfaa.Wk
end

-- joined
section
namespace Go.Proofs.Ytfahgejiclgbfaa.Wk
open Go.ChangeShapes Go.WideShapes Go.ChangeAt Go.RowKit Go.PlainAid Aid Nt Nd Tr Bk
set_option linter.unusedVariables false
set_option linter.unusedSimpArgs false
set_option linter.unusedSectionVars false
def nxtQ (key : By) (e : Ent) : Bool := !lt e.key key
def aftQ (key : By) (e : Ent) : Bool := !Nd.le e.key key
section
variable (gs : Nat) (S : Sf) (V : Nat → Value)
set_option maxRecDepth 100000 in
set_option maxHeartbeats 8000000 in
theorem Next_any (hs : Sm S) (hv : LvOk S) (root : Int) (key : By) (w0 w : World) (C : Asn) (hS : Own w0 No w (aSf gs S V * C)) :
    Calls Try.prog 34 #[pgs gs, .int .i64 root, .string (ofL key)] w fun r w' => r = .returned (.tuple #[.agg (entCells (fE (firR S root key (nxtQ key)).2)), .bool (firR S root key (nxtQ key)).2.isSome, .int .i64 (firR S root key (nxtQ key)).1]) ∧ Own w0 No w' (aSf gs S V * C) := by
  have S0 := Lib.hid ((hS.alloc #[.string (ofL key)] 9).alloc #[.string ⟨#[]⟩, .string ⟨#[]⟩, .bool false] 44)
  have HFi := Lib.hid (fun g W D (h : Own w0 No W (aKey g key * (aSf gs S V * D))) => first_any gs S V hs hv 64 #[.pointer (some ⟨g, 0, none⟩)] (aKey g key) (nxtQ key) root key w0 (fun _ _ => by kernel_rfl) (fun e W C h => next1_any g key e w0 W C h) W D h)
  have hmf : ∀ (fn : Fn) (first cap : Array Value) (w : World), (Instr.makeFunc fn first cap).run Try.prog w = .ok (.func fn first cap) w := fun _ _ _ _ => rfl
  generalize firR S root key (nxtQ key) = r at *
  unfold pgs entCells at *
  clear hS
  go_enter Try.func34, Try.ntmps34
  simp only [World.size_alloc] at S0
  go_upto_region 1 with fail
  obtain ⟨g5, hgz⟩ : ∃ g, g = w.heap.size := ⟨_, rfl⟩
  rw [← hgz] at S0 ⊢
  clear hgz
  generalize World.alloc (World.alloc w _) _ = w1 at *
  generalize g5 + 1 = g6 at *
  have c5 := (S0.out.has (Has.r (Has.l (has_blk g5 _ _)))).cell 0
  go_wp2_with fail
  refine (HFi.out g5 _ _ (S0.out.re (show _ = aKey g5 key * (aSf gs S V * (Asn.blk g6 44 #[.string ⟨#[]⟩, .string ⟨#[]⟩, .bool false] * C)) by unfold aKey; ac_rfl))).mono ?_
  rintro e w2 ⟨rfl, hX⟩
  have S1 := Lib.hid (hX.re (show _ = Asn.blk g6 44 #[.string ⟨#[]⟩, .string ⟨#[]⟩, .bool false] * (aKey g5 key * (aSf gs S V * C)) by ac_rfl))
  clear hX S0 HFi c5
  obtain ⟨⟨d0, d1, d2⟩, f0, f1, f2⟩ := three_of (S1.out.has (Has.l (has_blk g6 _ _)))
  have S2 := Lib.hid (own_3 S1.out (.string (ofL (fE r.2).key)) (.string (ofL (fE r.2).val)) (.bool (fE r.2).ghost))
  clear S1
  go_wp2_with fail
  clear d0 d1 d2 f0 f1 f2
  generalize World.setCell (World.setCell (World.setCell w2 _ _) _ _) _ _ = w3 at *
  refine bodyPost_ret (resE (x := 6) (y := 7) (z := 8) (v1 := .bool r.2.isSome) (v2 := .int .i64 (r.1 : Int)) rfl rfl rfl rfl (S2.out.has (Has.l (has_blk g6 _ _)))) rfl ?_
  exact ⟨rfl, S2.out.right.right⟩
set_option maxRecDepth 100000 in
set_option maxHeartbeats 8000000 in
theorem After_any (hs : Sm S) (hv : LvOk S) (root : Int) (key : By) (w0 w : World) (C : Asn) (hS : Own w0 No w (aSf gs S V * C)) :
    Calls Try.prog 36 #[pgs gs, .int .i64 root, .string (ofL key)] w fun r w' => r = .returned (.tuple #[.agg (entCells (fE (firR S root key (aftQ key)).2)), .bool (firR S root key (aftQ key)).2.isSome, .int .i64 (firR S root key (aftQ key)).1]) ∧ Own w0 No w' (aSf gs S V * C) := by
  have S0 := Lib.hid ((hS.alloc #[.string (ofL key)] 9).alloc #[.string ⟨#[]⟩, .string ⟨#[]⟩, .bool false] 44)
  have HFi := Lib.hid (fun g W D (h : Own w0 No W (aKey g key * (aSf gs S V * D))) => first_any gs S V hs hv 65 #[.pointer (some ⟨g, 0, none⟩)] (aKey g key) (aftQ key) root key w0 (fun _ _ => by kernel_rfl) (fun e W C h => after1_any g key e w0 W C h) W D h)
  have hmf : ∀ (fn : Fn) (first cap : Array Value) (w : World), (Instr.makeFunc fn first cap).run Try.prog w = .ok (.func fn first cap) w := fun _ _ _ _ => rfl
  generalize firR S root key (aftQ key) = r at *
  unfold pgs entCells at *
  clear hS
  go_enter Try.func36, Try.ntmps36
  simp only [World.size_alloc] at S0
  go_upto_region 1 with fail
  obtain ⟨g5, hgz⟩ : ∃ g, g = w.heap.size := ⟨_, rfl⟩
  rw [← hgz] at S0 ⊢
  clear hgz
  generalize World.alloc (World.alloc w _) _ = w1 at *
  generalize g5 + 1 = g6 at *
  have c5 := (S0.out.has (Has.r (Has.l (has_blk g5 _ _)))).cell 0
  go_wp2_with fail
  refine (HFi.out g5 _ _ (S0.out.re (show _ = aKey g5 key * (aSf gs S V * (Asn.blk g6 44 #[.string ⟨#[]⟩, .string ⟨#[]⟩, .bool false] * C)) by unfold aKey; ac_rfl))).mono ?_
  rintro e w2 ⟨rfl, hX⟩
  have S1 := Lib.hid (hX.re (show _ = Asn.blk g6 44 #[.string ⟨#[]⟩, .string ⟨#[]⟩, .bool false] * (aKey g5 key * (aSf gs S V * C)) by ac_rfl))
  clear hX S0 HFi c5
  obtain ⟨⟨d0, d1, d2⟩, f0, f1, f2⟩ := three_of (S1.out.has (Has.l (has_blk g6 _ _)))
  have S2 := Lib.hid (own_3 S1.out (.string (ofL (fE r.2).key)) (.string (ofL (fE r.2).val)) (.bool (fE r.2).ghost))
  clear S1
  go_wp2_with fail
  clear d0 d1 d2 f0 f1 f2
  generalize World.setCell (World.setCell (World.setCell w2 _ _) _ _) _ _ = w3 at *
  refine bodyPost_ret (resE (x := 6) (y := 7) (z := 8) (v1 := .bool r.2.isSome) (v2 := .int .i64 (r.1 : Int)) rfl rfl rfl rfl (S2.out.has (Has.l (has_blk g6 _ _)))) rfl ?_
  exact ⟨rfl, S2.out.right.right⟩
/-- What Gap comes to. -/
def endB : ByteArray := ⟨#[255, 255, 255, 255, 255, 255, 255, 255, 255]⟩
def gapR (S : Sf) (root : Int) (key : By) : Nat × ByteArray :=
  if (firR S root key (aftQ key)).1 = 0 then (match (firR S root key (aftQ key)).2 with
    | some e => (0, ofL e.key)
    | none => (0, endB)) else ((firR S root key (aftQ key)).1, ⟨#[]⟩)
set_option maxRecDepth 100000 in
set_option maxHeartbeats 8000000 in
theorem Gap_any (hs : Sm S) (hv : LvOk S) (root : Int) (key : By) (w0 w : World) (C : Asn) (hS : Own w0 No w (aSf gs S V * C)) :
    Calls Try.prog 37 #[pgs gs, .int .i64 root, .string (ofL key)] w fun r w' => r = .returned (.tuple #[.string (gapR S root key).2, .int .i64 (gapR S root key).1]) ∧ Own w0 No w' (aSf gs S V * C) := by
  have HAf := Lib.hid (After_any gs S V hs hv root key w0 w C hS)
  obtain ⟨r, hr⟩ : ∃ r, r = gapR S root key := ⟨_, rfl⟩
  rw [← hr]
  unfold gapR at hr
  generalize firR S root key (aftQ key) = fr at *
  obtain ⟨er, s⟩ := fr
  dsimp only at hr HAf
  have HR := Lib.hid hr
  clear hr hS
  unfold pgs entCells at *
  go_enter Try.func37, Try.ntmps37
  go_wp2_with fail
  refine HAf.out.mono ?_
  rintro e w2 ⟨rfl, hX⟩
  have S1 := Lib.hid (hX.alloc #[.string (ofL (fE s).key), .string (ofL (fE s).val), .bool (fE s).ghost] 44)
  clear hX HAf
  by_cases he : er = 0
  · subst he
    have hr := HR.out
    rw [if_pos rfl] at hr
    have HR2 := Lib.hid hr
    clear hr HR
    cases s with
    | none =>
      have hr := HR2.out
      dsimp only at hr
      subst hr
      go_wp2_with fail
      go_returns
      exact ⟨rfl, S1.out.right⟩
    | some e =>
      have hr := HR2.out
      dsimp only at hr
      subst hr
      rw [show fE (some e) = e from rfl] at S1
      go_upto_region 4 with fail
      rw [show fE (some e) = e from rfl]
      obtain ⟨g8, hgz⟩ : ∃ g, g = w2.heap.size := ⟨_, rfl⟩
      rw [← hgz] at S1 ⊢
      clear hgz
      generalize World.alloc w2 _ = w3 at *
      have c8 := (S1.out.has (Has.l (has_blk g8 _ _))).cell 0
      go_wp2_with fail
      go_returns
      exact ⟨rfl, S1.out.right⟩
  · have hr := HR.out
    rw [if_neg he] at hr
    subst hr
    have he2 : ((er : Nat) : Int) ≠ 0 := by simpa using he
    go_wp2_with fail
    go_returns
    exact ⟨rfl, S1.out.right⟩
end
end Go.Proofs.Ytfahgejiclgbfaa.Wk
end
