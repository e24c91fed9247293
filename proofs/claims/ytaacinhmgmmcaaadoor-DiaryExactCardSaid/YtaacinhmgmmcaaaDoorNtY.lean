/- Texts of ours, joined. -/
import Derived.Test.YtaacinhmgmmcaaaDoorNtV
import Derived.Test.YtaacinhmgmmcaaaDoorNtU

-- joined
section
namespace Go.Proofs.YtaacinhmgmmcaaaDoor.Nt
open Go.ChangeShapes Go.WideShapes Go.ChangeAt Go.RowKit Go.PlainAid Aid Cr
set_option linter.unusedVariables false
set_option linter.unusedSimpArgs false
def bytesV (r : Rec) : Value := if goodB r then .tuple #[.string (ofL (bytes r)), .int .i64 0] else .tuple #[.string ⟨#[]⟩, .int .i64 1]
theorem sealS_ofL (l : By) : sealS (ofL l) = ofL (l ++ tailL (crc l)) := rfl
theorem headed_ne (r : Rec) : headed r ≠ [] := by unfold headed; simp [numL]
set_option maxRecDepth 100000 in
set_option maxHeartbeats 4000000 in
theorem Bytes_good (r : Rec) (v : Value) (w : World) (hv : RecAt w v r) (hg : goodB r = true) (ht : Tab w) :
    Calls Tryd.prog 27 #[v] w fun e w' => e = .returned (.tuple #[.string (ofL (bytes r)), .int .i64 0]) ∧ Below w.heap.size w w' := by
  have g := goods hg
  have hsz := size_small g
  have hbs := body_size r g.pg
  have E1 : Hid (∀ w', Below w.heap.size w w' → _) := Lib.hid (fun w' (hb : Below w.heap.size w w') => Good_any r v w' (hv.keep hb))
  rw [hg] at E1
  have E2 : Hid (∀ w', Below w.heap.size w w' → _) := Lib.hid (fun w' (hb : Below w.heap.size w w') => sizeOf_any r g v w' (hv.keep hb))
  have E3 := Lib.hid (fun (gb : Nat) (l : By) w' (S : Own w No w' (aW gb l)) (hl : l.length < 100000) => rec_write w w' gb l r v g hv S hl)
  have ET : Hid (∀ w', Below w.heap.size w w' → Tab w') := Lib.hid (fun w' hb => by
    obtain ⟨h1, h2⟩ := ht
    exact ⟨by have := hb.size; omega, fun i hi => by rw [(bcell hb).1 _ _ h1]; exact h2 i hi⟩)
  have ES := Lib.hid (fun w' (ht : Tab w') => Seal_any (ofL (headed r)) w' (by rw [ofL_sz, headed_len]; omega) ht)
  rw [sealS_ofL, show headed r ++ tailL (crc (headed r)) = bytes r from rfl] at ES
  have EQ := Lib.hid (fun gb => bString 102 gb (headed r) (headed_ne r))
  have EG := Lib.hid (fun gb => bGrow 102 bldW gb (sizeR r) (by unfold sizeR; omega) (by omega))
  have hnum : numI 4 ((sizeR r : Int) - 4 - 4) = numL 4 (body r).length := by unfold numI; congr 1; omega
  have EN := Lib.hid (fun gb => tNumI gb [] ((sizeR r : Int) - 4 - 4) 4 (by simp) (by omega) (by omega))
  rw [List.nil_append, hnum] at EN
  have hl4 : (numL 4 (body r).length).length < 100000 := by rw [numL_length]; decide
  have E3' := Lib.hid (fun gb w' S => E3.out gb (numL 4 (body r).length) w' S hl4)
  rw [show numL 4 (body r).length ++ body r = headed r from rfl] at E3'
  clear hbs hnum E3 ht hl4
  generalize numL 4 (body r).length = l0 at *
  generalize headed r = l1 at *
  generalize ofL l1 = x1 at *
  generalize ofL (bytes r) = x2 at *
  generalize sizeR r = N at *
  obtain ⟨p, o, d, rfl, -⟩ := hv
  have S := Lib.hid ((Own.none w).alloc (recCells r p o d) 45).left
  clear g hg
  unfold recCells at *
  unfold bPtr at *
  go_enter Tryd.func27, Tryd.ntmps27
  go_wp2_with fail
  obtain ⟨gr, hgz⟩ : ∃ g, g = w.heap.size := ⟨_, rfl⟩
  rw [← hgz] at S ⊢
  clear hgz
  generalize w.alloc _ = w1 at *
  refine (E1.out _ S.out.bel).mono ?_
  rintro e w2 ⟨rfl, hX⟩
  have S2 := Lib.hid ((S.out.below hX).alloc #[.pointer none, .slice none 0 0] 102)
  clear hX S
  obtain ⟨c0, c1, c2, c3, c4, c5, c6, c7, c8, c9, c10⟩ := rec_cells (S2.out.has (Has.r (has_blk _ _ _)))
  go_wp2_with fail
  obtain ⟨gb, hgz⟩ : ∃ g, g = w2.heap.size := ⟨_, rfl⟩
  rw [← hgz] at S2 ⊢
  clear hgz
  generalize w2.alloc _ = w3 at *
  refine (E2.out _ S2.out.bel).mono ?_
  rintro e w4 ⟨rfl, hX⟩
  have S3 := Lib.hid (S2.out.below hX)
  clear hX S2 c0 c1 c2 c3 c4 c5 c6 c7 c8 c9 c10
  go_wp2_with fail
  refine (S3.out.call ((EG.out gb).l)).mono ?_
  rintro e w5 ⟨rfl, hX⟩
  have S4 := Lib.hid hX
  clear hX S3 
  obtain ⟨c0, c1, c2, c3, c4, c5, c6, c7, c8, c9, c10⟩ := rec_cells (S4.out.has (Has.r (has_blk _ _ _)))
  go_wp2_with fail
  refine (E2.out _ S4.out.bel).mono ?_
  rintro e w6 ⟨rfl, hX⟩
  have S5 := Lib.hid (S4.out.below hX)
  clear hX S4 c0 c1 c2 c3 c4 c5 c6 c7 c8 c9 c10
  go_wp2_with fail
  refine (S5.out.call ((EN.out gb).l)).mono ?_
  rintro e w7 ⟨rfl, hX⟩
  have S6 := Lib.hid hX
  clear hX S5 
  obtain ⟨c0, c1, c2, c3, c4, c5, c6, c7, c8, c9, c10⟩ := rec_cells (S6.out.has (Has.r (has_blk _ _ _)))
  go_wp2_with fail
  refine (E3'.out gb _ S6.out.left).mono ?_
  rintro e w8 ⟨rfl, hX⟩
  have S7 := Lib.hid hX
  clear hX S6 c0 c1 c2 c3 c4 c5 c6 c7 c8 c9 c10
  go_wp2_with fail
  refine (S7.out.call (EQ.out gb)).mono ?_
  rintro e w9 ⟨rfl, hX⟩
  have S8 := Lib.hid hX
  clear hX S7 
  go_wp2_with fail
  refine (ES.out _ (ET.out _ S8.out.bel)).mono ?_
  rintro e w10 ⟨rfl, hX⟩
  have S9 := Lib.hid (S8.out.below hX)
  clear hX S8 
  go_wp2_with fail
  go_returns
  exact ⟨rfl, S9.out.bel⟩
set_option maxRecDepth 100000 in
set_option maxHeartbeats 4000000 in
theorem Bytes_bad (r : Rec) (v : Value) (w : World) (hv : RecAt w v r) (hg : goodB r = false) :
    Calls Tryd.prog 27 #[v] w fun e w' => e = .returned (.tuple #[.string ⟨#[]⟩, .int .i64 1]) ∧ Below w.heap.size w w' := by
  have E1 : Hid (∀ w', Below w.heap.size w w' → _) := Lib.hid (fun w' (hb : Below w.heap.size w w') => Good_any r v w' (hv.keep hb))
  rw [hg] at E1
  obtain ⟨p, o, d, rfl, -⟩ := hv
  have S := Lib.hid ((Own.none w).alloc (recCells r p o d) 45).left
  clear hg
  unfold recCells at *
  go_enter Tryd.func27, Tryd.ntmps27
  go_wp2_with fail
  obtain ⟨gr, hgz⟩ : ∃ g, g = w.heap.size := ⟨_, rfl⟩
  rw [← hgz] at S ⊢
  clear hgz
  generalize w.alloc _ = w1 at *
  refine (E1.out _ S.out.bel).mono ?_
  rintro e w2 ⟨rfl, hX⟩
  have S2 := Lib.hid (S.out.below hX)
  clear hX S
  go_wp2_with fail
  go_returns
  exact ⟨rfl, S2.out.bel⟩
theorem Bytes_any (r : Rec) (v : Value) (w : World) (hv : RecAt w v r) (ht : Tab w) :
    Calls Tryd.prog 27 #[v] w fun e w' => e = .returned (bytesV r) ∧ Below w.heap.size w w' := by
  unfold bytesV
  cases hg : goodB r
  · exact Bytes_bad r v w hv hg
  · exact Bytes_good r v w hv hg ht
end Go.Proofs.YtaacinhmgmmcaaaDoor.Nt
end

-- joined
section
namespace Go.Proofs.YtaacinhmgmmcaaaDoor.Nt
open Go.ChangeShapes Go.WideShapes Go.ChangeAt Go.RowKit Go.PlainAid Aid Cr
set_option linter.unusedVariables false
set_option linter.unusedSimpArgs false
def SomeBool (e : Ending) : Prop := ∃ b, e = .returned (.bool b)
end Go.Proofs.YtaacinhmgmmcaaaDoor.Nt
end

-- joined
section
namespace Go.Proofs.YtaacinhmgmmcaaaDoor.Nt
open Go.ChangeShapes Go.WideShapes Go.ChangeAt Go.RowKit Go.PlainAid Aid Cr
set_option linter.unusedVariables false
set_option linter.unusedSimpArgs false
def r35 : Rec := ⟨3, 5, 0, 0, [], Und.none, [], []⟩
theorem r35_good : goodB r35 = true := by decide +kernel
theorem r35_len : (bytes r35).length = 29 := by decide +kernel
theorem r35_nine : (bytes r35).take 9 = [21, 0, 0, 0, 3, 5, 0, 0, 0] := by decide +kernel
theorem read_nil : readR [] = none := by decide +kernel
theorem rV_some (r : Rec) (n : Nat) (v : Value) : rV (some (r, n)) v = .tuple #[v, .int .i64 n, .int .i64 0] := rfl
theorem rV_none (v : Value) : rV none v = .tuple #[v, .int .i64 0, .int .i64 3] := rfl
theorem RecAt.form {w : World} {v : Value} {r : Rec} (h : RecAt w v r) : ∃ A1 m1 A2 m2 A3 m3, v = .agg (recCells r (.slice A1 r.pages.length m1) (.slice A2 r.opn.length m2) (.slice A3 r.dty.length m3)) := by
  obtain ⟨p, o, d, rfl, hp, ho, hd⟩ := h
  obtain ⟨A1, m1, rfl⟩ := hp.slice
  obtain ⟨A2, m2, rfl⟩ := ho.slice
  obtain ⟨A3, m3, rfl⟩ := hd.slice
  exact ⟨_, _, _, _, _, _, rfl⟩
end Go.Proofs.YtaacinhmgmmcaaaDoor.Nt
end
