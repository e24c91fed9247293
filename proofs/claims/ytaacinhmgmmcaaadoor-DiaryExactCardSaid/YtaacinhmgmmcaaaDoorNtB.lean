/- Good, sizeOf and Size of a record. -/
import Derived.Test.YtaacinhmgmmcaaaDoorNtA
namespace Go.Proofs.YtaacinhmgmmcaaaDoor.Nt
open Go.ChangeShapes Go.WideShapes Go.ChangeAt Go.RowKit Go.PlainAid Aid Cr
set_option linter.unusedVariables false
set_option linter.unusedSimpArgs false

/-- A record that a call holds for itself. -/
def aRec (g : Nat) (r : Rec) (p o d : Value) : Asn := Asn.blk g 45 (recCells r p o d)
theorem rec_cells {w : World} {g : Nat} {r : Rec} {p o d : Value} (h : Blk w g 45 (recCells r p o d)) :
    w.cell? ⟨g, 0, none⟩ = some (.int .i64 r.kind) ∧ w.cell? ⟨g, 1, none⟩ = some (.int .i64 r.deal) ∧ w.cell? ⟨g, 2, none⟩ = some (.int .i64 r.prev) ∧ w.cell? ⟨g, 3, none⟩ = some (.int .i64 r.next) ∧ w.cell? ⟨g, 4, none⟩ = some p ∧
    w.cell? ⟨g, 5, none⟩ = some (.int .i64 r.und.kind) ∧ w.cell? ⟨g, 6, none⟩ = some (.int .i64 r.und.tree) ∧ w.cell? ⟨g, 7, none⟩ = some (.string (ofL r.und.key)) ∧ w.cell? ⟨g, 8, none⟩ = some (.string (ofL r.und.val)) ∧ w.cell? ⟨g, 9, none⟩ = some o ∧ w.cell? ⟨g, 10, none⟩ = some d :=
  ⟨h.cell 0, h.cell 1, h.cell 2, h.cell 3, h.cell 4, h.cell 5, h.cell 6, h.cell 7, h.cell 8, h.cell 9, h.cell 10⟩
theorem ofL_sz (l : By) : (ofL l).size = l.length := rfl

set_option maxHeartbeats 2000000 in
theorem Good_any (r : Rec) (v : Value) (w : World) (hv : RecAt w v r) :
    Calls Tryd.prog 43 #[v] w fun e w' => e = .returned (.bool (goodB r)) ∧ Below w.heap.size w w' := by
  obtain ⟨p, o, d, rfl, hp, ho, hd⟩ := hv
  obtain ⟨A1, m1, rfl⟩ := hp.slice
  obtain ⟨A2, m2, rfl⟩ := ho.slice
  obtain ⟨A3, m3, rfl⟩ := hd.slice
  have S := Lib.hid ((Own.none w).alloc (recCells r (.slice A1 r.pages.length m1) (.slice A2 r.opn.length m2) (.slice A3 r.dty.length m3)) 45).left
  obtain ⟨c0, c1, c2, c3, -, c5, c6, c7, c8, -, -⟩ := rec_cells (S.out.has (has_blk _ _ _))
  have e0 := fun w => within_any r.kind 1 6 w
  have e1 := fun w => isNumber_any r.deal w
  have e2 := fun w => isNumber_any r.prev w
  have e3 := fun w => isNumber_any r.next w
  have e4 := fun w => goodUndo_any r.und w
  have E5 : Hid (∀ w', Below w.heap.size w w' → _) := Lib.hid (fun w' (hb : Below w.heap.size w w') => goodListImage_any A1 _ m1 8 r.pages w' (hp.keep hb))
  have E6 : Hid (∀ w', Below w.heap.size w w' → _) := Lib.hid (fun w' (hb : Below w.heap.size w w') => goodListOpen_any A2 _ m2 16 r.opn w' (ho.keep hb))
  have E7 : Hid (∀ w', Below w.heap.size w w' → _) := Lib.hid (fun w' (hb : Below w.heap.size w w') => goodListDirty_any A3 _ m3 256 r.dty w' (hd.keep hb))
  have hg : goodB r = ((decide (1 ≤ r.kind) && decide (r.kind ≤ 6)) && inN r.deal 2147483647 && inN r.prev 2147483647 && inN r.next 2147483647 && gUnd r.und &&
    (decide ((r.pages.length : Int) ≤ 8) && r.pages.all gImg) && (decide ((r.opn.length : Int) ≤ 16) && r.opn.all gOpn) && (decide ((r.dty.length : Int) ≤ 256) && r.dty.all gDty)) := by
    unfold goodB
    simp only [show ((r.pages.length : Int) ≤ 8) = (r.pages.length ≤ 8) by simp; omega, show ((r.opn.length : Int) ≤ 16) = (r.opn.length ≤ 16) by simp; omega, show ((r.dty.length : Int) ≤ 256) = (r.dty.length ≤ 256) by simp; omega]
  rw [hg]
  clear hp ho hd hg
  unfold undV at e4
  generalize (decide (1 ≤ r.kind) && decide (r.kind ≤ 6)) = b0 at *
  generalize inN r.deal 2147483647 = b1 at *
  generalize inN r.prev 2147483647 = b2 at *
  generalize inN r.next 2147483647 = b3 at *
  generalize gUnd r.und = b4 at *
  generalize (decide ((r.pages.length : Int) ≤ 8) && r.pages.all gImg) = b5 at *
  generalize (decide ((r.opn.length : Int) ≤ 16) && r.opn.all gOpn) = b6 at *
  generalize (decide ((r.dty.length : Int) ≤ 256) && r.dty.all gDty) = b7 at *
  unfold goodImageF goodOpenF goodDirtyF at *
  unfold recCells at *
  go_enter Tryd.func43, Tryd.ntmps43
  go_wp2_with fail
  obtain ⟨g, hgz⟩ : ∃ g, g = w.heap.size := ⟨_, rfl⟩
  rw [← hgz] at S ⊢ c0 c1 c2 c3 c5 c6 c7 c8
  clear hgz
  generalize w.alloc _ = w1 at *
  refine (e0 _).mono ?_
  rintro e w' ⟨rfl, rfl⟩
  cases b0
  · go_wp2_with fail
    go_returns
    exact ⟨rfl, S.out.bel⟩
  go_wp2_with fail
  refine (e1 _).mono ?_
  rintro e w' ⟨rfl, rfl⟩
  cases b1
  · go_wp2_with fail
    go_returns
    exact ⟨rfl, S.out.bel⟩
  go_wp2_with fail
  refine (e2 _).mono ?_
  rintro e w' ⟨rfl, rfl⟩
  cases b2
  · go_wp2_with fail
    go_returns
    exact ⟨rfl, S.out.bel⟩
  go_wp2_with fail
  refine (e3 _).mono ?_
  rintro e w' ⟨rfl, rfl⟩
  cases b3
  · go_wp2_with fail
    go_returns
    exact ⟨rfl, S.out.bel⟩
  go_wp2_with fail
  refine (e4 _).mono ?_
  rintro e w2 ⟨rfl, hX⟩
  have S2 := Lib.hid (S.out.below hX)
  clear hX S c0 c1 c2 c3 c5 c6 c7 c8
  cases b4
  · go_wp2_with fail
    go_returns
    exact ⟨rfl, S2.out.bel⟩
  obtain ⟨-, -, -, -, c4, -, -, -, -, -, -⟩ := rec_cells (S2.out.has (has_blk _ _ _))
  go_wp2_with fail
  refine (E5.out _ S2.out.bel).mono ?_
  rintro e w3 ⟨rfl, hX⟩
  have S3 := Lib.hid (S2.out.below hX)
  clear hX S2 c4
  cases b5
  · go_wp2_with fail
    go_returns
    exact ⟨rfl, S3.out.bel⟩
  obtain ⟨-, -, -, -, -, -, -, -, -, c9, -⟩ := rec_cells (S3.out.has (has_blk _ _ _))
  go_wp2_with fail
  refine (E6.out _ S3.out.bel).mono ?_
  rintro e w4 ⟨rfl, hX⟩
  have S4 := Lib.hid (S3.out.below hX)
  clear hX S3 c9
  cases b6
  · go_wp2_with fail
    go_returns
    exact ⟨rfl, S4.out.bel⟩
  obtain ⟨-, -, -, -, -, -, -, -, -, -, c10⟩ := rec_cells (S4.out.has (has_blk _ _ _))
  go_wp2_with fail
  refine (E7.out _ S4.out.bel).mono ?_
  rintro e w5 ⟨rfl, hX⟩
  have S5 := Lib.hid (S4.out.below hX)
  clear hX S4 c10
  go_wp2_with fail
  go_returns
  exact ⟨ret_bool (by cases b7 <;> rfl), S5.out.bel⟩

set_option maxHeartbeats 2000000 in
theorem sizeOf_any (r : Rec) (hr : Goods r) (v : Value) (w : World) (hv : RecAt w v r) :
    Calls Tryd.prog 45 #[v] w fun e w' => e = .returned (.int .i64 (sizeR r)) ∧ Below w.heap.size w w' := by
  obtain ⟨p, o, d, rfl, hp, ho, hd⟩ := hv
  obtain ⟨A1, m1, rfl⟩ := hp.slice
  obtain ⟨A2, m2, rfl⟩ := ho.slice
  obtain ⟨A3, m3, rfl⟩ := hd.slice
  have B0 : Hid (Below w.heap.size w (w.alloc (.cells (recCells r (.slice A1 r.pages.length m1) (.slice A2 r.opn.length m2) (.slice A3 r.dty.length m3)) 45))) := Lib.hid (blA (Below.refl _ _) _)
  have he : (sizeR r : Int) = 29 + (ofL r.und.key).size + (ofL r.und.val).size + 258 * (r.pages.length : Int) + 8 * (r.opn.length : Int) + 6 * (r.dty.length : Int) := by
    rw [ofL_sz, ofL_sz]; unfold sizeR; omega
  rw [he]
  have h1 := hr.key
  have h2 := hr.val
  rw [← ofL_sz] at h1 h2
  have h3 := hr.pl
  have h4 := hr.ol
  have h5 := hr.dl
  clear hp ho hd he
  unfold recCells at *
  generalize ofL r.und.key = a at *
  generalize ofL r.und.val = b at *
  generalize r.pages.length = n1 at *
  generalize r.opn.length = n2 at *
  generalize r.dty.length = n3 at *
  go_enter Tryd.func45, Tryd.ntmps45
  go_wp2_with fail
  go_returns
  exact ⟨ret_int (by omega), B0.out⟩
end Go.Proofs.YtaacinhmgmmcaaaDoor.Nt
