/- The law's own: awake. -/
import Derived.Test.YtciamgggblajoaaDoorNtG
namespace Go.Proofs.YtciamgggblajoaaDoor.Nt
open Go.ChangeShapes Go.WideShapes Go.ChangeAt Go.RowKit Go.PlainAid Aid Cr
set_option linter.unusedVariables false
set_option linter.unusedSimpArgs false
def r35 : Rec := ⟨3, 5, 0, 0, [], Und.none, [], []⟩
theorem r35_good : goodB r35 = true := by decide +kernel
theorem r35_len : (bytes r35).length = 29 := by decide +kernel
theorem r35_nine : (bytes r35).take 9 = [21, 0, 0, 0, 3, 5, 0, 0, 0] := by decide +kernel
theorem read_nil : readR [] = none := by decide +kernel
theorem rV_some (r : Rec) (n : Nat) (v : Value) : rV (some (r, n)) v = .tuple #[v, .int .i64 n, .int .i64 0] := rfl
theorem rV_none (v : Value) : rV none v = .tuple #[v, .int .i64 0, .int .i64 3] := rfl
theorem RecAt.form {w : World} {v : Value} {r : Rec} (h : RecAt w v r) : ∃ A1 m1 A2 m2 A3 m3, v = .agg (recCells r (.slice A1 r.pages.length m1) (.slice A2 r.opn.length m2) (.slice A3 r.dty.length m3)) := by
  obtain ⟨p, o, d, rfl, hp, ho, hd⟩ := h
  obtain ⟨A1, m1, rfl⟩ := hp.slice
  obtain ⟨A2, m2, rfl⟩ := ho.slice
  obtain ⟨A3, m3, rfl⟩ := hd.slice
  exact ⟨_, _, _, _, _, _, rfl⟩
set_option maxRecDepth 100000 in
set_option maxHeartbeats 4000000 in
theorem awake_any (w : World) (ht : Tab w) :
    Calls Tryd.prog 8 #[] w fun e w' => e = .returned (.bool true) ∧ Below w.heap.size w w' := by
  have E1 := Lib.hid (Bytes_good r35 (.agg (recCells r35 (.slice none 0 0) (.slice none 0 0) (.slice none 0 0))) w ⟨_, _, _, rfl, Row2.nil _ _, Row2.nil _ _, Row2.nil _ _⟩ r35_good ht)
  have HT := Lib.hid ht
  have E2 := Lib.hid (fun w' (S : Own w No w' Asn.emp) => Read_any (bytes r35 ++ [120]) w' (by rw [List.length_append, r35_len]; decide) (Tab.own ht S))
  rw [read_bytes r35 r35_good [120], r35_len] at E2
  have E3 := Lib.hid (fun w' (S : Own w No w' Asn.emp) => Read_any [] w' (by decide) (Tab.own ht S))
  rw [read_nil] at E3
  have hz : (ofL (bytes r35)).size = 29 := r35_len
  have hcat : ofL (bytes r35) ++ (⟨#[120]⟩ : ByteArray) = ofL (bytes r35 ++ [120]) := rfl
  have hsl : (ofL (bytes r35)).extract 0 9 = ⟨#[21, 0, 0, 0, 3, 5, 0, 0, 0]⟩ := by rw [ofL_take, r35_nine]; rfl
  have hni : ofL ([] : By) = ⟨#[]⟩ := rfl
  rw [hni] at E3
  have e35 : (Value.agg (recCells r35 (.slice none 0 0) (.slice none 0 0) (.slice none 0 0))) = .agg #[.int .i64 3, .int .i64 5, .int .i64 0, .int .i64 0, .slice none 0 0, .int .i64 0, .int .i64 0, .string ⟨#[]⟩, .string ⟨#[]⟩, .slice none 0 0, .slice none 0 0] := rfl
  rw [e35] at E1
  generalize ofL (bytes r35 ++ [120]) = y at *
  generalize ofL (bytes r35) = x at *
  clear ht e35 hni
  go_enter Tryd.func8, Tryd.ntmps8
  go_wp2_with fail
  refine E1.out.mono ?_
  rintro e w1 ⟨rfl, hb⟩
  have S1 := Lib.hid (Own.of_below hb)
  clear hb E1
  go_wp2_with fail
  refine (E2.out _ S1.out).mono ?_
  rintro e w2 ⟨⟨v, rfl, hv⟩, hb⟩
  have S2 := Lib.hid (S1.out.below hb)
  obtain ⟨A1, m1, A2, m2, A3, m3, rfl⟩ := hv.form
  have S3 := Lib.hid (S2.out.alloc (recCells r35 (.slice A1 r35.pages.length m1) (.slice A2 r35.opn.length m2) (.slice A3 r35.dty.length m3)) 28).right
  clear hb hv E2 S1 S2
  unfold recCells at *
  unfold rR at *
  dsimp only at *
  rw [rV_some]
  go_wp2_with fail
  refine (E3.out _ (S3.out.imp (fun _ _ h => h))).mono ?_
  rintro e w3 ⟨⟨v, rfl, hv⟩, hb⟩
  have S4 := Lib.hid (S3.out.below hb)
  obtain ⟨B1, n1, B2, n2, B3, n3, rfl⟩ := hv.form
  have S5 := Lib.hid (S4.out.alloc (recCells Rec.none (.slice B1 Rec.none.pages.length n1) (.slice B2 Rec.none.opn.length n2) (.slice B3 Rec.none.dty.length n3)) 28).right
  clear hb hv E3 S3 S4
  unfold recCells at *
  dsimp only at *
  rw [rV_none]
  go_wp2_with fail
  go_returns
  exact ⟨rfl, S5.out.bel⟩
end Go.Proofs.YtciamgggblajoaaDoor.Nt
