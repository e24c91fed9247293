/- grown, of three keys: each is put at once. -/
import Derived.Test.YtfahgejiclgbfaaOpenB
import Derived.Test.YtfahgejiclgbfaaBkPu
import Derived.Deep.DeepCutAuto
namespace Go.Proofs.Ytfahgejiclgbfaa.Wk
open Go.ChangeShapes Go.WideShapes Go.ChangeAt Go.RowKit Go.PlainAid Aid Nt Nd Tr Bk
open Ky (keyZ)
set_option linter.unusedVariables false
set_option linter.unusedSimpArgs false
set_option linter.unusedSectionVars false
theorem mk_conv {w0 W : World} {D : Asn} {gm : Nat} (h : Own w0 No W (Asn.blk gm 5 (madeCells #[.int .u8 0] 40) * D)) : (convert 63 9 (.slice (some ⟨gm, 0, none⟩) 40 40)).run Try.prog W = .ok (.string (ofL (List.replicate 40 0))) W := by
  have hb := h.has (Has.l (has_blk gm _ _))
  refine conv_row Try.underlying63 Try.underlying5 Try.underlying9 gm 0 40 (List.replicate 40 0) (fun i x hx => ?_) 40 (by simp)
  obtain ⟨hi, rfl⟩ := List.getElem?_eq_some_iff.1 hx
  simp at hi
  rw [Nat.zero_add, hb.cell i, List.getElem_replicate]
  simp [madeCells, hi, Nat.mod_one]
theorem store3 {w : World} {g : Nat} {a0 a1 a2 : Value} (h : Blk w g 44 #[a0, a1, a2]) (b0 b1 : ByteArray) (b2 : Bool) :
    (Instr.storeAt 44 (.pointer (some ⟨g, 0, none⟩)) (.agg #[.string b0, .string b1, .bool b2])).run Try.prog w =
      .ok () (((w.setCell ⟨g, 0, none⟩ (.string b0)).setCell ⟨g, 1, none⟩ (.string b1)).setCell ⟨g, 2, none⟩ (.bool b2)) := by
  obtain ⟨⟨d0, d1, d2⟩, f0, f1, f2⟩ := three_of h
  clear h
  go_simp
/-- The entries of the three keys; the shelf and the entries in a row behind each. -/
def ek (i : Nat) : Ent := ⟨keyZ (2 * ((i : Int) + 1)), List.replicate 40 0, false⟩
def gS : Nat → Sf
  | 0 => T0
  | i + 1 => puts (gS i) (putR (gS i) 3 (ek i)).2
def gL : Nat → List Ent
  | 0 => []
  | i + 1 => putE (gL i) (ek i)
theorem g_ok : ∀ i : Fin 3, (putR (gS i.val) 3 (ek i.val)).1 = 0 ∧ (putR (gS i.val) 3 (ek i.val)).2.length = 1 ∧ (∀ x, x ∈ (putR (gS i.val) 3 (ek i.val)).2 → x.2.list.length ≤ 99999 ∧ x.2.level ≤ 9223372036854775807) := by decide +kernel
theorem g_list : ∀ i : Fin 4, (gL i.val).length = i.val ∧ ∀ x, x ∈ gL i.val → x.key.length ≤ 100 := by decide +kernel
theorem g_sm : ∀ i, i ≤ 3 → Sm (gS i) ∧ LvOk (gS i)
  | 0, _ => m0
  | i + 1, h => by
    obtain ⟨a, b⟩ := g_sm i (by omega)
    have hg := (g_ok ⟨i, by omega⟩).2.2
    exact ⟨a.puts fun x hx => (hg x hx).1, b.puts fun x hx => (hg x hx).2⟩
theorem ek_len (i : Nat) : (ek i).key.length ≤ 100 := by
  show (Ky.keyZ _).length ≤ 100
  unfold Ky.keyZ
  rw [← Lib.size_eq, Sg.codeS_size]
  decide
set_option maxRecDepth 100000 in
set_option maxHeartbeats 32000000 in
theorem grown3_any (gk ck : Nat) (w : World) (hk : gk < w.heap.size) (q0 : w.cell? ⟨gk, 0, none⟩ = some (.int .i64 2)) (q1 : w.cell? ⟨gk, 1, none⟩ = some (.int .i64 4)) (q2 : w.cell? ⟨gk, 2, none⟩ = some (.int .i64 6)) :
    Calls Try.prog 32 #[.slice (some ⟨gk, 0, none⟩) 3 ck, .int .i64 0] w fun r w' => ∃ gs V A c, r = .returned (.tuple #[sPtr gs, .slice A 3 c]) ∧ Own w No w' (Asn.vec 44 3 (.slice A 3 c) 3 (cells3 (gL 3)) * (aSf gs (gS 3) V * Asn.emp)) := by
  have HQ0 := Lib.hid (fun W D (h : Own w No W D) => show W.cell? ⟨gk, 0, none⟩ = some (.int .i64 2) by rw [(bcell h.bel).1 _ _ hk]; exact q0)
  have HQ1 := Lib.hid (fun W D (h : Own w No W D) => show W.cell? ⟨gk, 1, none⟩ = some (.int .i64 4) by rw [(bcell h.bel).1 _ _ hk]; exact q1)
  have HQ2 := Lib.hid (fun W D (h : Own w No W D) => show W.cell? ⟨gk, 2, none⟩ = some (.int .i64 6) by rw [(bcell h.bel).1 _ _ hk]; exact q2)
  clear q0 q1 q2
  have hmk : ∀ W : World, (Instr.makeSlice 63 (.int .i64 40) (.int .i64 40)).run Try.prog W = .ok (.slice (some ⟨W.heap.size, 0, none⟩) 40 40) (W.alloc (.cells (madeCells #[.int .u8 0] 40) 5)) := fun W => make_rows (P := Try.prog) 63 5 (.int .u8 0) 1 1 Try.underlying63 (by kernel_rfl) .i64 .i64 40 (by decide) (by decide) W
  go_enter Try.func32, Try.ntmps32
  go_wp2_with fail
  refine (New_any w).mono ?_
  rintro e w1 ⟨gs, V0, rfl, hX⟩
  have S1 := Lib.hid (hX.addEmp.alloc #[] 44)
  clear hX
  unfold sPtr
  go_upto_region 5 with fail
  obtain ⟨g7, hgz⟩ : ∃ g, g = w1.heap.size := ⟨_, rfl⟩
  rw [← hgz] at S1 ⊢
  clear hgz
  generalize World.alloc w1 _ = w2 at *
  have S2 := Lib.hid (show Own w No w2 (Asn.vec 44 3 (.slice (some ⟨g7, 0, none⟩) 0 0) 0 (cells3 (gL 0)) * (aSf gs (gS 0) V0 * Asn.emp)) from S1.out.imp (Imp.l (blk_vec (cs := []) 0 3 rfl (by decide))))
  clear S1
  go_wp2_with fail
  go_loopw [7, 9] (fun s7 i wr => ∃ (k : Nat) (A7 : Option Addr) (c7 : Nat), k ≤ 3 ∧ i = .int .i64 k ∧ s7 = .slice A7 k c7 ∧ ∃ V', Hid (Own w No wr (Asn.vec 44 3 (.slice A7 k c7) k (cells3 (gL k)) * (aSf gs (gS k) V' * Asn.emp)))) (fun _ i _ => 3 - (intOf i).toNat)
  case atStart => exact ⟨0, _, _, by omega, rfl, rfl, V0, S2⟩
  case round =>
    clear S2
    obtain ⟨k, A7, c7, hk3, rfl, rfl, V', S1⟩ := hrel
    by_cases hlt : k < 3
    · rcases (by omega : k = 0 ∨ k = 1 ∨ k = 2) with rfl | rfl | rfl
      · have KC : Hid (∀ W D, Own w No W D → W.cell? ⟨gk, 0, none⟩ = some (.int .i64 2)) := HQ0
        have c0 := KC.out _ _ S1.out
        go_upto_region 9 with fail
        have S2 := Lib.hid S1.out.drew
        clear S1 c0
        go_cut [10] (fun s10 wx => ∃ ge : Nat, s10 = .pointer (some ⟨ge, 0, none⟩) ∧ Hid (Own w No wx (Asn.blk ge 44 #[.string (ofL (keyZ 2)), .string (ofL (List.replicate 40 0)), .bool false] * (Asn.vec 44 3 (.slice A7 0 c7) 0 (cells3 (gL 0)) * (aSf gs (gS 0) V' * Asn.emp)))))
        case first =>
          refine wp_region_held_drew (S := fun W : World => W.cell? ⟨gk, 0, none⟩ = some (.int .i64 2)) (by kernel_rfl) (KC.out _ _ S2.out) (fun hHeld => ?_)
          generalize wr.drew = w3 at *
          refine' wpAnyH_take (i := 0) (oi := ?op00) (v := ?vp00) ?hp00 ?sp00 ?fp00 ?zp00 ?qp00 ?yp00 ?ap00 ?rp00
          case hp00 => (simp only [List.getElem?_toArray, List.getElem?_cons_succ, List.getElem?_cons_zero]; rfl)
          case sp00 => kernel_rfl
          case fp00 => kernel_rfl
          case zp00 => kernel_rfl
          case qp00 => exact fun _ _ _ h => h
          case yp00 => (refine Or.inl ⟨rfl, ?_⟩; intro w hSw; (try dsimp only at hSw); go_simp; try with_reducible rfl)
          case ap00 => assumption
          case rp00 =>
          simp only [Act.put, List.setIfInBounds_toArray, List.set_cons_zero, List.set_cons_succ]
          refine' wpAnyH_take (i := 1) (oi := ?op01) (v := ?vp01) ?hp01 ?sp01 ?fp01 ?zp01 ?qp01 ?yp01 ?ap01 ?rp01
          case hp01 => (simp only [List.getElem?_toArray, List.getElem?_cons_succ, List.getElem?_cons_zero]; rfl)
          case sp01 => kernel_rfl
          case fp01 => kernel_rfl
          case zp01 => kernel_rfl
          case qp01 => exact fun _ _ _ h => h
          case yp01 => (refine Or.inl ⟨rfl, ?_⟩; intro w hSw; (try dsimp only at hSw); go_simp; try with_reducible rfl)
          case ap01 => assumption
          case rp01 =>
          simp only [Act.put, List.setIfInBounds_toArray, List.set_cons_zero, List.set_cons_succ]
          refine' wpAnyH_take (i := 2) (oi := ?op02) (v := ?vp02) ?hp02 ?sp02 ?fp02 ?zp02 ?qp02 ?yp02 ?ap02 ?rp02
          case hp02 => (simp only [List.getElem?_toArray, List.getElem?_cons_succ, List.getElem?_cons_zero]; rfl)
          case sp02 => kernel_rfl
          case fp02 => kernel_rfl
          case zp02 => kernel_rfl
          case qp02 => exact fun _ _ _ h => h
          case yp02 => (refine Or.inl ⟨rfl, ?_⟩; intro w hSw; (try dsimp only at hSw); go_simp; try with_reducible rfl)
          case ap02 => assumption
          case rp02 =>
          simp only [Act.put, List.setIfInBounds_toArray, List.set_cons_zero, List.set_cons_succ]
          refine' wpAnyH_take (i := 3) (oi := ?op03) (v := ?vp03) ?hp03 ?sp03 ?fp03 ?zp03 ?qp03 ?yp03 ?ap03 ?rp03
          case hp03 => (simp only [List.getElem?_toArray, List.getElem?_cons_succ, List.getElem?_cons_zero]; rfl)
          case sp03 => kernel_rfl
          case fp03 => kernel_rfl
          case zp03 => kernel_rfl
          case qp03 => exact fun _ _ _ h => h
          case yp03 => (refine Or.inl ⟨rfl, ?_⟩; intro w hSw; (try dsimp only at hSw); go_simp; try with_reducible rfl)
          case ap03 => assumption
          case rp03 =>
          simp only [Act.put, List.setIfInBounds_toArray, List.set_cons_zero, List.set_cons_succ]
          refine' wpAnyH_take (i := 4) (oi := ?op04) (v := ?vp04) ?hp04 ?sp04 ?fp04 ?zp04 ?qp04 ?yp04 ?ap04 ?rp04
          case hp04 => (simp only [List.getElem?_toArray, List.getElem?_cons_succ, List.getElem?_cons_zero]; rfl)
          case sp04 => kernel_rfl
          case fp04 => kernel_rfl
          case zp04 => kernel_rfl
          case qp04 => exact fun _ _ _ h => h
          case yp04 => (refine Or.inl ⟨rfl, ?_⟩; intro w hSw; (try dsimp only at hSw); go_simp; try with_reducible rfl)
          case ap04 => assumption
          case rp04 =>
          simp only [Act.put, List.setIfInBounds_toArray, List.set_cons_zero, List.set_cons_succ]
          refine' wpAnyH_take (i := 5) (oi := ?op05) (v := ?vp05) ?hp05 ?sp05 ?fp05 ?zp05 ?qp05 ?yp05 ?ap05 ?rp05
          case hp05 => (simp only [List.getElem?_toArray, List.getElem?_cons_succ, List.getElem?_cons_zero]; rfl)
          case sp05 => kernel_rfl
          case fp05 => kernel_rfl
          case zp05 => kernel_rfl
          case qp05 => exact fun _ _ _ h => h
          case yp05 => (refine Or.inl ⟨rfl, ?_⟩; intro w hSw; (try dsimp only at hSw); go_simp; try with_reducible rfl)
          case ap05 => assumption
          case rp05 =>
          simp only [Act.put, List.setIfInBounds_toArray, List.set_cons_zero, List.set_cons_succ]
          refine' wpAnyH_take (i := 6) (oi := ?op06) (v := ?vp06) ?hp06 ?sp06 ?fp06 ?zp06 ?qp06 ?yp06 ?ap06 ?rp06
          case hp06 => (simp only [List.getElem?_toArray, List.getElem?_cons_succ, List.getElem?_cons_zero]; rfl)
          case sp06 => kernel_rfl
          case fp06 => kernel_rfl
          case zp06 => kernel_rfl
          case qp06 => exact fun _ _ _ h => h
          case yp06 => (refine Or.inl ⟨rfl, ?_⟩; intro w hSw; (try dsimp only at hSw); go_simp; try with_reducible rfl)
          case ap06 => assumption
          case rp06 =>
          simp only [Act.put, List.setIfInBounds_toArray, List.set_cons_zero, List.set_cons_succ]
          refine' wpAnyH_take (i := 10) (oi := ?op010) (v := ?vp010) ?hp010 ?sp010 ?fp010 ?zp010 ?qp010 ?yp010 ?ap010 ?rp010
          case hp010 => (simp only [List.getElem?_toArray, List.getElem?_cons_succ, List.getElem?_cons_zero]; rfl)
          case sp010 => kernel_rfl
          case fp010 => kernel_rfl
          case zp010 => kernel_rfl
          case qp010 => exact fun _ _ _ h => h
          case yp010 => (refine Or.inl ⟨rfl, ?_⟩; intro w hSw; (try dsimp only at hSw); go_simp; try with_reducible rfl)
          case ap010 => assumption
          case rp010 =>
          simp only [Act.put, List.setIfInBounds_toArray, List.set_cons_zero, List.set_cons_succ]
          refine' wpAnyH_take (i := 11) (oi := ?op011) (v := ?vp011) ?hp011 ?sp011 ?fp011 ?zp011 ?qp011 ?yp011 ?ap011 ?rp011
          case hp011 => (simp only [List.getElem?_toArray, List.getElem?_cons_succ, List.getElem?_cons_zero]; rfl)
          case sp011 => kernel_rfl
          case fp011 => kernel_rfl
          case zp011 => kernel_rfl
          case qp011 => exact fun _ _ _ h => h
          case yp011 => (refine Or.inl ⟨rfl, ?_⟩; intro w hSw; (try dsimp only at hSw); go_simp; try with_reducible rfl)
          case ap011 => assumption
          case rp011 =>
          simp only [Act.put, List.setIfInBounds_toArray, List.set_cons_zero, List.set_cons_succ]
          refine' wpAnyH_take (i := 12) (oi := ?op012) (v := ?vp012) ?hp012 ?sp012 ?fp012 ?zp012 ?qp012 ?yp012 ?ap012 ?rp012
          case hp012 => (simp only [List.getElem?_toArray, List.getElem?_cons_succ, List.getElem?_cons_zero]; rfl)
          case sp012 => kernel_rfl
          case fp012 => kernel_rfl
          case zp012 => kernel_rfl
          case qp012 => exact fun _ _ _ h => h
          case yp012 => (refine Or.inl ⟨rfl, ?_⟩; intro w hSw; (try dsimp only at hSw); go_simp; try with_reducible rfl)
          case ap012 => assumption
          case rp012 =>
          simp only [Act.put, List.setIfInBounds_toArray, List.set_cons_zero, List.set_cons_succ]
          refine' wpAnyH_take (i := 13) (oi := ?op013) (v := ?vp013) ?hp013 ?sp013 ?fp013 ?zp013 ?qp013 ?yp013 ?ap013 ?rp013
          case hp013 => (simp only [List.getElem?_toArray, List.getElem?_cons_succ, List.getElem?_cons_zero]; rfl)
          case sp013 => kernel_rfl
          case fp013 => kernel_rfl
          case zp013 => kernel_rfl
          case qp013 => exact fun _ _ _ h => h
          case yp013 => (refine Or.inl ⟨rfl, ?_⟩; intro w hSw; (try dsimp only at hSw); go_simp; try with_reducible rfl)
          case ap013 => assumption
          case rp013 =>
          simp only [Act.put, List.setIfInBounds_toArray, List.set_cons_zero, List.set_cons_succ]
          refine' wpAnyH_take (i := 14) (oi := ?op014) (v := ?vp014) ?hp014 ?sp014 ?fp014 ?zp014 ?qp014 ?yp014 ?ap014 ?rp014
          case hp014 => (simp only [List.getElem?_toArray, List.getElem?_cons_succ, List.getElem?_cons_zero]; rfl)
          case sp014 => kernel_rfl
          case fp014 => kernel_rfl
          case zp014 => kernel_rfl
          case qp014 => exact fun _ _ _ h => h
          case yp014 => (refine Or.inl ⟨rfl, ?_⟩; intro w hSw; (try dsimp only at hSw); go_simp; try with_reducible rfl)
          case ap014 => assumption
          case rp014 =>
          simp only [Act.put, List.setIfInBounds_toArray, List.set_cons_zero, List.set_cons_succ]
          refine' wpAnyH_take (i := 15) (oi := ?op015) (v := ?vp015) ?hp015 ?sp015 ?fp015 ?zp015 ?qp015 ?yp015 ?ap015 ?rp015
          case hp015 => (simp only [List.getElem?_toArray, List.getElem?_cons_succ, List.getElem?_cons_zero]; rfl)
          case sp015 => kernel_rfl
          case fp015 => kernel_rfl
          case zp015 => kernel_rfl
          case qp015 => exact fun _ _ _ h => h
          case yp015 => (refine Or.inl ⟨rfl, ?_⟩; intro w hSw; (try dsimp only at hSw); go_simp; try with_reducible rfl)
          case ap015 => assumption
          case rp015 =>
          simp only [Act.put, List.setIfInBounds_toArray, List.set_cons_zero, List.set_cons_succ]
          refine wpAnyH_ready (rs := [7, 8, 17]) (by kernel_rfl) (by simp) ?_
          refine' AllReadyH.cons (o := ?or7x1) ?hr7x1 ?kr7x1 ?mr7x1
          case hr7x1 => (simp only [List.getElem?_toArray, List.getElem?_cons_succ, List.getElem?_cons_zero]; rfl)
          case kr7x1 =>
            intro K0 hK
            go_simp
            go_at_call 33
            refine (key11_any 2 _ (by decide) (by decide)).mono ?_
            rintro eK w102 ⟨rfl, hX⟩
            have S102 := Lib.hid (S2.out.below hX)
            clear hX
            refine hK.out _ _ ?_ (fun hHeld => ?_)
            · exact KC.out _ _ S102.out
            clear hK K0
            (try simp only [Act.put, List.setIfInBounds_toArray, List.set_cons_zero, List.set_cons_succ])
            refine wpAnyH_ready (rs := [8, 17]) (by kernel_rfl) (by simp) ?_
            refine' AllReadyH.cons (o := ?or8x3) ?hr8x3 ?kr8x3 ?mr8x3
            case hr8x3 => (simp only [List.getElem?_toArray, List.getElem?_cons_succ, List.getElem?_cons_zero]; rfl)
            case kr8x3 =>
              intro K0 hK
              go_simp
              have S104 := Lib.hid ((S102.out.alloc (madeCells #[.int .u8 0] 40) 5))
              obtain ⟨gm, hgz⟩ : ∃ g, g = w102.heap.size := ⟨_, rfl⟩
              rw [← hgz] at S104 ⊢
              clear hgz
              generalize World.alloc w102 _ = w104 at *
              have CV := Lib.hid (fun W D (h : Own w No W (Asn.blk gm 5 (madeCells #[.int .u8 0] 40) * D)) => mk_conv h)
              refine hK.out _ _ ?_ (fun hHeld => ?_)
              · exact KC.out _ _ S104.out
              clear hK K0
              (try simp only [Act.put, List.setIfInBounds_toArray, List.set_cons_zero, List.set_cons_succ])
              refine wpAnyH_weak (S := fun W => (W.cell? ⟨gk, 0, none⟩ = some (.int .i64 2)) ∧ ((convert 63 9 (.slice (some ⟨gm, 0, none⟩) 40 40)).run Try.prog W = .ok (.string (ofL (List.replicate 40 0))) W)) (fun _ h => h.1) _ _ _ _ ?_
              have hHeld2 := And.intro (KC.out _ _ S104.out) (CV.out _ _ S104.out)
              refine' wpAnyH_take (i := 9) (oi := ?ot5z9) (v := ?vt5z9) ?ht5z9 ?st5z9 ?ft5z9 ?zt5z9 ?qt5z9 ?yt5z9 ?at5z9 ?rt5z9
              case ht5z9 => (simp only [List.getElem?_toArray, List.getElem?_cons_succ, List.getElem?_cons_zero]; rfl)
              case st5z9 => kernel_rfl
              case ft5z9 => kernel_rfl
              case zt5z9 => kernel_rfl
              case qt5z9 => exact fun _ _ _ h => h
              case yt5z9 => (refine Or.inl ⟨rfl, ?_⟩; intro w hSw; obtain ⟨hS1, hS2⟩ := hSw; go_simp; try with_reducible rfl)
              case at5z9 => assumption
              case rt5z9 =>
              simp only [Act.put, List.setIfInBounds_toArray, List.set_cons_zero, List.set_cons_succ]
              refine' wpAnyH_take (i := 16) (oi := ?ot6z16) (v := ?vt6z16) ?ht6z16 ?st6z16 ?ft6z16 ?zt6z16 ?qt6z16 ?yt6z16 ?at6z16 ?rt6z16
              case ht6z16 => (simp only [List.getElem?_toArray, List.getElem?_cons_succ, List.getElem?_cons_zero]; rfl)
              case st6z16 => kernel_rfl
              case ft6z16 => kernel_rfl
              case zt6z16 => kernel_rfl
              case qt6z16 => exact fun _ _ _ h => h
              case yt6z16 => (refine Or.inl ⟨rfl, ?_⟩; intro w hSw; (try dsimp only at hSw); go_simp; try with_reducible rfl)
              case at6z16 => assumption
              case rt6z16 =>
              simp only [Act.put, List.setIfInBounds_toArray, List.set_cons_zero, List.set_cons_succ]
              refine wpAnyH_ready (rs := [17]) (by kernel_rfl) (by simp) ?_
              refine' AllReadyH.cons (o := ?or17x7) ?hr17x7 ?kr17x7 AllReadyH.nil
              case hr17x7 => (simp only [List.getElem?_toArray, List.getElem?_cons_succ, List.getElem?_cons_zero]; rfl)
              case kr17x7 =>
                intro K0 hK
                go_simp
                obtain ⟨ge, hgz⟩ : ∃ g, g = w104.heap.size := ⟨_, rfl⟩
                have S108a := Lib.hid (S104.out.alloc #[.string ⟨#[]⟩, .string ⟨#[]⟩, .bool false] 44)
                rw [← hgz] at S108a ⊢
                clear hgz
                have S108 := Lib.hid (S108a.out.re (show _ = Asn.blk gm 5 (madeCells #[.int .u8 0] 40) * (Asn.blk ge 44 #[.string ⟨#[]⟩, .string ⟨#[]⟩, .bool false] * (Asn.vec 44 3 (.slice A7 0 c7) 0 (cells3 (gL 0)) * (aSf gs (gS 0) V' * Asn.emp))) by ac_rfl))
                clear S108a
                generalize World.alloc w104 _ = w108 at *
                refine hK.out _ _ ?_ (fun hHeld => ?_)
                · exact ⟨KC.out _ _ S108.out, CV.out _ _ S108.out⟩
                clear hK K0
                (try simp only [Act.put, List.setIfInBounds_toArray, List.set_cons_zero, List.set_cons_succ])
                refine wpAnyH_ready (rs := [18]) (by kernel_rfl) (by simp) ?_
                refine' AllReadyH.cons (o := ?or18x9) ?hr18x9 ?kr18x9 AllReadyH.nil
                case hr18x9 => (simp only [List.getElem?_toArray, List.getElem?_cons_succ, List.getElem?_cons_zero]; rfl)
                case kr18x9 =>
                  intro K0 hK
                  have S110a := Lib.hid (S108.out.re (show _ = Asn.blk ge 44 #[.string ⟨#[]⟩, .string ⟨#[]⟩, .bool false] * (Asn.blk gm 5 (madeCells #[.int .u8 0] 40) * (Asn.vec 44 3 (.slice A7 0 c7) 0 (cells3 (gL 0)) * (aSf gs (gS 0) V' * Asn.emp))) by ac_rfl))
                  have HST := Lib.hid (store3 (S110a.out.has (Has.l (has_blk ge _ _))) (ofL (keyZ 2)) (ofL (List.replicate 40 0)) false)
                  have S110 := Lib.hid ((own_3 S110a.out (.string (ofL (keyZ 2))) (.string (ofL (List.replicate 40 0))) (.bool false)).re (show _ = Asn.blk gm 5 (madeCells #[.int .u8 0] 40) * (Asn.blk ge 44 #[.string (ofL (keyZ 2)), .string (ofL (List.replicate 40 0)), .bool false] * (Asn.vec 44 3 (.slice A7 0 c7) 0 (cells3 (gL 0)) * (aSf gs (gS 0) V' * Asn.emp))) by ac_rfl))
                  clear S110a
                  refine step_store_w rfl rfl (.tmp 10) (.tmp 53) 44 rfl (.pointer (some ⟨ge, 0, none⟩)) (.agg #[.string (ofL (keyZ 2)), .string (ofL (List.replicate 40 0)), .bool false]) rfl rfl _ HST.out ?_
                  clear HST
                  refine hK.out _ _ ?_ (fun hHeld => ?_)
                  · exact ⟨KC.out _ _ S110.out, CV.out _ _ S110.out⟩
                  clear hK K0
                  (try simp only [Act.put, List.setIfInBounds_toArray, List.set_cons_zero, List.set_cons_succ])
                  generalize World.setCell (World.setCell (World.setCell w108 _ _) _ _) _ _ = w110 at *
                  refine wpAnyH_done (by kernel_rfl) ?_ _
                  go_wp2_with fail
                  go_meet
                  case rel => exact ⟨ge, rfl, Lib.hid S110.out.right⟩
            case mr8x3 =>
            refine' AllReadyH.cons (o := ?or17x11) ?hr17x11 ?kr17x11 AllReadyH.nil
            case hr17x11 => (simp only [List.getElem?_toArray, List.getElem?_cons_succ, List.getElem?_cons_zero]; rfl)
            case kr17x11 =>
              intro K0 hK
              go_simp
              obtain ⟨ge, hgz⟩ : ∃ g, g = w102.heap.size := ⟨_, rfl⟩
              have S112a := Lib.hid (S102.out.alloc #[.string ⟨#[]⟩, .string ⟨#[]⟩, .bool false] 44)
              rw [← hgz] at S112a ⊢
              clear hgz
              have S112 := Lib.hid (S112a.out.re (show _ = Asn.blk ge 44 #[.string ⟨#[]⟩, .string ⟨#[]⟩, .bool false] * (Asn.vec 44 3 (.slice A7 0 c7) 0 (cells3 (gL 0)) * (aSf gs (gS 0) V' * Asn.emp)) by ac_rfl))
              clear S112a
              generalize World.alloc w102 _ = w112 at *
              refine hK.out _ _ ?_ (fun hHeld => ?_)
              · exact KC.out _ _ S112.out
              clear hK K0
              (try simp only [Act.put, List.setIfInBounds_toArray, List.set_cons_zero, List.set_cons_succ])
              refine wpAnyH_ready (rs := [8]) (by kernel_rfl) (by simp) ?_
              refine' AllReadyH.cons (o := ?or8x13) ?hr8x13 ?kr8x13 AllReadyH.nil
              case hr8x13 => (simp only [List.getElem?_toArray, List.getElem?_cons_succ, List.getElem?_cons_zero]; rfl)
              case kr8x13 =>
                intro K0 hK
                go_simp
                have S114 := Lib.hid ((S112.out.alloc (madeCells #[.int .u8 0] 40) 5))
                obtain ⟨gm, hgz⟩ : ∃ g, g = w112.heap.size := ⟨_, rfl⟩
                rw [← hgz] at S114 ⊢
                clear hgz
                generalize World.alloc w112 _ = w114 at *
                have CV := Lib.hid (fun W D (h : Own w No W (Asn.blk gm 5 (madeCells #[.int .u8 0] 40) * D)) => mk_conv h)
                refine hK.out _ _ ?_ (fun hHeld => ?_)
                · exact KC.out _ _ S114.out
                clear hK K0
                (try simp only [Act.put, List.setIfInBounds_toArray, List.set_cons_zero, List.set_cons_succ])
                refine wpAnyH_weak (S := fun W => (W.cell? ⟨gk, 0, none⟩ = some (.int .i64 2)) ∧ ((convert 63 9 (.slice (some ⟨gm, 0, none⟩) 40 40)).run Try.prog W = .ok (.string (ofL (List.replicate 40 0))) W)) (fun _ h => h.1) _ _ _ _ ?_
                have hHeld2 := And.intro (KC.out _ _ S114.out) (CV.out _ _ S114.out)
                refine' wpAnyH_take (i := 9) (oi := ?ot15z9) (v := ?vt15z9) ?ht15z9 ?st15z9 ?ft15z9 ?zt15z9 ?qt15z9 ?yt15z9 ?at15z9 ?rt15z9
                case ht15z9 => (simp only [List.getElem?_toArray, List.getElem?_cons_succ, List.getElem?_cons_zero]; rfl)
                case st15z9 => kernel_rfl
                case ft15z9 => kernel_rfl
                case zt15z9 => kernel_rfl
                case qt15z9 => exact fun _ _ _ h => h
                case yt15z9 => (refine Or.inl ⟨rfl, ?_⟩; intro w hSw; obtain ⟨hS1, hS2⟩ := hSw; go_simp; try with_reducible rfl)
                case at15z9 => assumption
                case rt15z9 =>
                simp only [Act.put, List.setIfInBounds_toArray, List.set_cons_zero, List.set_cons_succ]
                refine' wpAnyH_take (i := 16) (oi := ?ot16z16) (v := ?vt16z16) ?ht16z16 ?st16z16 ?ft16z16 ?zt16z16 ?qt16z16 ?yt16z16 ?at16z16 ?rt16z16
                case ht16z16 => (simp only [List.getElem?_toArray, List.getElem?_cons_succ, List.getElem?_cons_zero]; rfl)
                case st16z16 => kernel_rfl
                case ft16z16 => kernel_rfl
                case zt16z16 => kernel_rfl
                case qt16z16 => exact fun _ _ _ h => h
                case yt16z16 => (refine Or.inl ⟨rfl, ?_⟩; intro w hSw; (try dsimp only at hSw); go_simp; try with_reducible rfl)
                case at16z16 => assumption
                case rt16z16 =>
                simp only [Act.put, List.setIfInBounds_toArray, List.set_cons_zero, List.set_cons_succ]
                refine wpAnyH_ready (rs := [18]) (by kernel_rfl) (by simp) ?_
                refine' AllReadyH.cons (o := ?or18x17) ?hr18x17 ?kr18x17 AllReadyH.nil
                case hr18x17 => (simp only [List.getElem?_toArray, List.getElem?_cons_succ, List.getElem?_cons_zero]; rfl)
                case kr18x17 =>
                  intro K0 hK
                  have S118a := Lib.hid (S114.out.re (show _ = Asn.blk ge 44 #[.string ⟨#[]⟩, .string ⟨#[]⟩, .bool false] * (Asn.blk gm 5 (madeCells #[.int .u8 0] 40) * (Asn.vec 44 3 (.slice A7 0 c7) 0 (cells3 (gL 0)) * (aSf gs (gS 0) V' * Asn.emp))) by ac_rfl))
                  have HST := Lib.hid (store3 (S118a.out.has (Has.l (has_blk ge _ _))) (ofL (keyZ 2)) (ofL (List.replicate 40 0)) false)
                  have S118 := Lib.hid ((own_3 S118a.out (.string (ofL (keyZ 2))) (.string (ofL (List.replicate 40 0))) (.bool false)).re (show _ = Asn.blk gm 5 (madeCells #[.int .u8 0] 40) * (Asn.blk ge 44 #[.string (ofL (keyZ 2)), .string (ofL (List.replicate 40 0)), .bool false] * (Asn.vec 44 3 (.slice A7 0 c7) 0 (cells3 (gL 0)) * (aSf gs (gS 0) V' * Asn.emp))) by ac_rfl))
                  clear S118a
                  refine step_store_w rfl rfl (.tmp 10) (.tmp 53) 44 rfl (.pointer (some ⟨ge, 0, none⟩)) (.agg #[.string (ofL (keyZ 2)), .string (ofL (List.replicate 40 0)), .bool false]) rfl rfl _ HST.out ?_
                  clear HST
                  refine hK.out _ _ ?_ (fun hHeld => ?_)
                  · exact ⟨KC.out _ _ S118.out, CV.out _ _ S118.out⟩
                  clear hK K0
                  (try simp only [Act.put, List.setIfInBounds_toArray, List.set_cons_zero, List.set_cons_succ])
                  generalize World.setCell (World.setCell (World.setCell w114 _ _) _ _) _ _ = w118 at *
                  refine wpAnyH_done (by kernel_rfl) ?_ _
                  go_wp2_with fail
                  go_meet
                  case rel => exact ⟨ge, rfl, Lib.hid S118.out.right⟩
          case mr7x1 =>
          refine' AllReadyH.cons (o := ?or8x19) ?hr8x19 ?kr8x19 ?mr8x19
          case hr8x19 => (simp only [List.getElem?_toArray, List.getElem?_cons_succ, List.getElem?_cons_zero]; rfl)
          case kr8x19 =>
            intro K0 hK
            go_simp
            have S120 := Lib.hid ((S2.out.alloc (madeCells #[.int .u8 0] 40) 5))
            obtain ⟨gm, hgz⟩ : ∃ g, g = w3.heap.size := ⟨_, rfl⟩
            rw [← hgz] at S120 ⊢
            clear hgz
            generalize World.alloc w3 _ = w120 at *
            have CV := Lib.hid (fun W D (h : Own w No W (Asn.blk gm 5 (madeCells #[.int .u8 0] 40) * D)) => mk_conv h)
            refine hK.out _ _ ?_ (fun hHeld => ?_)
            · exact KC.out _ _ S120.out
            clear hK K0
            (try simp only [Act.put, List.setIfInBounds_toArray, List.set_cons_zero, List.set_cons_succ])
            refine wpAnyH_weak (S := fun W => (W.cell? ⟨gk, 0, none⟩ = some (.int .i64 2)) ∧ ((convert 63 9 (.slice (some ⟨gm, 0, none⟩) 40 40)).run Try.prog W = .ok (.string (ofL (List.replicate 40 0))) W)) (fun _ h => h.1) _ _ _ _ ?_
            have hHeld2 := And.intro (KC.out _ _ S120.out) (CV.out _ _ S120.out)
            refine' wpAnyH_take (i := 9) (oi := ?ot21z9) (v := ?vt21z9) ?ht21z9 ?st21z9 ?ft21z9 ?zt21z9 ?qt21z9 ?yt21z9 ?at21z9 ?rt21z9
            case ht21z9 => (simp only [List.getElem?_toArray, List.getElem?_cons_succ, List.getElem?_cons_zero]; rfl)
            case st21z9 => kernel_rfl
            case ft21z9 => kernel_rfl
            case zt21z9 => kernel_rfl
            case qt21z9 => exact fun _ _ _ h => h
            case yt21z9 => (refine Or.inl ⟨rfl, ?_⟩; intro w hSw; obtain ⟨hS1, hS2⟩ := hSw; go_simp; try with_reducible rfl)
            case at21z9 => assumption
            case rt21z9 =>
            simp only [Act.put, List.setIfInBounds_toArray, List.set_cons_zero, List.set_cons_succ]
            refine wpAnyH_ready (rs := [7, 17]) (by kernel_rfl) (by simp) ?_
            refine' AllReadyH.cons (o := ?or7x22) ?hr7x22 ?kr7x22 ?mr7x22
            case hr7x22 => (simp only [List.getElem?_toArray, List.getElem?_cons_succ, List.getElem?_cons_zero]; rfl)
            case kr7x22 =>
              intro K0 hK
              go_simp
              go_at_call 33
              refine (key11_any 2 _ (by decide) (by decide)).mono ?_
              rintro eK w123 ⟨rfl, hX⟩
              have S123 := Lib.hid (S120.out.below hX)
              clear hX
              refine hK.out _ _ ?_ (fun hHeld => ?_)
              · exact ⟨KC.out _ _ S123.out, CV.out _ _ S123.out⟩
              clear hK K0
              (try simp only [Act.put, List.setIfInBounds_toArray, List.set_cons_zero, List.set_cons_succ])
              refine' wpAnyH_take (i := 16) (oi := ?ot24z16) (v := ?vt24z16) ?ht24z16 ?st24z16 ?ft24z16 ?zt24z16 ?qt24z16 ?yt24z16 ?at24z16 ?rt24z16
              case ht24z16 => (simp only [List.getElem?_toArray, List.getElem?_cons_succ, List.getElem?_cons_zero]; rfl)
              case st24z16 => kernel_rfl
              case ft24z16 => kernel_rfl
              case zt24z16 => kernel_rfl
              case qt24z16 => exact fun _ _ _ h => h
              case yt24z16 => (refine Or.inl ⟨rfl, ?_⟩; intro w hSw; (try dsimp only at hSw); go_simp; try with_reducible rfl)
              case at24z16 => assumption
              case rt24z16 =>
              simp only [Act.put, List.setIfInBounds_toArray, List.set_cons_zero, List.set_cons_succ]
              refine wpAnyH_ready (rs := [17]) (by kernel_rfl) (by simp) ?_
              refine' AllReadyH.cons (o := ?or17x25) ?hr17x25 ?kr17x25 AllReadyH.nil
              case hr17x25 => (simp only [List.getElem?_toArray, List.getElem?_cons_succ, List.getElem?_cons_zero]; rfl)
              case kr17x25 =>
                intro K0 hK
                go_simp
                obtain ⟨ge, hgz⟩ : ∃ g, g = w123.heap.size := ⟨_, rfl⟩
                have S126a := Lib.hid (S123.out.alloc #[.string ⟨#[]⟩, .string ⟨#[]⟩, .bool false] 44)
                rw [← hgz] at S126a ⊢
                clear hgz
                have S126 := Lib.hid (S126a.out.re (show _ = Asn.blk gm 5 (madeCells #[.int .u8 0] 40) * (Asn.blk ge 44 #[.string ⟨#[]⟩, .string ⟨#[]⟩, .bool false] * (Asn.vec 44 3 (.slice A7 0 c7) 0 (cells3 (gL 0)) * (aSf gs (gS 0) V' * Asn.emp))) by ac_rfl))
                clear S126a
                generalize World.alloc w123 _ = w126 at *
                refine hK.out _ _ ?_ (fun hHeld => ?_)
                · exact ⟨KC.out _ _ S126.out, CV.out _ _ S126.out⟩
                clear hK K0
                (try simp only [Act.put, List.setIfInBounds_toArray, List.set_cons_zero, List.set_cons_succ])
                refine wpAnyH_ready (rs := [18]) (by kernel_rfl) (by simp) ?_
                refine' AllReadyH.cons (o := ?or18x27) ?hr18x27 ?kr18x27 AllReadyH.nil
                case hr18x27 => (simp only [List.getElem?_toArray, List.getElem?_cons_succ, List.getElem?_cons_zero]; rfl)
                case kr18x27 =>
                  intro K0 hK
                  have S128a := Lib.hid (S126.out.re (show _ = Asn.blk ge 44 #[.string ⟨#[]⟩, .string ⟨#[]⟩, .bool false] * (Asn.blk gm 5 (madeCells #[.int .u8 0] 40) * (Asn.vec 44 3 (.slice A7 0 c7) 0 (cells3 (gL 0)) * (aSf gs (gS 0) V' * Asn.emp))) by ac_rfl))
                  have HST := Lib.hid (store3 (S128a.out.has (Has.l (has_blk ge _ _))) (ofL (keyZ 2)) (ofL (List.replicate 40 0)) false)
                  have S128 := Lib.hid ((own_3 S128a.out (.string (ofL (keyZ 2))) (.string (ofL (List.replicate 40 0))) (.bool false)).re (show _ = Asn.blk gm 5 (madeCells #[.int .u8 0] 40) * (Asn.blk ge 44 #[.string (ofL (keyZ 2)), .string (ofL (List.replicate 40 0)), .bool false] * (Asn.vec 44 3 (.slice A7 0 c7) 0 (cells3 (gL 0)) * (aSf gs (gS 0) V' * Asn.emp))) by ac_rfl))
                  clear S128a
                  refine step_store_w rfl rfl (.tmp 10) (.tmp 53) 44 rfl (.pointer (some ⟨ge, 0, none⟩)) (.agg #[.string (ofL (keyZ 2)), .string (ofL (List.replicate 40 0)), .bool false]) rfl rfl _ HST.out ?_
                  clear HST
                  refine hK.out _ _ ?_ (fun hHeld => ?_)
                  · exact ⟨KC.out _ _ S128.out, CV.out _ _ S128.out⟩
                  clear hK K0
                  (try simp only [Act.put, List.setIfInBounds_toArray, List.set_cons_zero, List.set_cons_succ])
                  generalize World.setCell (World.setCell (World.setCell w126 _ _) _ _) _ _ = w128 at *
                  refine wpAnyH_done (by kernel_rfl) ?_ _
                  go_wp2_with fail
                  go_meet
                  case rel => exact ⟨ge, rfl, Lib.hid S128.out.right⟩
            case mr7x22 =>
            refine' AllReadyH.cons (o := ?or17x29) ?hr17x29 ?kr17x29 AllReadyH.nil
            case hr17x29 => (simp only [List.getElem?_toArray, List.getElem?_cons_succ, List.getElem?_cons_zero]; rfl)
            case kr17x29 =>
              intro K0 hK
              go_simp
              obtain ⟨ge, hgz⟩ : ∃ g, g = w120.heap.size := ⟨_, rfl⟩
              have S130a := Lib.hid (S120.out.alloc #[.string ⟨#[]⟩, .string ⟨#[]⟩, .bool false] 44)
              rw [← hgz] at S130a ⊢
              clear hgz
              have S130 := Lib.hid (S130a.out.re (show _ = Asn.blk gm 5 (madeCells #[.int .u8 0] 40) * (Asn.blk ge 44 #[.string ⟨#[]⟩, .string ⟨#[]⟩, .bool false] * (Asn.vec 44 3 (.slice A7 0 c7) 0 (cells3 (gL 0)) * (aSf gs (gS 0) V' * Asn.emp))) by ac_rfl))
              clear S130a
              generalize World.alloc w120 _ = w130 at *
              refine hK.out _ _ ?_ (fun hHeld => ?_)
              · exact ⟨KC.out _ _ S130.out, CV.out _ _ S130.out⟩
              clear hK K0
              (try simp only [Act.put, List.setIfInBounds_toArray, List.set_cons_zero, List.set_cons_succ])
              refine wpAnyH_ready (rs := [7]) (by kernel_rfl) (by simp) ?_
              refine' AllReadyH.cons (o := ?or7x31) ?hr7x31 ?kr7x31 AllReadyH.nil
              case hr7x31 => (simp only [List.getElem?_toArray, List.getElem?_cons_succ, List.getElem?_cons_zero]; rfl)
              case kr7x31 =>
                intro K0 hK
                go_simp
                go_at_call 33
                refine (key11_any 2 _ (by decide) (by decide)).mono ?_
                rintro eK w132 ⟨rfl, hX⟩
                have S132 := Lib.hid (S130.out.below hX)
                clear hX
                refine hK.out _ _ ?_ (fun hHeld => ?_)
                · exact ⟨KC.out _ _ S132.out, CV.out _ _ S132.out⟩
                clear hK K0
                (try simp only [Act.put, List.setIfInBounds_toArray, List.set_cons_zero, List.set_cons_succ])
                refine' wpAnyH_take (i := 16) (oi := ?ot33z16) (v := ?vt33z16) ?ht33z16 ?st33z16 ?ft33z16 ?zt33z16 ?qt33z16 ?yt33z16 ?at33z16 ?rt33z16
                case ht33z16 => (simp only [List.getElem?_toArray, List.getElem?_cons_succ, List.getElem?_cons_zero]; rfl)
                case st33z16 => kernel_rfl
                case ft33z16 => kernel_rfl
                case zt33z16 => kernel_rfl
                case qt33z16 => exact fun _ _ _ h => h
                case yt33z16 => (refine Or.inl ⟨rfl, ?_⟩; intro w hSw; (try dsimp only at hSw); go_simp; try with_reducible rfl)
                case at33z16 => assumption
                case rt33z16 =>
                simp only [Act.put, List.setIfInBounds_toArray, List.set_cons_zero, List.set_cons_succ]
                refine wpAnyH_ready (rs := [18]) (by kernel_rfl) (by simp) ?_
                refine' AllReadyH.cons (o := ?or18x34) ?hr18x34 ?kr18x34 AllReadyH.nil
                case hr18x34 => (simp only [List.getElem?_toArray, List.getElem?_cons_succ, List.getElem?_cons_zero]; rfl)
                case kr18x34 =>
                  intro K0 hK
                  have S135a := Lib.hid (S132.out.re (show _ = Asn.blk ge 44 #[.string ⟨#[]⟩, .string ⟨#[]⟩, .bool false] * (Asn.blk gm 5 (madeCells #[.int .u8 0] 40) * (Asn.vec 44 3 (.slice A7 0 c7) 0 (cells3 (gL 0)) * (aSf gs (gS 0) V' * Asn.emp))) by ac_rfl))
                  have HST := Lib.hid (store3 (S135a.out.has (Has.l (has_blk ge _ _))) (ofL (keyZ 2)) (ofL (List.replicate 40 0)) false)
                  have S135 := Lib.hid ((own_3 S135a.out (.string (ofL (keyZ 2))) (.string (ofL (List.replicate 40 0))) (.bool false)).re (show _ = Asn.blk gm 5 (madeCells #[.int .u8 0] 40) * (Asn.blk ge 44 #[.string (ofL (keyZ 2)), .string (ofL (List.replicate 40 0)), .bool false] * (Asn.vec 44 3 (.slice A7 0 c7) 0 (cells3 (gL 0)) * (aSf gs (gS 0) V' * Asn.emp))) by ac_rfl))
                  clear S135a
                  refine step_store_w rfl rfl (.tmp 10) (.tmp 53) 44 rfl (.pointer (some ⟨ge, 0, none⟩)) (.agg #[.string (ofL (keyZ 2)), .string (ofL (List.replicate 40 0)), .bool false]) rfl rfl _ HST.out ?_
                  clear HST
                  refine hK.out _ _ ?_ (fun hHeld => ?_)
                  · exact ⟨KC.out _ _ S135.out, CV.out _ _ S135.out⟩
                  clear hK K0
                  (try simp only [Act.put, List.setIfInBounds_toArray, List.set_cons_zero, List.set_cons_succ])
                  generalize World.setCell (World.setCell (World.setCell w132 _ _) _ _) _ _ = w135 at *
                  refine wpAnyH_done (by kernel_rfl) ?_ _
                  go_wp2_with fail
                  go_meet
                  case rel => exact ⟨ge, rfl, Lib.hid S135.out.right⟩
          case mr8x19 =>
          refine' AllReadyH.cons (o := ?or17x36) ?hr17x36 ?kr17x36 AllReadyH.nil
          case hr17x36 => (simp only [List.getElem?_toArray, List.getElem?_cons_succ, List.getElem?_cons_zero]; rfl)
          case kr17x36 =>
            intro K0 hK
            go_simp
            obtain ⟨ge, hgz⟩ : ∃ g, g = w3.heap.size := ⟨_, rfl⟩
            have S137a := Lib.hid (S2.out.alloc #[.string ⟨#[]⟩, .string ⟨#[]⟩, .bool false] 44)
            rw [← hgz] at S137a ⊢
            clear hgz
            have S137 := Lib.hid (S137a.out.re (show _ = Asn.blk ge 44 #[.string ⟨#[]⟩, .string ⟨#[]⟩, .bool false] * (Asn.vec 44 3 (.slice A7 0 c7) 0 (cells3 (gL 0)) * (aSf gs (gS 0) V' * Asn.emp)) by ac_rfl))
            clear S137a
            generalize World.alloc w3 _ = w137 at *
            refine hK.out _ _ ?_ (fun hHeld => ?_)
            · exact KC.out _ _ S137.out
            clear hK K0
            (try simp only [Act.put, List.setIfInBounds_toArray, List.set_cons_zero, List.set_cons_succ])
            refine wpAnyH_ready (rs := [7, 8]) (by kernel_rfl) (by simp) ?_
            refine' AllReadyH.cons (o := ?or7x38) ?hr7x38 ?kr7x38 ?mr7x38
            case hr7x38 => (simp only [List.getElem?_toArray, List.getElem?_cons_succ, List.getElem?_cons_zero]; rfl)
            case kr7x38 =>
              intro K0 hK
              go_simp
              go_at_call 33
              refine (key11_any 2 _ (by decide) (by decide)).mono ?_
              rintro eK w139 ⟨rfl, hX⟩
              have S139 := Lib.hid (S137.out.below hX)
              clear hX
              refine hK.out _ _ ?_ (fun hHeld => ?_)
              · exact KC.out _ _ S139.out
              clear hK K0
              (try simp only [Act.put, List.setIfInBounds_toArray, List.set_cons_zero, List.set_cons_succ])
              refine wpAnyH_ready (rs := [8]) (by kernel_rfl) (by simp) ?_
              refine' AllReadyH.cons (o := ?or8x40) ?hr8x40 ?kr8x40 AllReadyH.nil
              case hr8x40 => (simp only [List.getElem?_toArray, List.getElem?_cons_succ, List.getElem?_cons_zero]; rfl)
              case kr8x40 =>
                intro K0 hK
                go_simp
                have S141 := Lib.hid ((S139.out.alloc (madeCells #[.int .u8 0] 40) 5))
                obtain ⟨gm, hgz⟩ : ∃ g, g = w139.heap.size := ⟨_, rfl⟩
                rw [← hgz] at S141 ⊢
                clear hgz
                generalize World.alloc w139 _ = w141 at *
                have CV := Lib.hid (fun W D (h : Own w No W (Asn.blk gm 5 (madeCells #[.int .u8 0] 40) * D)) => mk_conv h)
                refine hK.out _ _ ?_ (fun hHeld => ?_)
                · exact KC.out _ _ S141.out
                clear hK K0
                (try simp only [Act.put, List.setIfInBounds_toArray, List.set_cons_zero, List.set_cons_succ])
                refine wpAnyH_weak (S := fun W => (W.cell? ⟨gk, 0, none⟩ = some (.int .i64 2)) ∧ ((convert 63 9 (.slice (some ⟨gm, 0, none⟩) 40 40)).run Try.prog W = .ok (.string (ofL (List.replicate 40 0))) W)) (fun _ h => h.1) _ _ _ _ ?_
                have hHeld2 := And.intro (KC.out _ _ S141.out) (CV.out _ _ S141.out)
                refine' wpAnyH_take (i := 9) (oi := ?ot42z9) (v := ?vt42z9) ?ht42z9 ?st42z9 ?ft42z9 ?zt42z9 ?qt42z9 ?yt42z9 ?at42z9 ?rt42z9
                case ht42z9 => (simp only [List.getElem?_toArray, List.getElem?_cons_succ, List.getElem?_cons_zero]; rfl)
                case st42z9 => kernel_rfl
                case ft42z9 => kernel_rfl
                case zt42z9 => kernel_rfl
                case qt42z9 => exact fun _ _ _ h => h
                case yt42z9 => (refine Or.inl ⟨rfl, ?_⟩; intro w hSw; obtain ⟨hS1, hS2⟩ := hSw; go_simp; try with_reducible rfl)
                case at42z9 => assumption
                case rt42z9 =>
                simp only [Act.put, List.setIfInBounds_toArray, List.set_cons_zero, List.set_cons_succ]
                refine' wpAnyH_take (i := 16) (oi := ?ot43z16) (v := ?vt43z16) ?ht43z16 ?st43z16 ?ft43z16 ?zt43z16 ?qt43z16 ?yt43z16 ?at43z16 ?rt43z16
                case ht43z16 => (simp only [List.getElem?_toArray, List.getElem?_cons_succ, List.getElem?_cons_zero]; rfl)
                case st43z16 => kernel_rfl
                case ft43z16 => kernel_rfl
                case zt43z16 => kernel_rfl
                case qt43z16 => exact fun _ _ _ h => h
                case yt43z16 => (refine Or.inl ⟨rfl, ?_⟩; intro w hSw; (try dsimp only at hSw); go_simp; try with_reducible rfl)
                case at43z16 => assumption
                case rt43z16 =>
                simp only [Act.put, List.setIfInBounds_toArray, List.set_cons_zero, List.set_cons_succ]
                refine wpAnyH_ready (rs := [18]) (by kernel_rfl) (by simp) ?_
                refine' AllReadyH.cons (o := ?or18x44) ?hr18x44 ?kr18x44 AllReadyH.nil
                case hr18x44 => (simp only [List.getElem?_toArray, List.getElem?_cons_succ, List.getElem?_cons_zero]; rfl)
                case kr18x44 =>
                  intro K0 hK
                  have S145a := Lib.hid (S141.out.re (show _ = Asn.blk ge 44 #[.string ⟨#[]⟩, .string ⟨#[]⟩, .bool false] * (Asn.blk gm 5 (madeCells #[.int .u8 0] 40) * (Asn.vec 44 3 (.slice A7 0 c7) 0 (cells3 (gL 0)) * (aSf gs (gS 0) V' * Asn.emp))) by ac_rfl))
                  have HST := Lib.hid (store3 (S145a.out.has (Has.l (has_blk ge _ _))) (ofL (keyZ 2)) (ofL (List.replicate 40 0)) false)
                  have S145 := Lib.hid ((own_3 S145a.out (.string (ofL (keyZ 2))) (.string (ofL (List.replicate 40 0))) (.bool false)).re (show _ = Asn.blk gm 5 (madeCells #[.int .u8 0] 40) * (Asn.blk ge 44 #[.string (ofL (keyZ 2)), .string (ofL (List.replicate 40 0)), .bool false] * (Asn.vec 44 3 (.slice A7 0 c7) 0 (cells3 (gL 0)) * (aSf gs (gS 0) V' * Asn.emp))) by ac_rfl))
                  clear S145a
                  refine step_store_w rfl rfl (.tmp 10) (.tmp 53) 44 rfl (.pointer (some ⟨ge, 0, none⟩)) (.agg #[.string (ofL (keyZ 2)), .string (ofL (List.replicate 40 0)), .bool false]) rfl rfl _ HST.out ?_
                  clear HST
                  refine hK.out _ _ ?_ (fun hHeld => ?_)
                  · exact ⟨KC.out _ _ S145.out, CV.out _ _ S145.out⟩
                  clear hK K0
                  (try simp only [Act.put, List.setIfInBounds_toArray, List.set_cons_zero, List.set_cons_succ])
                  generalize World.setCell (World.setCell (World.setCell w141 _ _) _ _) _ _ = w145 at *
                  refine wpAnyH_done (by kernel_rfl) ?_ _
                  go_wp2_with fail
                  go_meet
                  case rel => exact ⟨ge, rfl, Lib.hid S145.out.right⟩
            case mr7x38 =>
            refine' AllReadyH.cons (o := ?or8x46) ?hr8x46 ?kr8x46 AllReadyH.nil
            case hr8x46 => (simp only [List.getElem?_toArray, List.getElem?_cons_succ, List.getElem?_cons_zero]; rfl)
            case kr8x46 =>
              intro K0 hK
              go_simp
              have S147 := Lib.hid ((S137.out.alloc (madeCells #[.int .u8 0] 40) 5))
              obtain ⟨gm, hgz⟩ : ∃ g, g = w137.heap.size := ⟨_, rfl⟩
              rw [← hgz] at S147 ⊢
              clear hgz
              generalize World.alloc w137 _ = w147 at *
              have CV := Lib.hid (fun W D (h : Own w No W (Asn.blk gm 5 (madeCells #[.int .u8 0] 40) * D)) => mk_conv h)
              refine hK.out _ _ ?_ (fun hHeld => ?_)
              · exact KC.out _ _ S147.out
              clear hK K0
              (try simp only [Act.put, List.setIfInBounds_toArray, List.set_cons_zero, List.set_cons_succ])
              refine wpAnyH_weak (S := fun W => (W.cell? ⟨gk, 0, none⟩ = some (.int .i64 2)) ∧ ((convert 63 9 (.slice (some ⟨gm, 0, none⟩) 40 40)).run Try.prog W = .ok (.string (ofL (List.replicate 40 0))) W)) (fun _ h => h.1) _ _ _ _ ?_
              have hHeld2 := And.intro (KC.out _ _ S147.out) (CV.out _ _ S147.out)
              refine' wpAnyH_take (i := 9) (oi := ?ot48z9) (v := ?vt48z9) ?ht48z9 ?st48z9 ?ft48z9 ?zt48z9 ?qt48z9 ?yt48z9 ?at48z9 ?rt48z9
              case ht48z9 => (simp only [List.getElem?_toArray, List.getElem?_cons_succ, List.getElem?_cons_zero]; rfl)
              case st48z9 => kernel_rfl
              case ft48z9 => kernel_rfl
              case zt48z9 => kernel_rfl
              case qt48z9 => exact fun _ _ _ h => h
              case yt48z9 => (refine Or.inl ⟨rfl, ?_⟩; intro w hSw; obtain ⟨hS1, hS2⟩ := hSw; go_simp; try with_reducible rfl)
              case at48z9 => assumption
              case rt48z9 =>
              simp only [Act.put, List.setIfInBounds_toArray, List.set_cons_zero, List.set_cons_succ]
              refine wpAnyH_ready (rs := [7]) (by kernel_rfl) (by simp) ?_
              refine' AllReadyH.cons (o := ?or7x49) ?hr7x49 ?kr7x49 AllReadyH.nil
              case hr7x49 => (simp only [List.getElem?_toArray, List.getElem?_cons_succ, List.getElem?_cons_zero]; rfl)
              case kr7x49 =>
                intro K0 hK
                go_simp
                go_at_call 33
                refine (key11_any 2 _ (by decide) (by decide)).mono ?_
                rintro eK w150 ⟨rfl, hX⟩
                have S150 := Lib.hid (S147.out.below hX)
                clear hX
                refine hK.out _ _ ?_ (fun hHeld => ?_)
                · exact ⟨KC.out _ _ S150.out, CV.out _ _ S150.out⟩
                clear hK K0
                (try simp only [Act.put, List.setIfInBounds_toArray, List.set_cons_zero, List.set_cons_succ])
                refine' wpAnyH_take (i := 16) (oi := ?ot51z16) (v := ?vt51z16) ?ht51z16 ?st51z16 ?ft51z16 ?zt51z16 ?qt51z16 ?yt51z16 ?at51z16 ?rt51z16
                case ht51z16 => (simp only [List.getElem?_toArray, List.getElem?_cons_succ, List.getElem?_cons_zero]; rfl)
                case st51z16 => kernel_rfl
                case ft51z16 => kernel_rfl
                case zt51z16 => kernel_rfl
                case qt51z16 => exact fun _ _ _ h => h
                case yt51z16 => (refine Or.inl ⟨rfl, ?_⟩; intro w hSw; (try dsimp only at hSw); go_simp; try with_reducible rfl)
                case at51z16 => assumption
                case rt51z16 =>
                simp only [Act.put, List.setIfInBounds_toArray, List.set_cons_zero, List.set_cons_succ]
                refine wpAnyH_ready (rs := [18]) (by kernel_rfl) (by simp) ?_
                refine' AllReadyH.cons (o := ?or18x52) ?hr18x52 ?kr18x52 AllReadyH.nil
                case hr18x52 => (simp only [List.getElem?_toArray, List.getElem?_cons_succ, List.getElem?_cons_zero]; rfl)
                case kr18x52 =>
                  intro K0 hK
                  have S153a := Lib.hid (S150.out.re (show _ = Asn.blk ge 44 #[.string ⟨#[]⟩, .string ⟨#[]⟩, .bool false] * (Asn.blk gm 5 (madeCells #[.int .u8 0] 40) * (Asn.vec 44 3 (.slice A7 0 c7) 0 (cells3 (gL 0)) * (aSf gs (gS 0) V' * Asn.emp))) by ac_rfl))
                  have HST := Lib.hid (store3 (S153a.out.has (Has.l (has_blk ge _ _))) (ofL (keyZ 2)) (ofL (List.replicate 40 0)) false)
                  have S153 := Lib.hid ((own_3 S153a.out (.string (ofL (keyZ 2))) (.string (ofL (List.replicate 40 0))) (.bool false)).re (show _ = Asn.blk gm 5 (madeCells #[.int .u8 0] 40) * (Asn.blk ge 44 #[.string (ofL (keyZ 2)), .string (ofL (List.replicate 40 0)), .bool false] * (Asn.vec 44 3 (.slice A7 0 c7) 0 (cells3 (gL 0)) * (aSf gs (gS 0) V' * Asn.emp))) by ac_rfl))
                  clear S153a
                  refine step_store_w rfl rfl (.tmp 10) (.tmp 53) 44 rfl (.pointer (some ⟨ge, 0, none⟩)) (.agg #[.string (ofL (keyZ 2)), .string (ofL (List.replicate 40 0)), .bool false]) rfl rfl _ HST.out ?_
                  clear HST
                  refine hK.out _ _ ?_ (fun hHeld => ?_)
                  · exact ⟨KC.out _ _ S153.out, CV.out _ _ S153.out⟩
                  clear hK K0
                  (try simp only [Act.put, List.setIfInBounds_toArray, List.set_cons_zero, List.set_cons_succ])
                  generalize World.setCell (World.setCell (World.setCell w150 _ _) _ _) _ _ = w153 at *
                  refine wpAnyH_done (by kernel_rfl) ?_ _
                  go_wp2_with fail
                  go_meet
                  case rel => exact ⟨ge, rfl, Lib.hid S153.out.right⟩
        case rest =>
        obtain ⟨ge, rfl, S3⟩ := hcut
        clear S2
        have hlen : (gL 0).length = 0 := (g_list ⟨0, by decide⟩).1
        have HLK := Lib.hid (g_list ⟨0, by decide⟩).2
        have hgo := g_ok ⟨0, by decide⟩
        obtain ⟨hsm, hlv⟩ := g_sm 0 (by decide)
        have HPt := Lib.hid (fun W C h => Put_any gs (gS 0) V' hsm hlv 3 (ek 0) w W C h)
        rw [show entCells (ek 0) = #[.string (ofL (keyZ 2)), .string (ofL (List.replicate 40 0)), .bool false] from rfl, show (putR (gS 0) 3 (ek 0)).1 = 0 from hgo.1] at HPt
        unfold pgs at HPt
        have HGO := Lib.hid hgo
        clear hgo hsm hlv
        obtain ⟨⟨e0, e1, e2⟩, -⟩ := three_of (S3.out.has (Has.l (has_blk ge _ _)))
        go_wp2_with fail
        refine wp_loop_rounds 1 ?_
        rw [rounds_succ]
        go_wp2_with fail
        refine (HPt.out _ _ (S3.out.re (show _ = aSf gs (gS 0) V' * (Asn.blk ge 44 #[.string (ofL (keyZ 2)), .string (ofL (List.replicate 40 0)), .bool false] * (Asn.vec 44 3 (.slice A7 0 c7) 0 (cells3 (gL 0)) * Asn.emp)) by ac_rfl))).mono ?_
        rintro e w4 ⟨v12, L, rfl, hpl, hX⟩
        have hL1 : L.length = 1 := by rw [len_one hpl]; exact HGO.out.2.1
        obtain ⟨A12, c12, rfl⟩ := hX.vec.slice
        rw [hL1] at hX ⊢
        have HPu := Lib.hid (ShPut_own gs _ _ L 1 hL1 (.slice A12 1 c12) w w4 _ (by decide) (by rw [hpl]; exact fun x hx => (HGO.out.2.2 x hx).1) hX)
        rw [hpl] at HPu
        clear hX S3 HPt hL1 e0 e1 e2
        unfold sPtr at HPu
        go_wp2_with fail
        refine HPu.out.mono ?_
        rintro e w5 ⟨rfl, V2, hX⟩
        have S4 := Lib.hid (show Own w No w5 (aSf gs (gS (0 + 1)) V2 * (Asn.blk ge 44 #[.string (ofL (keyZ 2)), .string (ofL (List.replicate 40 0)), .bool false] * (Asn.vec 44 3 (.slice A7 0 c7) 0 (cells3 (gL 0)) * Asn.emp))) from hX)
        clear hX HPu hpl
        obtain ⟨⟨e0, e1, e2⟩, -⟩ := three_of (S4.out.has (Has.r (Has.l (has_blk ge _ _))))
        have HRo : Hid (Row3 w5 (.slice A7 0 c7) (gL 0)) := Lib.hid (by
          have h1 := S4.out.right.right
          rw [show Asn.vec 44 3 (.slice A7 0 c7) 0 (cells3 (gL 0)) = Asn.vec 44 3 (.slice A7 (gL 0).length c7) (gL 0).length (cells3 (gL 0)) by rw [hlen]] at h1
          have h2 := Row3.of_vec h1.vec
          rw [hlen] at h2
          exact h2)
        have HRp := Lib.hid (refPut_any (gL 0) (ek 0) (.slice A7 0 c7) w5 (by omega) HRo.out HLK.out (ek_len 0))
        rw [show entCells (ek 0) = #[.string (ofL (keyZ 2)), .string (ofL (List.replicate 40 0)), .bool false] from rfl] at HRp
        clear HRo HLK
        go_wp2_with fail
        refine HRp.out.mono ?_
        rintro e w6 ⟨v7, rfl, hX⟩
        have hlen2 : (putE (gL 0) (ek 0)).length = 0 + 1 := (g_list ⟨0 + 1, by decide⟩).1
        have hT := own_join S4.out hX
        rw [hlen2] at hT
        obtain ⟨A8, c8, rfl⟩ := hT.vec.slice
        have S5 := Lib.hid ((show Own w No w6 (Asn.vec 44 3 (.slice A8 (0 + 1) c8) (0 + 1) (cells3 (gL (0 + 1))) * (aSf gs (gS (0 + 1)) V2 * (Asn.blk ge 44 #[.string (ofL (keyZ 2)), .string (ofL (List.replicate 40 0)), .bool false] * (Asn.vec 44 3 (.slice A7 0 c7) 0 (cells3 (gL 0)) * Asn.emp)))) from hT).re (show _ = (Asn.blk ge 44 #[.string (ofL (keyZ 2)), .string (ofL (List.replicate 40 0)), .bool false] * Asn.vec 44 3 (.slice A7 0 c7) 0 (cells3 (gL 0))) * (Asn.vec 44 3 (.slice A8 (0 + 1) c8) (0 + 1) (cells3 (gL (0 + 1))) * (aSf gs (gS (0 + 1)) V2 * Asn.emp)) by ac_rfl)).right
        clear hT hX S4 HRp e0 e1 e2 hlen hlen2 HGO
        go_wp2_with fail
        go_round
        case rel => exact ⟨0 + 1, A8, c8, by omega, by go_num, by go_num, V2, S5⟩
        case measure => simp only [intOf]; omega
      · have KC : Hid (∀ W D, Own w No W D → W.cell? ⟨gk, 1, none⟩ = some (.int .i64 4)) := HQ1
        have c0 := KC.out _ _ S1.out
        go_upto_region 9 with fail
        have S2 := Lib.hid S1.out.drew
        clear S1 c0
        go_cut [10] (fun s10 wx => ∃ ge : Nat, s10 = .pointer (some ⟨ge, 0, none⟩) ∧ Hid (Own w No wx (Asn.blk ge 44 #[.string (ofL (keyZ 4)), .string (ofL (List.replicate 40 0)), .bool false] * (Asn.vec 44 3 (.slice A7 1 c7) 1 (cells3 (gL 1)) * (aSf gs (gS 1) V' * Asn.emp)))))
        case first =>
          refine wp_region_held_drew (S := fun W : World => W.cell? ⟨gk, 1, none⟩ = some (.int .i64 4)) (by kernel_rfl) (KC.out _ _ S2.out) (fun hHeld => ?_)
          generalize wr.drew = w3 at *
          refine' wpAnyH_take (i := 0) (oi := ?op10) (v := ?vp10) ?hp10 ?sp10 ?fp10 ?zp10 ?qp10 ?yp10 ?ap10 ?rp10
          case hp10 => (simp only [List.getElem?_toArray, List.getElem?_cons_succ, List.getElem?_cons_zero]; rfl)
          case sp10 => kernel_rfl
          case fp10 => kernel_rfl
          case zp10 => kernel_rfl
          case qp10 => exact fun _ _ _ h => h
          case yp10 => (refine Or.inl ⟨rfl, ?_⟩; intro w hSw; (try dsimp only at hSw); go_simp; try with_reducible rfl)
          case ap10 => assumption
          case rp10 =>
          simp only [Act.put, List.setIfInBounds_toArray, List.set_cons_zero, List.set_cons_succ]
          refine' wpAnyH_take (i := 1) (oi := ?op11) (v := ?vp11) ?hp11 ?sp11 ?fp11 ?zp11 ?qp11 ?yp11 ?ap11 ?rp11
          case hp11 => (simp only [List.getElem?_toArray, List.getElem?_cons_succ, List.getElem?_cons_zero]; rfl)
          case sp11 => kernel_rfl
          case fp11 => kernel_rfl
          case zp11 => kernel_rfl
          case qp11 => exact fun _ _ _ h => h
          case yp11 => (refine Or.inl ⟨rfl, ?_⟩; intro w hSw; (try dsimp only at hSw); go_simp; try with_reducible rfl)
          case ap11 => assumption
          case rp11 =>
          simp only [Act.put, List.setIfInBounds_toArray, List.set_cons_zero, List.set_cons_succ]
          refine' wpAnyH_take (i := 2) (oi := ?op12) (v := ?vp12) ?hp12 ?sp12 ?fp12 ?zp12 ?qp12 ?yp12 ?ap12 ?rp12
          case hp12 => (simp only [List.getElem?_toArray, List.getElem?_cons_succ, List.getElem?_cons_zero]; rfl)
          case sp12 => kernel_rfl
          case fp12 => kernel_rfl
          case zp12 => kernel_rfl
          case qp12 => exact fun _ _ _ h => h
          case yp12 => (refine Or.inl ⟨rfl, ?_⟩; intro w hSw; (try dsimp only at hSw); go_simp; try with_reducible rfl)
          case ap12 => assumption
          case rp12 =>
          simp only [Act.put, List.setIfInBounds_toArray, List.set_cons_zero, List.set_cons_succ]
          refine' wpAnyH_take (i := 3) (oi := ?op13) (v := ?vp13) ?hp13 ?sp13 ?fp13 ?zp13 ?qp13 ?yp13 ?ap13 ?rp13
          case hp13 => (simp only [List.getElem?_toArray, List.getElem?_cons_succ, List.getElem?_cons_zero]; rfl)
          case sp13 => kernel_rfl
          case fp13 => kernel_rfl
          case zp13 => kernel_rfl
          case qp13 => exact fun _ _ _ h => h
          case yp13 => (refine Or.inl ⟨rfl, ?_⟩; intro w hSw; (try dsimp only at hSw); go_simp; try with_reducible rfl)
          case ap13 => assumption
          case rp13 =>
          simp only [Act.put, List.setIfInBounds_toArray, List.set_cons_zero, List.set_cons_succ]
          refine' wpAnyH_take (i := 4) (oi := ?op14) (v := ?vp14) ?hp14 ?sp14 ?fp14 ?zp14 ?qp14 ?yp14 ?ap14 ?rp14
          case hp14 => (simp only [List.getElem?_toArray, List.getElem?_cons_succ, List.getElem?_cons_zero]; rfl)
          case sp14 => kernel_rfl
          case fp14 => kernel_rfl
          case zp14 => kernel_rfl
          case qp14 => exact fun _ _ _ h => h
          case yp14 => (refine Or.inl ⟨rfl, ?_⟩; intro w hSw; (try dsimp only at hSw); go_simp; try with_reducible rfl)
          case ap14 => assumption
          case rp14 =>
          simp only [Act.put, List.setIfInBounds_toArray, List.set_cons_zero, List.set_cons_succ]
          refine' wpAnyH_take (i := 5) (oi := ?op15) (v := ?vp15) ?hp15 ?sp15 ?fp15 ?zp15 ?qp15 ?yp15 ?ap15 ?rp15
          case hp15 => (simp only [List.getElem?_toArray, List.getElem?_cons_succ, List.getElem?_cons_zero]; rfl)
          case sp15 => kernel_rfl
          case fp15 => kernel_rfl
          case zp15 => kernel_rfl
          case qp15 => exact fun _ _ _ h => h
          case yp15 => (refine Or.inl ⟨rfl, ?_⟩; intro w hSw; (try dsimp only at hSw); go_simp; try with_reducible rfl)
          case ap15 => assumption
          case rp15 =>
          simp only [Act.put, List.setIfInBounds_toArray, List.set_cons_zero, List.set_cons_succ]
          refine' wpAnyH_take (i := 6) (oi := ?op16) (v := ?vp16) ?hp16 ?sp16 ?fp16 ?zp16 ?qp16 ?yp16 ?ap16 ?rp16
          case hp16 => (simp only [List.getElem?_toArray, List.getElem?_cons_succ, List.getElem?_cons_zero]; rfl)
          case sp16 => kernel_rfl
          case fp16 => kernel_rfl
          case zp16 => kernel_rfl
          case qp16 => exact fun _ _ _ h => h
          case yp16 => (refine Or.inl ⟨rfl, ?_⟩; intro w hSw; (try dsimp only at hSw); go_simp; try with_reducible rfl)
          case ap16 => assumption
          case rp16 =>
          simp only [Act.put, List.setIfInBounds_toArray, List.set_cons_zero, List.set_cons_succ]
          refine' wpAnyH_take (i := 10) (oi := ?op110) (v := ?vp110) ?hp110 ?sp110 ?fp110 ?zp110 ?qp110 ?yp110 ?ap110 ?rp110
          case hp110 => (simp only [List.getElem?_toArray, List.getElem?_cons_succ, List.getElem?_cons_zero]; rfl)
          case sp110 => kernel_rfl
          case fp110 => kernel_rfl
          case zp110 => kernel_rfl
          case qp110 => exact fun _ _ _ h => h
          case yp110 => (refine Or.inl ⟨rfl, ?_⟩; intro w hSw; (try dsimp only at hSw); go_simp; try with_reducible rfl)
          case ap110 => assumption
          case rp110 =>
          simp only [Act.put, List.setIfInBounds_toArray, List.set_cons_zero, List.set_cons_succ]
          refine' wpAnyH_take (i := 11) (oi := ?op111) (v := ?vp111) ?hp111 ?sp111 ?fp111 ?zp111 ?qp111 ?yp111 ?ap111 ?rp111
          case hp111 => (simp only [List.getElem?_toArray, List.getElem?_cons_succ, List.getElem?_cons_zero]; rfl)
          case sp111 => kernel_rfl
          case fp111 => kernel_rfl
          case zp111 => kernel_rfl
          case qp111 => exact fun _ _ _ h => h
          case yp111 => (refine Or.inl ⟨rfl, ?_⟩; intro w hSw; (try dsimp only at hSw); go_simp; try with_reducible rfl)
          case ap111 => assumption
          case rp111 =>
          simp only [Act.put, List.setIfInBounds_toArray, List.set_cons_zero, List.set_cons_succ]
          refine' wpAnyH_take (i := 12) (oi := ?op112) (v := ?vp112) ?hp112 ?sp112 ?fp112 ?zp112 ?qp112 ?yp112 ?ap112 ?rp112
          case hp112 => (simp only [List.getElem?_toArray, List.getElem?_cons_succ, List.getElem?_cons_zero]; rfl)
          case sp112 => kernel_rfl
          case fp112 => kernel_rfl
          case zp112 => kernel_rfl
          case qp112 => exact fun _ _ _ h => h
          case yp112 => (refine Or.inl ⟨rfl, ?_⟩; intro w hSw; (try dsimp only at hSw); go_simp; try with_reducible rfl)
          case ap112 => assumption
          case rp112 =>
          simp only [Act.put, List.setIfInBounds_toArray, List.set_cons_zero, List.set_cons_succ]
          refine' wpAnyH_take (i := 13) (oi := ?op113) (v := ?vp113) ?hp113 ?sp113 ?fp113 ?zp113 ?qp113 ?yp113 ?ap113 ?rp113
          case hp113 => (simp only [List.getElem?_toArray, List.getElem?_cons_succ, List.getElem?_cons_zero]; rfl)
          case sp113 => kernel_rfl
          case fp113 => kernel_rfl
          case zp113 => kernel_rfl
          case qp113 => exact fun _ _ _ h => h
          case yp113 => (refine Or.inl ⟨rfl, ?_⟩; intro w hSw; (try dsimp only at hSw); go_simp; try with_reducible rfl)
          case ap113 => assumption
          case rp113 =>
          simp only [Act.put, List.setIfInBounds_toArray, List.set_cons_zero, List.set_cons_succ]
          refine' wpAnyH_take (i := 14) (oi := ?op114) (v := ?vp114) ?hp114 ?sp114 ?fp114 ?zp114 ?qp114 ?yp114 ?ap114 ?rp114
          case hp114 => (simp only [List.getElem?_toArray, List.getElem?_cons_succ, List.getElem?_cons_zero]; rfl)
          case sp114 => kernel_rfl
          case fp114 => kernel_rfl
          case zp114 => kernel_rfl
          case qp114 => exact fun _ _ _ h => h
          case yp114 => (refine Or.inl ⟨rfl, ?_⟩; intro w hSw; (try dsimp only at hSw); go_simp; try with_reducible rfl)
          case ap114 => assumption
          case rp114 =>
          simp only [Act.put, List.setIfInBounds_toArray, List.set_cons_zero, List.set_cons_succ]
          refine' wpAnyH_take (i := 15) (oi := ?op115) (v := ?vp115) ?hp115 ?sp115 ?fp115 ?zp115 ?qp115 ?yp115 ?ap115 ?rp115
          case hp115 => (simp only [List.getElem?_toArray, List.getElem?_cons_succ, List.getElem?_cons_zero]; rfl)
          case sp115 => kernel_rfl
          case fp115 => kernel_rfl
          case zp115 => kernel_rfl
          case qp115 => exact fun _ _ _ h => h
          case yp115 => (refine Or.inl ⟨rfl, ?_⟩; intro w hSw; (try dsimp only at hSw); go_simp; try with_reducible rfl)
          case ap115 => assumption
          case rp115 =>
          simp only [Act.put, List.setIfInBounds_toArray, List.set_cons_zero, List.set_cons_succ]
          refine wpAnyH_ready (rs := [7, 8, 17]) (by kernel_rfl) (by simp) ?_
          refine' AllReadyH.cons (o := ?or7x54) ?hr7x54 ?kr7x54 ?mr7x54
          case hr7x54 => (simp only [List.getElem?_toArray, List.getElem?_cons_succ, List.getElem?_cons_zero]; rfl)
          case kr7x54 =>
            intro K0 hK
            go_simp
            go_at_call 33
            refine (key11_any 4 _ (by decide) (by decide)).mono ?_
            rintro eK w155 ⟨rfl, hX⟩
            have S155 := Lib.hid (S2.out.below hX)
            clear hX
            refine hK.out _ _ ?_ (fun hHeld => ?_)
            · exact KC.out _ _ S155.out
            clear hK K0
            (try simp only [Act.put, List.setIfInBounds_toArray, List.set_cons_zero, List.set_cons_succ])
            refine wpAnyH_ready (rs := [8, 17]) (by kernel_rfl) (by simp) ?_
            refine' AllReadyH.cons (o := ?or8x56) ?hr8x56 ?kr8x56 ?mr8x56
            case hr8x56 => (simp only [List.getElem?_toArray, List.getElem?_cons_succ, List.getElem?_cons_zero]; rfl)
            case kr8x56 =>
              intro K0 hK
              go_simp
              have S157 := Lib.hid ((S155.out.alloc (madeCells #[.int .u8 0] 40) 5))
              obtain ⟨gm, hgz⟩ : ∃ g, g = w155.heap.size := ⟨_, rfl⟩
              rw [← hgz] at S157 ⊢
              clear hgz
              generalize World.alloc w155 _ = w157 at *
              have CV := Lib.hid (fun W D (h : Own w No W (Asn.blk gm 5 (madeCells #[.int .u8 0] 40) * D)) => mk_conv h)
              refine hK.out _ _ ?_ (fun hHeld => ?_)
              · exact KC.out _ _ S157.out
              clear hK K0
              (try simp only [Act.put, List.setIfInBounds_toArray, List.set_cons_zero, List.set_cons_succ])
              refine wpAnyH_weak (S := fun W => (W.cell? ⟨gk, 1, none⟩ = some (.int .i64 4)) ∧ ((convert 63 9 (.slice (some ⟨gm, 0, none⟩) 40 40)).run Try.prog W = .ok (.string (ofL (List.replicate 40 0))) W)) (fun _ h => h.1) _ _ _ _ ?_
              have hHeld2 := And.intro (KC.out _ _ S157.out) (CV.out _ _ S157.out)
              refine' wpAnyH_take (i := 9) (oi := ?ot58z9) (v := ?vt58z9) ?ht58z9 ?st58z9 ?ft58z9 ?zt58z9 ?qt58z9 ?yt58z9 ?at58z9 ?rt58z9
              case ht58z9 => (simp only [List.getElem?_toArray, List.getElem?_cons_succ, List.getElem?_cons_zero]; rfl)
              case st58z9 => kernel_rfl
              case ft58z9 => kernel_rfl
              case zt58z9 => kernel_rfl
              case qt58z9 => exact fun _ _ _ h => h
              case yt58z9 => (refine Or.inl ⟨rfl, ?_⟩; intro w hSw; obtain ⟨hS1, hS2⟩ := hSw; go_simp; try with_reducible rfl)
              case at58z9 => assumption
              case rt58z9 =>
              simp only [Act.put, List.setIfInBounds_toArray, List.set_cons_zero, List.set_cons_succ]
              refine' wpAnyH_take (i := 16) (oi := ?ot59z16) (v := ?vt59z16) ?ht59z16 ?st59z16 ?ft59z16 ?zt59z16 ?qt59z16 ?yt59z16 ?at59z16 ?rt59z16
              case ht59z16 => (simp only [List.getElem?_toArray, List.getElem?_cons_succ, List.getElem?_cons_zero]; rfl)
              case st59z16 => kernel_rfl
              case ft59z16 => kernel_rfl
              case zt59z16 => kernel_rfl
              case qt59z16 => exact fun _ _ _ h => h
              case yt59z16 => (refine Or.inl ⟨rfl, ?_⟩; intro w hSw; (try dsimp only at hSw); go_simp; try with_reducible rfl)
              case at59z16 => assumption
              case rt59z16 =>
              simp only [Act.put, List.setIfInBounds_toArray, List.set_cons_zero, List.set_cons_succ]
              refine wpAnyH_ready (rs := [17]) (by kernel_rfl) (by simp) ?_
              refine' AllReadyH.cons (o := ?or17x60) ?hr17x60 ?kr17x60 AllReadyH.nil
              case hr17x60 => (simp only [List.getElem?_toArray, List.getElem?_cons_succ, List.getElem?_cons_zero]; rfl)
              case kr17x60 =>
                intro K0 hK
                go_simp
                obtain ⟨ge, hgz⟩ : ∃ g, g = w157.heap.size := ⟨_, rfl⟩
                have S161a := Lib.hid (S157.out.alloc #[.string ⟨#[]⟩, .string ⟨#[]⟩, .bool false] 44)
                rw [← hgz] at S161a ⊢
                clear hgz
                have S161 := Lib.hid (S161a.out.re (show _ = Asn.blk gm 5 (madeCells #[.int .u8 0] 40) * (Asn.blk ge 44 #[.string ⟨#[]⟩, .string ⟨#[]⟩, .bool false] * (Asn.vec 44 3 (.slice A7 1 c7) 1 (cells3 (gL 1)) * (aSf gs (gS 1) V' * Asn.emp))) by ac_rfl))
                clear S161a
                generalize World.alloc w157 _ = w161 at *
                refine hK.out _ _ ?_ (fun hHeld => ?_)
                · exact ⟨KC.out _ _ S161.out, CV.out _ _ S161.out⟩
                clear hK K0
                (try simp only [Act.put, List.setIfInBounds_toArray, List.set_cons_zero, List.set_cons_succ])
                refine wpAnyH_ready (rs := [18]) (by kernel_rfl) (by simp) ?_
                refine' AllReadyH.cons (o := ?or18x62) ?hr18x62 ?kr18x62 AllReadyH.nil
                case hr18x62 => (simp only [List.getElem?_toArray, List.getElem?_cons_succ, List.getElem?_cons_zero]; rfl)
                case kr18x62 =>
                  intro K0 hK
                  have S163a := Lib.hid (S161.out.re (show _ = Asn.blk ge 44 #[.string ⟨#[]⟩, .string ⟨#[]⟩, .bool false] * (Asn.blk gm 5 (madeCells #[.int .u8 0] 40) * (Asn.vec 44 3 (.slice A7 1 c7) 1 (cells3 (gL 1)) * (aSf gs (gS 1) V' * Asn.emp))) by ac_rfl))
                  have HST := Lib.hid (store3 (S163a.out.has (Has.l (has_blk ge _ _))) (ofL (keyZ 4)) (ofL (List.replicate 40 0)) false)
                  have S163 := Lib.hid ((own_3 S163a.out (.string (ofL (keyZ 4))) (.string (ofL (List.replicate 40 0))) (.bool false)).re (show _ = Asn.blk gm 5 (madeCells #[.int .u8 0] 40) * (Asn.blk ge 44 #[.string (ofL (keyZ 4)), .string (ofL (List.replicate 40 0)), .bool false] * (Asn.vec 44 3 (.slice A7 1 c7) 1 (cells3 (gL 1)) * (aSf gs (gS 1) V' * Asn.emp))) by ac_rfl))
                  clear S163a
                  refine step_store_w rfl rfl (.tmp 10) (.tmp 53) 44 rfl (.pointer (some ⟨ge, 0, none⟩)) (.agg #[.string (ofL (keyZ 4)), .string (ofL (List.replicate 40 0)), .bool false]) rfl rfl _ HST.out ?_
                  clear HST
                  refine hK.out _ _ ?_ (fun hHeld => ?_)
                  · exact ⟨KC.out _ _ S163.out, CV.out _ _ S163.out⟩
                  clear hK K0
                  (try simp only [Act.put, List.setIfInBounds_toArray, List.set_cons_zero, List.set_cons_succ])
                  generalize World.setCell (World.setCell (World.setCell w161 _ _) _ _) _ _ = w163 at *
                  refine wpAnyH_done (by kernel_rfl) ?_ _
                  go_wp2_with fail
                  go_meet
                  case rel => exact ⟨ge, rfl, Lib.hid S163.out.right⟩
            case mr8x56 =>
            refine' AllReadyH.cons (o := ?or17x64) ?hr17x64 ?kr17x64 AllReadyH.nil
            case hr17x64 => (simp only [List.getElem?_toArray, List.getElem?_cons_succ, List.getElem?_cons_zero]; rfl)
            case kr17x64 =>
              intro K0 hK
              go_simp
              obtain ⟨ge, hgz⟩ : ∃ g, g = w155.heap.size := ⟨_, rfl⟩
              have S165a := Lib.hid (S155.out.alloc #[.string ⟨#[]⟩, .string ⟨#[]⟩, .bool false] 44)
              rw [← hgz] at S165a ⊢
              clear hgz
              have S165 := Lib.hid (S165a.out.re (show _ = Asn.blk ge 44 #[.string ⟨#[]⟩, .string ⟨#[]⟩, .bool false] * (Asn.vec 44 3 (.slice A7 1 c7) 1 (cells3 (gL 1)) * (aSf gs (gS 1) V' * Asn.emp)) by ac_rfl))
              clear S165a
              generalize World.alloc w155 _ = w165 at *
              refine hK.out _ _ ?_ (fun hHeld => ?_)
              · exact KC.out _ _ S165.out
              clear hK K0
              (try simp only [Act.put, List.setIfInBounds_toArray, List.set_cons_zero, List.set_cons_succ])
              refine wpAnyH_ready (rs := [8]) (by kernel_rfl) (by simp) ?_
              refine' AllReadyH.cons (o := ?or8x66) ?hr8x66 ?kr8x66 AllReadyH.nil
              case hr8x66 => (simp only [List.getElem?_toArray, List.getElem?_cons_succ, List.getElem?_cons_zero]; rfl)
              case kr8x66 =>
                intro K0 hK
                go_simp
                have S167 := Lib.hid ((S165.out.alloc (madeCells #[.int .u8 0] 40) 5))
                obtain ⟨gm, hgz⟩ : ∃ g, g = w165.heap.size := ⟨_, rfl⟩
                rw [← hgz] at S167 ⊢
                clear hgz
                generalize World.alloc w165 _ = w167 at *
                have CV := Lib.hid (fun W D (h : Own w No W (Asn.blk gm 5 (madeCells #[.int .u8 0] 40) * D)) => mk_conv h)
                refine hK.out _ _ ?_ (fun hHeld => ?_)
                · exact KC.out _ _ S167.out
                clear hK K0
                (try simp only [Act.put, List.setIfInBounds_toArray, List.set_cons_zero, List.set_cons_succ])
                refine wpAnyH_weak (S := fun W => (W.cell? ⟨gk, 1, none⟩ = some (.int .i64 4)) ∧ ((convert 63 9 (.slice (some ⟨gm, 0, none⟩) 40 40)).run Try.prog W = .ok (.string (ofL (List.replicate 40 0))) W)) (fun _ h => h.1) _ _ _ _ ?_
                have hHeld2 := And.intro (KC.out _ _ S167.out) (CV.out _ _ S167.out)
                refine' wpAnyH_take (i := 9) (oi := ?ot68z9) (v := ?vt68z9) ?ht68z9 ?st68z9 ?ft68z9 ?zt68z9 ?qt68z9 ?yt68z9 ?at68z9 ?rt68z9
                case ht68z9 => (simp only [List.getElem?_toArray, List.getElem?_cons_succ, List.getElem?_cons_zero]; rfl)
                case st68z9 => kernel_rfl
                case ft68z9 => kernel_rfl
                case zt68z9 => kernel_rfl
                case qt68z9 => exact fun _ _ _ h => h
                case yt68z9 => (refine Or.inl ⟨rfl, ?_⟩; intro w hSw; obtain ⟨hS1, hS2⟩ := hSw; go_simp; try with_reducible rfl)
                case at68z9 => assumption
                case rt68z9 =>
                simp only [Act.put, List.setIfInBounds_toArray, List.set_cons_zero, List.set_cons_succ]
                refine' wpAnyH_take (i := 16) (oi := ?ot69z16) (v := ?vt69z16) ?ht69z16 ?st69z16 ?ft69z16 ?zt69z16 ?qt69z16 ?yt69z16 ?at69z16 ?rt69z16
                case ht69z16 => (simp only [List.getElem?_toArray, List.getElem?_cons_succ, List.getElem?_cons_zero]; rfl)
                case st69z16 => kernel_rfl
                case ft69z16 => kernel_rfl
                case zt69z16 => kernel_rfl
                case qt69z16 => exact fun _ _ _ h => h
                case yt69z16 => (refine Or.inl ⟨rfl, ?_⟩; intro w hSw; (try dsimp only at hSw); go_simp; try with_reducible rfl)
                case at69z16 => assumption
                case rt69z16 =>
                simp only [Act.put, List.setIfInBounds_toArray, List.set_cons_zero, List.set_cons_succ]
                refine wpAnyH_ready (rs := [18]) (by kernel_rfl) (by simp) ?_
                refine' AllReadyH.cons (o := ?or18x70) ?hr18x70 ?kr18x70 AllReadyH.nil
                case hr18x70 => (simp only [List.getElem?_toArray, List.getElem?_cons_succ, List.getElem?_cons_zero]; rfl)
                case kr18x70 =>
                  intro K0 hK
                  have S171a := Lib.hid (S167.out.re (show _ = Asn.blk ge 44 #[.string ⟨#[]⟩, .string ⟨#[]⟩, .bool false] * (Asn.blk gm 5 (madeCells #[.int .u8 0] 40) * (Asn.vec 44 3 (.slice A7 1 c7) 1 (cells3 (gL 1)) * (aSf gs (gS 1) V' * Asn.emp))) by ac_rfl))
                  have HST := Lib.hid (store3 (S171a.out.has (Has.l (has_blk ge _ _))) (ofL (keyZ 4)) (ofL (List.replicate 40 0)) false)
                  have S171 := Lib.hid ((own_3 S171a.out (.string (ofL (keyZ 4))) (.string (ofL (List.replicate 40 0))) (.bool false)).re (show _ = Asn.blk gm 5 (madeCells #[.int .u8 0] 40) * (Asn.blk ge 44 #[.string (ofL (keyZ 4)), .string (ofL (List.replicate 40 0)), .bool false] * (Asn.vec 44 3 (.slice A7 1 c7) 1 (cells3 (gL 1)) * (aSf gs (gS 1) V' * Asn.emp))) by ac_rfl))
                  clear S171a
                  refine step_store_w rfl rfl (.tmp 10) (.tmp 53) 44 rfl (.pointer (some ⟨ge, 0, none⟩)) (.agg #[.string (ofL (keyZ 4)), .string (ofL (List.replicate 40 0)), .bool false]) rfl rfl _ HST.out ?_
                  clear HST
                  refine hK.out _ _ ?_ (fun hHeld => ?_)
                  · exact ⟨KC.out _ _ S171.out, CV.out _ _ S171.out⟩
                  clear hK K0
                  (try simp only [Act.put, List.setIfInBounds_toArray, List.set_cons_zero, List.set_cons_succ])
                  generalize World.setCell (World.setCell (World.setCell w167 _ _) _ _) _ _ = w171 at *
                  refine wpAnyH_done (by kernel_rfl) ?_ _
                  go_wp2_with fail
                  go_meet
                  case rel => exact ⟨ge, rfl, Lib.hid S171.out.right⟩
          case mr7x54 =>
          refine' AllReadyH.cons (o := ?or8x72) ?hr8x72 ?kr8x72 ?mr8x72
          case hr8x72 => (simp only [List.getElem?_toArray, List.getElem?_cons_succ, List.getElem?_cons_zero]; rfl)
          case kr8x72 =>
            intro K0 hK
            go_simp
            have S173 := Lib.hid ((S2.out.alloc (madeCells #[.int .u8 0] 40) 5))
            obtain ⟨gm, hgz⟩ : ∃ g, g = w3.heap.size := ⟨_, rfl⟩
            rw [← hgz] at S173 ⊢
            clear hgz
            generalize World.alloc w3 _ = w173 at *
            have CV := Lib.hid (fun W D (h : Own w No W (Asn.blk gm 5 (madeCells #[.int .u8 0] 40) * D)) => mk_conv h)
            refine hK.out _ _ ?_ (fun hHeld => ?_)
            · exact KC.out _ _ S173.out
            clear hK K0
            (try simp only [Act.put, List.setIfInBounds_toArray, List.set_cons_zero, List.set_cons_succ])
            refine wpAnyH_weak (S := fun W => (W.cell? ⟨gk, 1, none⟩ = some (.int .i64 4)) ∧ ((convert 63 9 (.slice (some ⟨gm, 0, none⟩) 40 40)).run Try.prog W = .ok (.string (ofL (List.replicate 40 0))) W)) (fun _ h => h.1) _ _ _ _ ?_
            have hHeld2 := And.intro (KC.out _ _ S173.out) (CV.out _ _ S173.out)
            refine' wpAnyH_take (i := 9) (oi := ?ot74z9) (v := ?vt74z9) ?ht74z9 ?st74z9 ?ft74z9 ?zt74z9 ?qt74z9 ?yt74z9 ?at74z9 ?rt74z9
            case ht74z9 => (simp only [List.getElem?_toArray, List.getElem?_cons_succ, List.getElem?_cons_zero]; rfl)
            case st74z9 => kernel_rfl
            case ft74z9 => kernel_rfl
            case zt74z9 => kernel_rfl
            case qt74z9 => exact fun _ _ _ h => h
            case yt74z9 => (refine Or.inl ⟨rfl, ?_⟩; intro w hSw; obtain ⟨hS1, hS2⟩ := hSw; go_simp; try with_reducible rfl)
            case at74z9 => assumption
            case rt74z9 =>
            simp only [Act.put, List.setIfInBounds_toArray, List.set_cons_zero, List.set_cons_succ]
            refine wpAnyH_ready (rs := [7, 17]) (by kernel_rfl) (by simp) ?_
            refine' AllReadyH.cons (o := ?or7x75) ?hr7x75 ?kr7x75 ?mr7x75
            case hr7x75 => (simp only [List.getElem?_toArray, List.getElem?_cons_succ, List.getElem?_cons_zero]; rfl)
            case kr7x75 =>
              intro K0 hK
              go_simp
              go_at_call 33
              refine (key11_any 4 _ (by decide) (by decide)).mono ?_
              rintro eK w176 ⟨rfl, hX⟩
              have S176 := Lib.hid (S173.out.below hX)
              clear hX
              refine hK.out _ _ ?_ (fun hHeld => ?_)
              · exact ⟨KC.out _ _ S176.out, CV.out _ _ S176.out⟩
              clear hK K0
              (try simp only [Act.put, List.setIfInBounds_toArray, List.set_cons_zero, List.set_cons_succ])
              refine' wpAnyH_take (i := 16) (oi := ?ot77z16) (v := ?vt77z16) ?ht77z16 ?st77z16 ?ft77z16 ?zt77z16 ?qt77z16 ?yt77z16 ?at77z16 ?rt77z16
              case ht77z16 => (simp only [List.getElem?_toArray, List.getElem?_cons_succ, List.getElem?_cons_zero]; rfl)
              case st77z16 => kernel_rfl
              case ft77z16 => kernel_rfl
              case zt77z16 => kernel_rfl
              case qt77z16 => exact fun _ _ _ h => h
              case yt77z16 => (refine Or.inl ⟨rfl, ?_⟩; intro w hSw; (try dsimp only at hSw); go_simp; try with_reducible rfl)
              case at77z16 => assumption
              case rt77z16 =>
              simp only [Act.put, List.setIfInBounds_toArray, List.set_cons_zero, List.set_cons_succ]
              refine wpAnyH_ready (rs := [17]) (by kernel_rfl) (by simp) ?_
              refine' AllReadyH.cons (o := ?or17x78) ?hr17x78 ?kr17x78 AllReadyH.nil
              case hr17x78 => (simp only [List.getElem?_toArray, List.getElem?_cons_succ, List.getElem?_cons_zero]; rfl)
              case kr17x78 =>
                intro K0 hK
                go_simp
                obtain ⟨ge, hgz⟩ : ∃ g, g = w176.heap.size := ⟨_, rfl⟩
                have S179a := Lib.hid (S176.out.alloc #[.string ⟨#[]⟩, .string ⟨#[]⟩, .bool false] 44)
                rw [← hgz] at S179a ⊢
                clear hgz
                have S179 := Lib.hid (S179a.out.re (show _ = Asn.blk gm 5 (madeCells #[.int .u8 0] 40) * (Asn.blk ge 44 #[.string ⟨#[]⟩, .string ⟨#[]⟩, .bool false] * (Asn.vec 44 3 (.slice A7 1 c7) 1 (cells3 (gL 1)) * (aSf gs (gS 1) V' * Asn.emp))) by ac_rfl))
                clear S179a
                generalize World.alloc w176 _ = w179 at *
                refine hK.out _ _ ?_ (fun hHeld => ?_)
                · exact ⟨KC.out _ _ S179.out, CV.out _ _ S179.out⟩
                clear hK K0
                (try simp only [Act.put, List.setIfInBounds_toArray, List.set_cons_zero, List.set_cons_succ])
                refine wpAnyH_ready (rs := [18]) (by kernel_rfl) (by simp) ?_
                refine' AllReadyH.cons (o := ?or18x80) ?hr18x80 ?kr18x80 AllReadyH.nil
                case hr18x80 => (simp only [List.getElem?_toArray, List.getElem?_cons_succ, List.getElem?_cons_zero]; rfl)
                case kr18x80 =>
                  intro K0 hK
                  have S181a := Lib.hid (S179.out.re (show _ = Asn.blk ge 44 #[.string ⟨#[]⟩, .string ⟨#[]⟩, .bool false] * (Asn.blk gm 5 (madeCells #[.int .u8 0] 40) * (Asn.vec 44 3 (.slice A7 1 c7) 1 (cells3 (gL 1)) * (aSf gs (gS 1) V' * Asn.emp))) by ac_rfl))
                  have HST := Lib.hid (store3 (S181a.out.has (Has.l (has_blk ge _ _))) (ofL (keyZ 4)) (ofL (List.replicate 40 0)) false)
                  have S181 := Lib.hid ((own_3 S181a.out (.string (ofL (keyZ 4))) (.string (ofL (List.replicate 40 0))) (.bool false)).re (show _ = Asn.blk gm 5 (madeCells #[.int .u8 0] 40) * (Asn.blk ge 44 #[.string (ofL (keyZ 4)), .string (ofL (List.replicate 40 0)), .bool false] * (Asn.vec 44 3 (.slice A7 1 c7) 1 (cells3 (gL 1)) * (aSf gs (gS 1) V' * Asn.emp))) by ac_rfl))
                  clear S181a
                  refine step_store_w rfl rfl (.tmp 10) (.tmp 53) 44 rfl (.pointer (some ⟨ge, 0, none⟩)) (.agg #[.string (ofL (keyZ 4)), .string (ofL (List.replicate 40 0)), .bool false]) rfl rfl _ HST.out ?_
                  clear HST
                  refine hK.out _ _ ?_ (fun hHeld => ?_)
                  · exact ⟨KC.out _ _ S181.out, CV.out _ _ S181.out⟩
                  clear hK K0
                  (try simp only [Act.put, List.setIfInBounds_toArray, List.set_cons_zero, List.set_cons_succ])
                  generalize World.setCell (World.setCell (World.setCell w179 _ _) _ _) _ _ = w181 at *
                  refine wpAnyH_done (by kernel_rfl) ?_ _
                  go_wp2_with fail
                  go_meet
                  case rel => exact ⟨ge, rfl, Lib.hid S181.out.right⟩
            case mr7x75 =>
            refine' AllReadyH.cons (o := ?or17x82) ?hr17x82 ?kr17x82 AllReadyH.nil
            case hr17x82 => (simp only [List.getElem?_toArray, List.getElem?_cons_succ, List.getElem?_cons_zero]; rfl)
            case kr17x82 =>
              intro K0 hK
              go_simp
              obtain ⟨ge, hgz⟩ : ∃ g, g = w173.heap.size := ⟨_, rfl⟩
              have S183a := Lib.hid (S173.out.alloc #[.string ⟨#[]⟩, .string ⟨#[]⟩, .bool false] 44)
              rw [← hgz] at S183a ⊢
              clear hgz
              have S183 := Lib.hid (S183a.out.re (show _ = Asn.blk gm 5 (madeCells #[.int .u8 0] 40) * (Asn.blk ge 44 #[.string ⟨#[]⟩, .string ⟨#[]⟩, .bool false] * (Asn.vec 44 3 (.slice A7 1 c7) 1 (cells3 (gL 1)) * (aSf gs (gS 1) V' * Asn.emp))) by ac_rfl))
              clear S183a
              generalize World.alloc w173 _ = w183 at *
              refine hK.out _ _ ?_ (fun hHeld => ?_)
              · exact ⟨KC.out _ _ S183.out, CV.out _ _ S183.out⟩
              clear hK K0
              (try simp only [Act.put, List.setIfInBounds_toArray, List.set_cons_zero, List.set_cons_succ])
              refine wpAnyH_ready (rs := [7]) (by kernel_rfl) (by simp) ?_
              refine' AllReadyH.cons (o := ?or7x84) ?hr7x84 ?kr7x84 AllReadyH.nil
              case hr7x84 => (simp only [List.getElem?_toArray, List.getElem?_cons_succ, List.getElem?_cons_zero]; rfl)
              case kr7x84 =>
                intro K0 hK
                go_simp
                go_at_call 33
                refine (key11_any 4 _ (by decide) (by decide)).mono ?_
                rintro eK w185 ⟨rfl, hX⟩
                have S185 := Lib.hid (S183.out.below hX)
                clear hX
                refine hK.out _ _ ?_ (fun hHeld => ?_)
                · exact ⟨KC.out _ _ S185.out, CV.out _ _ S185.out⟩
                clear hK K0
                (try simp only [Act.put, List.setIfInBounds_toArray, List.set_cons_zero, List.set_cons_succ])
                refine' wpAnyH_take (i := 16) (oi := ?ot86z16) (v := ?vt86z16) ?ht86z16 ?st86z16 ?ft86z16 ?zt86z16 ?qt86z16 ?yt86z16 ?at86z16 ?rt86z16
                case ht86z16 => (simp only [List.getElem?_toArray, List.getElem?_cons_succ, List.getElem?_cons_zero]; rfl)
                case st86z16 => kernel_rfl
                case ft86z16 => kernel_rfl
                case zt86z16 => kernel_rfl
                case qt86z16 => exact fun _ _ _ h => h
                case yt86z16 => (refine Or.inl ⟨rfl, ?_⟩; intro w hSw; (try dsimp only at hSw); go_simp; try with_reducible rfl)
                case at86z16 => assumption
                case rt86z16 =>
                simp only [Act.put, List.setIfInBounds_toArray, List.set_cons_zero, List.set_cons_succ]
                refine wpAnyH_ready (rs := [18]) (by kernel_rfl) (by simp) ?_
                refine' AllReadyH.cons (o := ?or18x87) ?hr18x87 ?kr18x87 AllReadyH.nil
                case hr18x87 => (simp only [List.getElem?_toArray, List.getElem?_cons_succ, List.getElem?_cons_zero]; rfl)
                case kr18x87 =>
                  intro K0 hK
                  have S188a := Lib.hid (S185.out.re (show _ = Asn.blk ge 44 #[.string ⟨#[]⟩, .string ⟨#[]⟩, .bool false] * (Asn.blk gm 5 (madeCells #[.int .u8 0] 40) * (Asn.vec 44 3 (.slice A7 1 c7) 1 (cells3 (gL 1)) * (aSf gs (gS 1) V' * Asn.emp))) by ac_rfl))
                  have HST := Lib.hid (store3 (S188a.out.has (Has.l (has_blk ge _ _))) (ofL (keyZ 4)) (ofL (List.replicate 40 0)) false)
                  have S188 := Lib.hid ((own_3 S188a.out (.string (ofL (keyZ 4))) (.string (ofL (List.replicate 40 0))) (.bool false)).re (show _ = Asn.blk gm 5 (madeCells #[.int .u8 0] 40) * (Asn.blk ge 44 #[.string (ofL (keyZ 4)), .string (ofL (List.replicate 40 0)), .bool false] * (Asn.vec 44 3 (.slice A7 1 c7) 1 (cells3 (gL 1)) * (aSf gs (gS 1) V' * Asn.emp))) by ac_rfl))
                  clear S188a
                  refine step_store_w rfl rfl (.tmp 10) (.tmp 53) 44 rfl (.pointer (some ⟨ge, 0, none⟩)) (.agg #[.string (ofL (keyZ 4)), .string (ofL (List.replicate 40 0)), .bool false]) rfl rfl _ HST.out ?_
                  clear HST
                  refine hK.out _ _ ?_ (fun hHeld => ?_)
                  · exact ⟨KC.out _ _ S188.out, CV.out _ _ S188.out⟩
                  clear hK K0
                  (try simp only [Act.put, List.setIfInBounds_toArray, List.set_cons_zero, List.set_cons_succ])
                  generalize World.setCell (World.setCell (World.setCell w185 _ _) _ _) _ _ = w188 at *
                  refine wpAnyH_done (by kernel_rfl) ?_ _
                  go_wp2_with fail
                  go_meet
                  case rel => exact ⟨ge, rfl, Lib.hid S188.out.right⟩
          case mr8x72 =>
          refine' AllReadyH.cons (o := ?or17x89) ?hr17x89 ?kr17x89 AllReadyH.nil
          case hr17x89 => (simp only [List.getElem?_toArray, List.getElem?_cons_succ, List.getElem?_cons_zero]; rfl)
          case kr17x89 =>
            intro K0 hK
            go_simp
            obtain ⟨ge, hgz⟩ : ∃ g, g = w3.heap.size := ⟨_, rfl⟩
            have S190a := Lib.hid (S2.out.alloc #[.string ⟨#[]⟩, .string ⟨#[]⟩, .bool false] 44)
            rw [← hgz] at S190a ⊢
            clear hgz
            have S190 := Lib.hid (S190a.out.re (show _ = Asn.blk ge 44 #[.string ⟨#[]⟩, .string ⟨#[]⟩, .bool false] * (Asn.vec 44 3 (.slice A7 1 c7) 1 (cells3 (gL 1)) * (aSf gs (gS 1) V' * Asn.emp)) by ac_rfl))
            clear S190a
            generalize World.alloc w3 _ = w190 at *
            refine hK.out _ _ ?_ (fun hHeld => ?_)
            · exact KC.out _ _ S190.out
            clear hK K0
            (try simp only [Act.put, List.setIfInBounds_toArray, List.set_cons_zero, List.set_cons_succ])
            refine wpAnyH_ready (rs := [7, 8]) (by kernel_rfl) (by simp) ?_
            refine' AllReadyH.cons (o := ?or7x91) ?hr7x91 ?kr7x91 ?mr7x91
            case hr7x91 => (simp only [List.getElem?_toArray, List.getElem?_cons_succ, List.getElem?_cons_zero]; rfl)
            case kr7x91 =>
              intro K0 hK
              go_simp
              go_at_call 33
              refine (key11_any 4 _ (by decide) (by decide)).mono ?_
              rintro eK w192 ⟨rfl, hX⟩
              have S192 := Lib.hid (S190.out.below hX)
              clear hX
              refine hK.out _ _ ?_ (fun hHeld => ?_)
              · exact KC.out _ _ S192.out
              clear hK K0
              (try simp only [Act.put, List.setIfInBounds_toArray, List.set_cons_zero, List.set_cons_succ])
              refine wpAnyH_ready (rs := [8]) (by kernel_rfl) (by simp) ?_
              refine' AllReadyH.cons (o := ?or8x93) ?hr8x93 ?kr8x93 AllReadyH.nil
              case hr8x93 => (simp only [List.getElem?_toArray, List.getElem?_cons_succ, List.getElem?_cons_zero]; rfl)
              case kr8x93 =>
                intro K0 hK
                go_simp
                have S194 := Lib.hid ((S192.out.alloc (madeCells #[.int .u8 0] 40) 5))
                obtain ⟨gm, hgz⟩ : ∃ g, g = w192.heap.size := ⟨_, rfl⟩
                rw [← hgz] at S194 ⊢
                clear hgz
                generalize World.alloc w192 _ = w194 at *
                have CV := Lib.hid (fun W D (h : Own w No W (Asn.blk gm 5 (madeCells #[.int .u8 0] 40) * D)) => mk_conv h)
                refine hK.out _ _ ?_ (fun hHeld => ?_)
                · exact KC.out _ _ S194.out
                clear hK K0
                (try simp only [Act.put, List.setIfInBounds_toArray, List.set_cons_zero, List.set_cons_succ])
                refine wpAnyH_weak (S := fun W => (W.cell? ⟨gk, 1, none⟩ = some (.int .i64 4)) ∧ ((convert 63 9 (.slice (some ⟨gm, 0, none⟩) 40 40)).run Try.prog W = .ok (.string (ofL (List.replicate 40 0))) W)) (fun _ h => h.1) _ _ _ _ ?_
                have hHeld2 := And.intro (KC.out _ _ S194.out) (CV.out _ _ S194.out)
                refine' wpAnyH_take (i := 9) (oi := ?ot95z9) (v := ?vt95z9) ?ht95z9 ?st95z9 ?ft95z9 ?zt95z9 ?qt95z9 ?yt95z9 ?at95z9 ?rt95z9
                case ht95z9 => (simp only [List.getElem?_toArray, List.getElem?_cons_succ, List.getElem?_cons_zero]; rfl)
                case st95z9 => kernel_rfl
                case ft95z9 => kernel_rfl
                case zt95z9 => kernel_rfl
                case qt95z9 => exact fun _ _ _ h => h
                case yt95z9 => (refine Or.inl ⟨rfl, ?_⟩; intro w hSw; obtain ⟨hS1, hS2⟩ := hSw; go_simp; try with_reducible rfl)
                case at95z9 => assumption
                case rt95z9 =>
                simp only [Act.put, List.setIfInBounds_toArray, List.set_cons_zero, List.set_cons_succ]
                refine' wpAnyH_take (i := 16) (oi := ?ot96z16) (v := ?vt96z16) ?ht96z16 ?st96z16 ?ft96z16 ?zt96z16 ?qt96z16 ?yt96z16 ?at96z16 ?rt96z16
                case ht96z16 => (simp only [List.getElem?_toArray, List.getElem?_cons_succ, List.getElem?_cons_zero]; rfl)
                case st96z16 => kernel_rfl
                case ft96z16 => kernel_rfl
                case zt96z16 => kernel_rfl
                case qt96z16 => exact fun _ _ _ h => h
                case yt96z16 => (refine Or.inl ⟨rfl, ?_⟩; intro w hSw; (try dsimp only at hSw); go_simp; try with_reducible rfl)
                case at96z16 => assumption
                case rt96z16 =>
                simp only [Act.put, List.setIfInBounds_toArray, List.set_cons_zero, List.set_cons_succ]
                refine wpAnyH_ready (rs := [18]) (by kernel_rfl) (by simp) ?_
                refine' AllReadyH.cons (o := ?or18x97) ?hr18x97 ?kr18x97 AllReadyH.nil
                case hr18x97 => (simp only [List.getElem?_toArray, List.getElem?_cons_succ, List.getElem?_cons_zero]; rfl)
                case kr18x97 =>
                  intro K0 hK
                  have S198a := Lib.hid (S194.out.re (show _ = Asn.blk ge 44 #[.string ⟨#[]⟩, .string ⟨#[]⟩, .bool false] * (Asn.blk gm 5 (madeCells #[.int .u8 0] 40) * (Asn.vec 44 3 (.slice A7 1 c7) 1 (cells3 (gL 1)) * (aSf gs (gS 1) V' * Asn.emp))) by ac_rfl))
                  have HST := Lib.hid (store3 (S198a.out.has (Has.l (has_blk ge _ _))) (ofL (keyZ 4)) (ofL (List.replicate 40 0)) false)
                  have S198 := Lib.hid ((own_3 S198a.out (.string (ofL (keyZ 4))) (.string (ofL (List.replicate 40 0))) (.bool false)).re (show _ = Asn.blk gm 5 (madeCells #[.int .u8 0] 40) * (Asn.blk ge 44 #[.string (ofL (keyZ 4)), .string (ofL (List.replicate 40 0)), .bool false] * (Asn.vec 44 3 (.slice A7 1 c7) 1 (cells3 (gL 1)) * (aSf gs (gS 1) V' * Asn.emp))) by ac_rfl))
                  clear S198a
                  refine step_store_w rfl rfl (.tmp 10) (.tmp 53) 44 rfl (.pointer (some ⟨ge, 0, none⟩)) (.agg #[.string (ofL (keyZ 4)), .string (ofL (List.replicate 40 0)), .bool false]) rfl rfl _ HST.out ?_
                  clear HST
                  refine hK.out _ _ ?_ (fun hHeld => ?_)
                  · exact ⟨KC.out _ _ S198.out, CV.out _ _ S198.out⟩
                  clear hK K0
                  (try simp only [Act.put, List.setIfInBounds_toArray, List.set_cons_zero, List.set_cons_succ])
                  generalize World.setCell (World.setCell (World.setCell w194 _ _) _ _) _ _ = w198 at *
                  refine wpAnyH_done (by kernel_rfl) ?_ _
                  go_wp2_with fail
                  go_meet
                  case rel => exact ⟨ge, rfl, Lib.hid S198.out.right⟩
            case mr7x91 =>
            refine' AllReadyH.cons (o := ?or8x99) ?hr8x99 ?kr8x99 AllReadyH.nil
            case hr8x99 => (simp only [List.getElem?_toArray, List.getElem?_cons_succ, List.getElem?_cons_zero]; rfl)
            case kr8x99 =>
              intro K0 hK
              go_simp
              have S200 := Lib.hid ((S190.out.alloc (madeCells #[.int .u8 0] 40) 5))
              obtain ⟨gm, hgz⟩ : ∃ g, g = w190.heap.size := ⟨_, rfl⟩
              rw [← hgz] at S200 ⊢
              clear hgz
              generalize World.alloc w190 _ = w200 at *
              have CV := Lib.hid (fun W D (h : Own w No W (Asn.blk gm 5 (madeCells #[.int .u8 0] 40) * D)) => mk_conv h)
              refine hK.out _ _ ?_ (fun hHeld => ?_)
              · exact KC.out _ _ S200.out
              clear hK K0
              (try simp only [Act.put, List.setIfInBounds_toArray, List.set_cons_zero, List.set_cons_succ])
              refine wpAnyH_weak (S := fun W => (W.cell? ⟨gk, 1, none⟩ = some (.int .i64 4)) ∧ ((convert 63 9 (.slice (some ⟨gm, 0, none⟩) 40 40)).run Try.prog W = .ok (.string (ofL (List.replicate 40 0))) W)) (fun _ h => h.1) _ _ _ _ ?_
              have hHeld2 := And.intro (KC.out _ _ S200.out) (CV.out _ _ S200.out)
              refine' wpAnyH_take (i := 9) (oi := ?ot101z9) (v := ?vt101z9) ?ht101z9 ?st101z9 ?ft101z9 ?zt101z9 ?qt101z9 ?yt101z9 ?at101z9 ?rt101z9
              case ht101z9 => (simp only [List.getElem?_toArray, List.getElem?_cons_succ, List.getElem?_cons_zero]; rfl)
              case st101z9 => kernel_rfl
              case ft101z9 => kernel_rfl
              case zt101z9 => kernel_rfl
              case qt101z9 => exact fun _ _ _ h => h
              case yt101z9 => (refine Or.inl ⟨rfl, ?_⟩; intro w hSw; obtain ⟨hS1, hS2⟩ := hSw; go_simp; try with_reducible rfl)
              case at101z9 => assumption
              case rt101z9 =>
              simp only [Act.put, List.setIfInBounds_toArray, List.set_cons_zero, List.set_cons_succ]
              refine wpAnyH_ready (rs := [7]) (by kernel_rfl) (by simp) ?_
              refine' AllReadyH.cons (o := ?or7x102) ?hr7x102 ?kr7x102 AllReadyH.nil
              case hr7x102 => (simp only [List.getElem?_toArray, List.getElem?_cons_succ, List.getElem?_cons_zero]; rfl)
              case kr7x102 =>
                intro K0 hK
                go_simp
                go_at_call 33
                refine (key11_any 4 _ (by decide) (by decide)).mono ?_
                rintro eK w203 ⟨rfl, hX⟩
                have S203 := Lib.hid (S200.out.below hX)
                clear hX
                refine hK.out _ _ ?_ (fun hHeld => ?_)
                · exact ⟨KC.out _ _ S203.out, CV.out _ _ S203.out⟩
                clear hK K0
                (try simp only [Act.put, List.setIfInBounds_toArray, List.set_cons_zero, List.set_cons_succ])
                refine' wpAnyH_take (i := 16) (oi := ?ot104z16) (v := ?vt104z16) ?ht104z16 ?st104z16 ?ft104z16 ?zt104z16 ?qt104z16 ?yt104z16 ?at104z16 ?rt104z16
                case ht104z16 => (simp only [List.getElem?_toArray, List.getElem?_cons_succ, List.getElem?_cons_zero]; rfl)
                case st104z16 => kernel_rfl
                case ft104z16 => kernel_rfl
                case zt104z16 => kernel_rfl
                case qt104z16 => exact fun _ _ _ h => h
                case yt104z16 => (refine Or.inl ⟨rfl, ?_⟩; intro w hSw; (try dsimp only at hSw); go_simp; try with_reducible rfl)
                case at104z16 => assumption
                case rt104z16 =>
                simp only [Act.put, List.setIfInBounds_toArray, List.set_cons_zero, List.set_cons_succ]
                refine wpAnyH_ready (rs := [18]) (by kernel_rfl) (by simp) ?_
                refine' AllReadyH.cons (o := ?or18x105) ?hr18x105 ?kr18x105 AllReadyH.nil
                case hr18x105 => (simp only [List.getElem?_toArray, List.getElem?_cons_succ, List.getElem?_cons_zero]; rfl)
                case kr18x105 =>
                  intro K0 hK
                  have S206a := Lib.hid (S203.out.re (show _ = Asn.blk ge 44 #[.string ⟨#[]⟩, .string ⟨#[]⟩, .bool false] * (Asn.blk gm 5 (madeCells #[.int .u8 0] 40) * (Asn.vec 44 3 (.slice A7 1 c7) 1 (cells3 (gL 1)) * (aSf gs (gS 1) V' * Asn.emp))) by ac_rfl))
                  have HST := Lib.hid (store3 (S206a.out.has (Has.l (has_blk ge _ _))) (ofL (keyZ 4)) (ofL (List.replicate 40 0)) false)
                  have S206 := Lib.hid ((own_3 S206a.out (.string (ofL (keyZ 4))) (.string (ofL (List.replicate 40 0))) (.bool false)).re (show _ = Asn.blk gm 5 (madeCells #[.int .u8 0] 40) * (Asn.blk ge 44 #[.string (ofL (keyZ 4)), .string (ofL (List.replicate 40 0)), .bool false] * (Asn.vec 44 3 (.slice A7 1 c7) 1 (cells3 (gL 1)) * (aSf gs (gS 1) V' * Asn.emp))) by ac_rfl))
                  clear S206a
                  refine step_store_w rfl rfl (.tmp 10) (.tmp 53) 44 rfl (.pointer (some ⟨ge, 0, none⟩)) (.agg #[.string (ofL (keyZ 4)), .string (ofL (List.replicate 40 0)), .bool false]) rfl rfl _ HST.out ?_
                  clear HST
                  refine hK.out _ _ ?_ (fun hHeld => ?_)
                  · exact ⟨KC.out _ _ S206.out, CV.out _ _ S206.out⟩
                  clear hK K0
                  (try simp only [Act.put, List.setIfInBounds_toArray, List.set_cons_zero, List.set_cons_succ])
                  generalize World.setCell (World.setCell (World.setCell w203 _ _) _ _) _ _ = w206 at *
                  refine wpAnyH_done (by kernel_rfl) ?_ _
                  go_wp2_with fail
                  go_meet
                  case rel => exact ⟨ge, rfl, Lib.hid S206.out.right⟩
        case rest =>
        obtain ⟨ge, rfl, S3⟩ := hcut
        clear S2
        have hlen : (gL 1).length = 1 := (g_list ⟨1, by decide⟩).1
        have HLK := Lib.hid (g_list ⟨1, by decide⟩).2
        have hgo := g_ok ⟨1, by decide⟩
        obtain ⟨hsm, hlv⟩ := g_sm 1 (by decide)
        have HPt := Lib.hid (fun W C h => Put_any gs (gS 1) V' hsm hlv 3 (ek 1) w W C h)
        rw [show entCells (ek 1) = #[.string (ofL (keyZ 4)), .string (ofL (List.replicate 40 0)), .bool false] from rfl, show (putR (gS 1) 3 (ek 1)).1 = 0 from hgo.1] at HPt
        unfold pgs at HPt
        have HGO := Lib.hid hgo
        clear hgo hsm hlv
        obtain ⟨⟨e0, e1, e2⟩, -⟩ := three_of (S3.out.has (Has.l (has_blk ge _ _)))
        go_wp2_with fail
        refine wp_loop_rounds 1 ?_
        rw [rounds_succ]
        go_wp2_with fail
        refine (HPt.out _ _ (S3.out.re (show _ = aSf gs (gS 1) V' * (Asn.blk ge 44 #[.string (ofL (keyZ 4)), .string (ofL (List.replicate 40 0)), .bool false] * (Asn.vec 44 3 (.slice A7 1 c7) 1 (cells3 (gL 1)) * Asn.emp)) by ac_rfl))).mono ?_
        rintro e w4 ⟨v12, L, rfl, hpl, hX⟩
        have hL1 : L.length = 1 := by rw [len_one hpl]; exact HGO.out.2.1
        obtain ⟨A12, c12, rfl⟩ := hX.vec.slice
        rw [hL1] at hX ⊢
        have HPu := Lib.hid (ShPut_own gs _ _ L 1 hL1 (.slice A12 1 c12) w w4 _ (by decide) (by rw [hpl]; exact fun x hx => (HGO.out.2.2 x hx).1) hX)
        rw [hpl] at HPu
        clear hX S3 HPt hL1 e0 e1 e2
        unfold sPtr at HPu
        go_wp2_with fail
        refine HPu.out.mono ?_
        rintro e w5 ⟨rfl, V2, hX⟩
        have S4 := Lib.hid (show Own w No w5 (aSf gs (gS (1 + 1)) V2 * (Asn.blk ge 44 #[.string (ofL (keyZ 4)), .string (ofL (List.replicate 40 0)), .bool false] * (Asn.vec 44 3 (.slice A7 1 c7) 1 (cells3 (gL 1)) * Asn.emp))) from hX)
        clear hX HPu hpl
        obtain ⟨⟨e0, e1, e2⟩, -⟩ := three_of (S4.out.has (Has.r (Has.l (has_blk ge _ _))))
        have HRo : Hid (Row3 w5 (.slice A7 1 c7) (gL 1)) := Lib.hid (by
          have h1 := S4.out.right.right
          rw [show Asn.vec 44 3 (.slice A7 1 c7) 1 (cells3 (gL 1)) = Asn.vec 44 3 (.slice A7 (gL 1).length c7) (gL 1).length (cells3 (gL 1)) by rw [hlen]] at h1
          have h2 := Row3.of_vec h1.vec
          rw [hlen] at h2
          exact h2)
        have HRp := Lib.hid (refPut_any (gL 1) (ek 1) (.slice A7 1 c7) w5 (by omega) HRo.out HLK.out (ek_len 1))
        rw [show entCells (ek 1) = #[.string (ofL (keyZ 4)), .string (ofL (List.replicate 40 0)), .bool false] from rfl] at HRp
        clear HRo HLK
        go_wp2_with fail
        refine HRp.out.mono ?_
        rintro e w6 ⟨v7, rfl, hX⟩
        have hlen2 : (putE (gL 1) (ek 1)).length = 1 + 1 := (g_list ⟨1 + 1, by decide⟩).1
        have hT := own_join S4.out hX
        rw [hlen2] at hT
        obtain ⟨A8, c8, rfl⟩ := hT.vec.slice
        have S5 := Lib.hid ((show Own w No w6 (Asn.vec 44 3 (.slice A8 (1 + 1) c8) (1 + 1) (cells3 (gL (1 + 1))) * (aSf gs (gS (1 + 1)) V2 * (Asn.blk ge 44 #[.string (ofL (keyZ 4)), .string (ofL (List.replicate 40 0)), .bool false] * (Asn.vec 44 3 (.slice A7 1 c7) 1 (cells3 (gL 1)) * Asn.emp)))) from hT).re (show _ = (Asn.blk ge 44 #[.string (ofL (keyZ 4)), .string (ofL (List.replicate 40 0)), .bool false] * Asn.vec 44 3 (.slice A7 1 c7) 1 (cells3 (gL 1))) * (Asn.vec 44 3 (.slice A8 (1 + 1) c8) (1 + 1) (cells3 (gL (1 + 1))) * (aSf gs (gS (1 + 1)) V2 * Asn.emp)) by ac_rfl)).right
        clear hT hX S4 HRp e0 e1 e2 hlen hlen2 HGO
        go_wp2_with fail
        go_round
        case rel => exact ⟨1 + 1, A8, c8, by omega, by go_num, by go_num, V2, S5⟩
        case measure => simp only [intOf]; omega
      · have KC : Hid (∀ W D, Own w No W D → W.cell? ⟨gk, 2, none⟩ = some (.int .i64 6)) := HQ2
        have c0 := KC.out _ _ S1.out
        go_upto_region 9 with fail
        have S2 := Lib.hid S1.out.drew
        clear S1 c0
        go_cut [10] (fun s10 wx => ∃ ge : Nat, s10 = .pointer (some ⟨ge, 0, none⟩) ∧ Hid (Own w No wx (Asn.blk ge 44 #[.string (ofL (keyZ 6)), .string (ofL (List.replicate 40 0)), .bool false] * (Asn.vec 44 3 (.slice A7 2 c7) 2 (cells3 (gL 2)) * (aSf gs (gS 2) V' * Asn.emp)))))
        case first =>
          refine wp_region_held_drew (S := fun W : World => W.cell? ⟨gk, 2, none⟩ = some (.int .i64 6)) (by kernel_rfl) (KC.out _ _ S2.out) (fun hHeld => ?_)
          generalize wr.drew = w3 at *
          refine' wpAnyH_take (i := 0) (oi := ?op20) (v := ?vp20) ?hp20 ?sp20 ?fp20 ?zp20 ?qp20 ?yp20 ?ap20 ?rp20
          case hp20 => (simp only [List.getElem?_toArray, List.getElem?_cons_succ, List.getElem?_cons_zero]; rfl)
          case sp20 => kernel_rfl
          case fp20 => kernel_rfl
          case zp20 => kernel_rfl
          case qp20 => exact fun _ _ _ h => h
          case yp20 => (refine Or.inl ⟨rfl, ?_⟩; intro w hSw; (try dsimp only at hSw); go_simp; try with_reducible rfl)
          case ap20 => assumption
          case rp20 =>
          simp only [Act.put, List.setIfInBounds_toArray, List.set_cons_zero, List.set_cons_succ]
          refine' wpAnyH_take (i := 1) (oi := ?op21) (v := ?vp21) ?hp21 ?sp21 ?fp21 ?zp21 ?qp21 ?yp21 ?ap21 ?rp21
          case hp21 => (simp only [List.getElem?_toArray, List.getElem?_cons_succ, List.getElem?_cons_zero]; rfl)
          case sp21 => kernel_rfl
          case fp21 => kernel_rfl
          case zp21 => kernel_rfl
          case qp21 => exact fun _ _ _ h => h
          case yp21 => (refine Or.inl ⟨rfl, ?_⟩; intro w hSw; (try dsimp only at hSw); go_simp; try with_reducible rfl)
          case ap21 => assumption
          case rp21 =>
          simp only [Act.put, List.setIfInBounds_toArray, List.set_cons_zero, List.set_cons_succ]
          refine' wpAnyH_take (i := 2) (oi := ?op22) (v := ?vp22) ?hp22 ?sp22 ?fp22 ?zp22 ?qp22 ?yp22 ?ap22 ?rp22
          case hp22 => (simp only [List.getElem?_toArray, List.getElem?_cons_succ, List.getElem?_cons_zero]; rfl)
          case sp22 => kernel_rfl
          case fp22 => kernel_rfl
          case zp22 => kernel_rfl
          case qp22 => exact fun _ _ _ h => h
          case yp22 => (refine Or.inl ⟨rfl, ?_⟩; intro w hSw; (try dsimp only at hSw); go_simp; try with_reducible rfl)
          case ap22 => assumption
          case rp22 =>
          simp only [Act.put, List.setIfInBounds_toArray, List.set_cons_zero, List.set_cons_succ]
          refine' wpAnyH_take (i := 3) (oi := ?op23) (v := ?vp23) ?hp23 ?sp23 ?fp23 ?zp23 ?qp23 ?yp23 ?ap23 ?rp23
          case hp23 => (simp only [List.getElem?_toArray, List.getElem?_cons_succ, List.getElem?_cons_zero]; rfl)
          case sp23 => kernel_rfl
          case fp23 => kernel_rfl
          case zp23 => kernel_rfl
          case qp23 => exact fun _ _ _ h => h
          case yp23 => (refine Or.inl ⟨rfl, ?_⟩; intro w hSw; (try dsimp only at hSw); go_simp; try with_reducible rfl)
          case ap23 => assumption
          case rp23 =>
          simp only [Act.put, List.setIfInBounds_toArray, List.set_cons_zero, List.set_cons_succ]
          refine' wpAnyH_take (i := 4) (oi := ?op24) (v := ?vp24) ?hp24 ?sp24 ?fp24 ?zp24 ?qp24 ?yp24 ?ap24 ?rp24
          case hp24 => (simp only [List.getElem?_toArray, List.getElem?_cons_succ, List.getElem?_cons_zero]; rfl)
          case sp24 => kernel_rfl
          case fp24 => kernel_rfl
          case zp24 => kernel_rfl
          case qp24 => exact fun _ _ _ h => h
          case yp24 => (refine Or.inl ⟨rfl, ?_⟩; intro w hSw; (try dsimp only at hSw); go_simp; try with_reducible rfl)
          case ap24 => assumption
          case rp24 =>
          simp only [Act.put, List.setIfInBounds_toArray, List.set_cons_zero, List.set_cons_succ]
          refine' wpAnyH_take (i := 5) (oi := ?op25) (v := ?vp25) ?hp25 ?sp25 ?fp25 ?zp25 ?qp25 ?yp25 ?ap25 ?rp25
          case hp25 => (simp only [List.getElem?_toArray, List.getElem?_cons_succ, List.getElem?_cons_zero]; rfl)
          case sp25 => kernel_rfl
          case fp25 => kernel_rfl
          case zp25 => kernel_rfl
          case qp25 => exact fun _ _ _ h => h
          case yp25 => (refine Or.inl ⟨rfl, ?_⟩; intro w hSw; (try dsimp only at hSw); go_simp; try with_reducible rfl)
          case ap25 => assumption
          case rp25 =>
          simp only [Act.put, List.setIfInBounds_toArray, List.set_cons_zero, List.set_cons_succ]
          refine' wpAnyH_take (i := 6) (oi := ?op26) (v := ?vp26) ?hp26 ?sp26 ?fp26 ?zp26 ?qp26 ?yp26 ?ap26 ?rp26
          case hp26 => (simp only [List.getElem?_toArray, List.getElem?_cons_succ, List.getElem?_cons_zero]; rfl)
          case sp26 => kernel_rfl
          case fp26 => kernel_rfl
          case zp26 => kernel_rfl
          case qp26 => exact fun _ _ _ h => h
          case yp26 => (refine Or.inl ⟨rfl, ?_⟩; intro w hSw; (try dsimp only at hSw); go_simp; try with_reducible rfl)
          case ap26 => assumption
          case rp26 =>
          simp only [Act.put, List.setIfInBounds_toArray, List.set_cons_zero, List.set_cons_succ]
          refine' wpAnyH_take (i := 10) (oi := ?op210) (v := ?vp210) ?hp210 ?sp210 ?fp210 ?zp210 ?qp210 ?yp210 ?ap210 ?rp210
          case hp210 => (simp only [List.getElem?_toArray, List.getElem?_cons_succ, List.getElem?_cons_zero]; rfl)
          case sp210 => kernel_rfl
          case fp210 => kernel_rfl
          case zp210 => kernel_rfl
          case qp210 => exact fun _ _ _ h => h
          case yp210 => (refine Or.inl ⟨rfl, ?_⟩; intro w hSw; (try dsimp only at hSw); go_simp; try with_reducible rfl)
          case ap210 => assumption
          case rp210 =>
          simp only [Act.put, List.setIfInBounds_toArray, List.set_cons_zero, List.set_cons_succ]
          refine' wpAnyH_take (i := 11) (oi := ?op211) (v := ?vp211) ?hp211 ?sp211 ?fp211 ?zp211 ?qp211 ?yp211 ?ap211 ?rp211
          case hp211 => (simp only [List.getElem?_toArray, List.getElem?_cons_succ, List.getElem?_cons_zero]; rfl)
          case sp211 => kernel_rfl
          case fp211 => kernel_rfl
          case zp211 => kernel_rfl
          case qp211 => exact fun _ _ _ h => h
          case yp211 => (refine Or.inl ⟨rfl, ?_⟩; intro w hSw; (try dsimp only at hSw); go_simp; try with_reducible rfl)
          case ap211 => assumption
          case rp211 =>
          simp only [Act.put, List.setIfInBounds_toArray, List.set_cons_zero, List.set_cons_succ]
          refine' wpAnyH_take (i := 12) (oi := ?op212) (v := ?vp212) ?hp212 ?sp212 ?fp212 ?zp212 ?qp212 ?yp212 ?ap212 ?rp212
          case hp212 => (simp only [List.getElem?_toArray, List.getElem?_cons_succ, List.getElem?_cons_zero]; rfl)
          case sp212 => kernel_rfl
          case fp212 => kernel_rfl
          case zp212 => kernel_rfl
          case qp212 => exact fun _ _ _ h => h
          case yp212 => (refine Or.inl ⟨rfl, ?_⟩; intro w hSw; (try dsimp only at hSw); go_simp; try with_reducible rfl)
          case ap212 => assumption
          case rp212 =>
          simp only [Act.put, List.setIfInBounds_toArray, List.set_cons_zero, List.set_cons_succ]
          refine' wpAnyH_take (i := 13) (oi := ?op213) (v := ?vp213) ?hp213 ?sp213 ?fp213 ?zp213 ?qp213 ?yp213 ?ap213 ?rp213
          case hp213 => (simp only [List.getElem?_toArray, List.getElem?_cons_succ, List.getElem?_cons_zero]; rfl)
          case sp213 => kernel_rfl
          case fp213 => kernel_rfl
          case zp213 => kernel_rfl
          case qp213 => exact fun _ _ _ h => h
          case yp213 => (refine Or.inl ⟨rfl, ?_⟩; intro w hSw; (try dsimp only at hSw); go_simp; try with_reducible rfl)
          case ap213 => assumption
          case rp213 =>
          simp only [Act.put, List.setIfInBounds_toArray, List.set_cons_zero, List.set_cons_succ]
          refine' wpAnyH_take (i := 14) (oi := ?op214) (v := ?vp214) ?hp214 ?sp214 ?fp214 ?zp214 ?qp214 ?yp214 ?ap214 ?rp214
          case hp214 => (simp only [List.getElem?_toArray, List.getElem?_cons_succ, List.getElem?_cons_zero]; rfl)
          case sp214 => kernel_rfl
          case fp214 => kernel_rfl
          case zp214 => kernel_rfl
          case qp214 => exact fun _ _ _ h => h
          case yp214 => (refine Or.inl ⟨rfl, ?_⟩; intro w hSw; (try dsimp only at hSw); go_simp; try with_reducible rfl)
          case ap214 => assumption
          case rp214 =>
          simp only [Act.put, List.setIfInBounds_toArray, List.set_cons_zero, List.set_cons_succ]
          refine' wpAnyH_take (i := 15) (oi := ?op215) (v := ?vp215) ?hp215 ?sp215 ?fp215 ?zp215 ?qp215 ?yp215 ?ap215 ?rp215
          case hp215 => (simp only [List.getElem?_toArray, List.getElem?_cons_succ, List.getElem?_cons_zero]; rfl)
          case sp215 => kernel_rfl
          case fp215 => kernel_rfl
          case zp215 => kernel_rfl
          case qp215 => exact fun _ _ _ h => h
          case yp215 => (refine Or.inl ⟨rfl, ?_⟩; intro w hSw; (try dsimp only at hSw); go_simp; try with_reducible rfl)
          case ap215 => assumption
          case rp215 =>
          simp only [Act.put, List.setIfInBounds_toArray, List.set_cons_zero, List.set_cons_succ]
          refine wpAnyH_ready (rs := [7, 8, 17]) (by kernel_rfl) (by simp) ?_
          refine' AllReadyH.cons (o := ?or7x107) ?hr7x107 ?kr7x107 ?mr7x107
          case hr7x107 => (simp only [List.getElem?_toArray, List.getElem?_cons_succ, List.getElem?_cons_zero]; rfl)
          case kr7x107 =>
            intro K0 hK
            go_simp
            go_at_call 33
            refine (key11_any 6 _ (by decide) (by decide)).mono ?_
            rintro eK w208 ⟨rfl, hX⟩
            have S208 := Lib.hid (S2.out.below hX)
            clear hX
            refine hK.out _ _ ?_ (fun hHeld => ?_)
            · exact KC.out _ _ S208.out
            clear hK K0
            (try simp only [Act.put, List.setIfInBounds_toArray, List.set_cons_zero, List.set_cons_succ])
            refine wpAnyH_ready (rs := [8, 17]) (by kernel_rfl) (by simp) ?_
            refine' AllReadyH.cons (o := ?or8x109) ?hr8x109 ?kr8x109 ?mr8x109
            case hr8x109 => (simp only [List.getElem?_toArray, List.getElem?_cons_succ, List.getElem?_cons_zero]; rfl)
            case kr8x109 =>
              intro K0 hK
              go_simp
              have S210 := Lib.hid ((S208.out.alloc (madeCells #[.int .u8 0] 40) 5))
              obtain ⟨gm, hgz⟩ : ∃ g, g = w208.heap.size := ⟨_, rfl⟩
              rw [← hgz] at S210 ⊢
              clear hgz
              generalize World.alloc w208 _ = w210 at *
              have CV := Lib.hid (fun W D (h : Own w No W (Asn.blk gm 5 (madeCells #[.int .u8 0] 40) * D)) => mk_conv h)
              refine hK.out _ _ ?_ (fun hHeld => ?_)
              · exact KC.out _ _ S210.out
              clear hK K0
              (try simp only [Act.put, List.setIfInBounds_toArray, List.set_cons_zero, List.set_cons_succ])
              refine wpAnyH_weak (S := fun W => (W.cell? ⟨gk, 2, none⟩ = some (.int .i64 6)) ∧ ((convert 63 9 (.slice (some ⟨gm, 0, none⟩) 40 40)).run Try.prog W = .ok (.string (ofL (List.replicate 40 0))) W)) (fun _ h => h.1) _ _ _ _ ?_
              have hHeld2 := And.intro (KC.out _ _ S210.out) (CV.out _ _ S210.out)
              refine' wpAnyH_take (i := 9) (oi := ?ot111z9) (v := ?vt111z9) ?ht111z9 ?st111z9 ?ft111z9 ?zt111z9 ?qt111z9 ?yt111z9 ?at111z9 ?rt111z9
              case ht111z9 => (simp only [List.getElem?_toArray, List.getElem?_cons_succ, List.getElem?_cons_zero]; rfl)
              case st111z9 => kernel_rfl
              case ft111z9 => kernel_rfl
              case zt111z9 => kernel_rfl
              case qt111z9 => exact fun _ _ _ h => h
              case yt111z9 => (refine Or.inl ⟨rfl, ?_⟩; intro w hSw; obtain ⟨hS1, hS2⟩ := hSw; go_simp; try with_reducible rfl)
              case at111z9 => assumption
              case rt111z9 =>
              simp only [Act.put, List.setIfInBounds_toArray, List.set_cons_zero, List.set_cons_succ]
              refine' wpAnyH_take (i := 16) (oi := ?ot112z16) (v := ?vt112z16) ?ht112z16 ?st112z16 ?ft112z16 ?zt112z16 ?qt112z16 ?yt112z16 ?at112z16 ?rt112z16
              case ht112z16 => (simp only [List.getElem?_toArray, List.getElem?_cons_succ, List.getElem?_cons_zero]; rfl)
              case st112z16 => kernel_rfl
              case ft112z16 => kernel_rfl
              case zt112z16 => kernel_rfl
              case qt112z16 => exact fun _ _ _ h => h
              case yt112z16 => (refine Or.inl ⟨rfl, ?_⟩; intro w hSw; (try dsimp only at hSw); go_simp; try with_reducible rfl)
              case at112z16 => assumption
              case rt112z16 =>
              simp only [Act.put, List.setIfInBounds_toArray, List.set_cons_zero, List.set_cons_succ]
              refine wpAnyH_ready (rs := [17]) (by kernel_rfl) (by simp) ?_
              refine' AllReadyH.cons (o := ?or17x113) ?hr17x113 ?kr17x113 AllReadyH.nil
              case hr17x113 => (simp only [List.getElem?_toArray, List.getElem?_cons_succ, List.getElem?_cons_zero]; rfl)
              case kr17x113 =>
                intro K0 hK
                go_simp
                obtain ⟨ge, hgz⟩ : ∃ g, g = w210.heap.size := ⟨_, rfl⟩
                have S214a := Lib.hid (S210.out.alloc #[.string ⟨#[]⟩, .string ⟨#[]⟩, .bool false] 44)
                rw [← hgz] at S214a ⊢
                clear hgz
                have S214 := Lib.hid (S214a.out.re (show _ = Asn.blk gm 5 (madeCells #[.int .u8 0] 40) * (Asn.blk ge 44 #[.string ⟨#[]⟩, .string ⟨#[]⟩, .bool false] * (Asn.vec 44 3 (.slice A7 2 c7) 2 (cells3 (gL 2)) * (aSf gs (gS 2) V' * Asn.emp))) by ac_rfl))
                clear S214a
                generalize World.alloc w210 _ = w214 at *
                refine hK.out _ _ ?_ (fun hHeld => ?_)
                · exact ⟨KC.out _ _ S214.out, CV.out _ _ S214.out⟩
                clear hK K0
                (try simp only [Act.put, List.setIfInBounds_toArray, List.set_cons_zero, List.set_cons_succ])
                refine wpAnyH_ready (rs := [18]) (by kernel_rfl) (by simp) ?_
                refine' AllReadyH.cons (o := ?or18x115) ?hr18x115 ?kr18x115 AllReadyH.nil
                case hr18x115 => (simp only [List.getElem?_toArray, List.getElem?_cons_succ, List.getElem?_cons_zero]; rfl)
                case kr18x115 =>
                  intro K0 hK
                  have S216a := Lib.hid (S214.out.re (show _ = Asn.blk ge 44 #[.string ⟨#[]⟩, .string ⟨#[]⟩, .bool false] * (Asn.blk gm 5 (madeCells #[.int .u8 0] 40) * (Asn.vec 44 3 (.slice A7 2 c7) 2 (cells3 (gL 2)) * (aSf gs (gS 2) V' * Asn.emp))) by ac_rfl))
                  have HST := Lib.hid (store3 (S216a.out.has (Has.l (has_blk ge _ _))) (ofL (keyZ 6)) (ofL (List.replicate 40 0)) false)
                  have S216 := Lib.hid ((own_3 S216a.out (.string (ofL (keyZ 6))) (.string (ofL (List.replicate 40 0))) (.bool false)).re (show _ = Asn.blk gm 5 (madeCells #[.int .u8 0] 40) * (Asn.blk ge 44 #[.string (ofL (keyZ 6)), .string (ofL (List.replicate 40 0)), .bool false] * (Asn.vec 44 3 (.slice A7 2 c7) 2 (cells3 (gL 2)) * (aSf gs (gS 2) V' * Asn.emp))) by ac_rfl))
                  clear S216a
                  refine step_store_w rfl rfl (.tmp 10) (.tmp 53) 44 rfl (.pointer (some ⟨ge, 0, none⟩)) (.agg #[.string (ofL (keyZ 6)), .string (ofL (List.replicate 40 0)), .bool false]) rfl rfl _ HST.out ?_
                  clear HST
                  refine hK.out _ _ ?_ (fun hHeld => ?_)
                  · exact ⟨KC.out _ _ S216.out, CV.out _ _ S216.out⟩
                  clear hK K0
                  (try simp only [Act.put, List.setIfInBounds_toArray, List.set_cons_zero, List.set_cons_succ])
                  generalize World.setCell (World.setCell (World.setCell w214 _ _) _ _) _ _ = w216 at *
                  refine wpAnyH_done (by kernel_rfl) ?_ _
                  go_wp2_with fail
                  go_meet
                  case rel => exact ⟨ge, rfl, Lib.hid S216.out.right⟩
            case mr8x109 =>
            refine' AllReadyH.cons (o := ?or17x117) ?hr17x117 ?kr17x117 AllReadyH.nil
            case hr17x117 => (simp only [List.getElem?_toArray, List.getElem?_cons_succ, List.getElem?_cons_zero]; rfl)
            case kr17x117 =>
              intro K0 hK
              go_simp
              obtain ⟨ge, hgz⟩ : ∃ g, g = w208.heap.size := ⟨_, rfl⟩
              have S218a := Lib.hid (S208.out.alloc #[.string ⟨#[]⟩, .string ⟨#[]⟩, .bool false] 44)
              rw [← hgz] at S218a ⊢
              clear hgz
              have S218 := Lib.hid (S218a.out.re (show _ = Asn.blk ge 44 #[.string ⟨#[]⟩, .string ⟨#[]⟩, .bool false] * (Asn.vec 44 3 (.slice A7 2 c7) 2 (cells3 (gL 2)) * (aSf gs (gS 2) V' * Asn.emp)) by ac_rfl))
              clear S218a
              generalize World.alloc w208 _ = w218 at *
              refine hK.out _ _ ?_ (fun hHeld => ?_)
              · exact KC.out _ _ S218.out
              clear hK K0
              (try simp only [Act.put, List.setIfInBounds_toArray, List.set_cons_zero, List.set_cons_succ])
              refine wpAnyH_ready (rs := [8]) (by kernel_rfl) (by simp) ?_
              refine' AllReadyH.cons (o := ?or8x119) ?hr8x119 ?kr8x119 AllReadyH.nil
              case hr8x119 => (simp only [List.getElem?_toArray, List.getElem?_cons_succ, List.getElem?_cons_zero]; rfl)
              case kr8x119 =>
                intro K0 hK
                go_simp
                have S220 := Lib.hid ((S218.out.alloc (madeCells #[.int .u8 0] 40) 5))
                obtain ⟨gm, hgz⟩ : ∃ g, g = w218.heap.size := ⟨_, rfl⟩
                rw [← hgz] at S220 ⊢
                clear hgz
                generalize World.alloc w218 _ = w220 at *
                have CV := Lib.hid (fun W D (h : Own w No W (Asn.blk gm 5 (madeCells #[.int .u8 0] 40) * D)) => mk_conv h)
                refine hK.out _ _ ?_ (fun hHeld => ?_)
                · exact KC.out _ _ S220.out
                clear hK K0
                (try simp only [Act.put, List.setIfInBounds_toArray, List.set_cons_zero, List.set_cons_succ])
                refine wpAnyH_weak (S := fun W => (W.cell? ⟨gk, 2, none⟩ = some (.int .i64 6)) ∧ ((convert 63 9 (.slice (some ⟨gm, 0, none⟩) 40 40)).run Try.prog W = .ok (.string (ofL (List.replicate 40 0))) W)) (fun _ h => h.1) _ _ _ _ ?_
                have hHeld2 := And.intro (KC.out _ _ S220.out) (CV.out _ _ S220.out)
                refine' wpAnyH_take (i := 9) (oi := ?ot121z9) (v := ?vt121z9) ?ht121z9 ?st121z9 ?ft121z9 ?zt121z9 ?qt121z9 ?yt121z9 ?at121z9 ?rt121z9
                case ht121z9 => (simp only [List.getElem?_toArray, List.getElem?_cons_succ, List.getElem?_cons_zero]; rfl)
                case st121z9 => kernel_rfl
                case ft121z9 => kernel_rfl
                case zt121z9 => kernel_rfl
                case qt121z9 => exact fun _ _ _ h => h
                case yt121z9 => (refine Or.inl ⟨rfl, ?_⟩; intro w hSw; obtain ⟨hS1, hS2⟩ := hSw; go_simp; try with_reducible rfl)
                case at121z9 => assumption
                case rt121z9 =>
                simp only [Act.put, List.setIfInBounds_toArray, List.set_cons_zero, List.set_cons_succ]
                refine' wpAnyH_take (i := 16) (oi := ?ot122z16) (v := ?vt122z16) ?ht122z16 ?st122z16 ?ft122z16 ?zt122z16 ?qt122z16 ?yt122z16 ?at122z16 ?rt122z16
                case ht122z16 => (simp only [List.getElem?_toArray, List.getElem?_cons_succ, List.getElem?_cons_zero]; rfl)
                case st122z16 => kernel_rfl
                case ft122z16 => kernel_rfl
                case zt122z16 => kernel_rfl
                case qt122z16 => exact fun _ _ _ h => h
                case yt122z16 => (refine Or.inl ⟨rfl, ?_⟩; intro w hSw; (try dsimp only at hSw); go_simp; try with_reducible rfl)
                case at122z16 => assumption
                case rt122z16 =>
                simp only [Act.put, List.setIfInBounds_toArray, List.set_cons_zero, List.set_cons_succ]
                refine wpAnyH_ready (rs := [18]) (by kernel_rfl) (by simp) ?_
                refine' AllReadyH.cons (o := ?or18x123) ?hr18x123 ?kr18x123 AllReadyH.nil
                case hr18x123 => (simp only [List.getElem?_toArray, List.getElem?_cons_succ, List.getElem?_cons_zero]; rfl)
                case kr18x123 =>
                  intro K0 hK
                  have S224a := Lib.hid (S220.out.re (show _ = Asn.blk ge 44 #[.string ⟨#[]⟩, .string ⟨#[]⟩, .bool false] * (Asn.blk gm 5 (madeCells #[.int .u8 0] 40) * (Asn.vec 44 3 (.slice A7 2 c7) 2 (cells3 (gL 2)) * (aSf gs (gS 2) V' * Asn.emp))) by ac_rfl))
                  have HST := Lib.hid (store3 (S224a.out.has (Has.l (has_blk ge _ _))) (ofL (keyZ 6)) (ofL (List.replicate 40 0)) false)
                  have S224 := Lib.hid ((own_3 S224a.out (.string (ofL (keyZ 6))) (.string (ofL (List.replicate 40 0))) (.bool false)).re (show _ = Asn.blk gm 5 (madeCells #[.int .u8 0] 40) * (Asn.blk ge 44 #[.string (ofL (keyZ 6)), .string (ofL (List.replicate 40 0)), .bool false] * (Asn.vec 44 3 (.slice A7 2 c7) 2 (cells3 (gL 2)) * (aSf gs (gS 2) V' * Asn.emp))) by ac_rfl))
                  clear S224a
                  refine step_store_w rfl rfl (.tmp 10) (.tmp 53) 44 rfl (.pointer (some ⟨ge, 0, none⟩)) (.agg #[.string (ofL (keyZ 6)), .string (ofL (List.replicate 40 0)), .bool false]) rfl rfl _ HST.out ?_
                  clear HST
                  refine hK.out _ _ ?_ (fun hHeld => ?_)
                  · exact ⟨KC.out _ _ S224.out, CV.out _ _ S224.out⟩
                  clear hK K0
                  (try simp only [Act.put, List.setIfInBounds_toArray, List.set_cons_zero, List.set_cons_succ])
                  generalize World.setCell (World.setCell (World.setCell w220 _ _) _ _) _ _ = w224 at *
                  refine wpAnyH_done (by kernel_rfl) ?_ _
                  go_wp2_with fail
                  go_meet
                  case rel => exact ⟨ge, rfl, Lib.hid S224.out.right⟩
          case mr7x107 =>
          refine' AllReadyH.cons (o := ?or8x125) ?hr8x125 ?kr8x125 ?mr8x125
          case hr8x125 => (simp only [List.getElem?_toArray, List.getElem?_cons_succ, List.getElem?_cons_zero]; rfl)
          case kr8x125 =>
            intro K0 hK
            go_simp
            have S226 := Lib.hid ((S2.out.alloc (madeCells #[.int .u8 0] 40) 5))
            obtain ⟨gm, hgz⟩ : ∃ g, g = w3.heap.size := ⟨_, rfl⟩
            rw [← hgz] at S226 ⊢
            clear hgz
            generalize World.alloc w3 _ = w226 at *
            have CV := Lib.hid (fun W D (h : Own w No W (Asn.blk gm 5 (madeCells #[.int .u8 0] 40) * D)) => mk_conv h)
            refine hK.out _ _ ?_ (fun hHeld => ?_)
            · exact KC.out _ _ S226.out
            clear hK K0
            (try simp only [Act.put, List.setIfInBounds_toArray, List.set_cons_zero, List.set_cons_succ])
            refine wpAnyH_weak (S := fun W => (W.cell? ⟨gk, 2, none⟩ = some (.int .i64 6)) ∧ ((convert 63 9 (.slice (some ⟨gm, 0, none⟩) 40 40)).run Try.prog W = .ok (.string (ofL (List.replicate 40 0))) W)) (fun _ h => h.1) _ _ _ _ ?_
            have hHeld2 := And.intro (KC.out _ _ S226.out) (CV.out _ _ S226.out)
            refine' wpAnyH_take (i := 9) (oi := ?ot127z9) (v := ?vt127z9) ?ht127z9 ?st127z9 ?ft127z9 ?zt127z9 ?qt127z9 ?yt127z9 ?at127z9 ?rt127z9
            case ht127z9 => (simp only [List.getElem?_toArray, List.getElem?_cons_succ, List.getElem?_cons_zero]; rfl)
            case st127z9 => kernel_rfl
            case ft127z9 => kernel_rfl
            case zt127z9 => kernel_rfl
            case qt127z9 => exact fun _ _ _ h => h
            case yt127z9 => (refine Or.inl ⟨rfl, ?_⟩; intro w hSw; obtain ⟨hS1, hS2⟩ := hSw; go_simp; try with_reducible rfl)
            case at127z9 => assumption
            case rt127z9 =>
            simp only [Act.put, List.setIfInBounds_toArray, List.set_cons_zero, List.set_cons_succ]
            refine wpAnyH_ready (rs := [7, 17]) (by kernel_rfl) (by simp) ?_
            refine' AllReadyH.cons (o := ?or7x128) ?hr7x128 ?kr7x128 ?mr7x128
            case hr7x128 => (simp only [List.getElem?_toArray, List.getElem?_cons_succ, List.getElem?_cons_zero]; rfl)
            case kr7x128 =>
              intro K0 hK
              go_simp
              go_at_call 33
              refine (key11_any 6 _ (by decide) (by decide)).mono ?_
              rintro eK w229 ⟨rfl, hX⟩
              have S229 := Lib.hid (S226.out.below hX)
              clear hX
              refine hK.out _ _ ?_ (fun hHeld => ?_)
              · exact ⟨KC.out _ _ S229.out, CV.out _ _ S229.out⟩
              clear hK K0
              (try simp only [Act.put, List.setIfInBounds_toArray, List.set_cons_zero, List.set_cons_succ])
              refine' wpAnyH_take (i := 16) (oi := ?ot130z16) (v := ?vt130z16) ?ht130z16 ?st130z16 ?ft130z16 ?zt130z16 ?qt130z16 ?yt130z16 ?at130z16 ?rt130z16
              case ht130z16 => (simp only [List.getElem?_toArray, List.getElem?_cons_succ, List.getElem?_cons_zero]; rfl)
              case st130z16 => kernel_rfl
              case ft130z16 => kernel_rfl
              case zt130z16 => kernel_rfl
              case qt130z16 => exact fun _ _ _ h => h
              case yt130z16 => (refine Or.inl ⟨rfl, ?_⟩; intro w hSw; (try dsimp only at hSw); go_simp; try with_reducible rfl)
              case at130z16 => assumption
              case rt130z16 =>
              simp only [Act.put, List.setIfInBounds_toArray, List.set_cons_zero, List.set_cons_succ]
              refine wpAnyH_ready (rs := [17]) (by kernel_rfl) (by simp) ?_
              refine' AllReadyH.cons (o := ?or17x131) ?hr17x131 ?kr17x131 AllReadyH.nil
              case hr17x131 => (simp only [List.getElem?_toArray, List.getElem?_cons_succ, List.getElem?_cons_zero]; rfl)
              case kr17x131 =>
                intro K0 hK
                go_simp
                obtain ⟨ge, hgz⟩ : ∃ g, g = w229.heap.size := ⟨_, rfl⟩
                have S232a := Lib.hid (S229.out.alloc #[.string ⟨#[]⟩, .string ⟨#[]⟩, .bool false] 44)
                rw [← hgz] at S232a ⊢
                clear hgz
                have S232 := Lib.hid (S232a.out.re (show _ = Asn.blk gm 5 (madeCells #[.int .u8 0] 40) * (Asn.blk ge 44 #[.string ⟨#[]⟩, .string ⟨#[]⟩, .bool false] * (Asn.vec 44 3 (.slice A7 2 c7) 2 (cells3 (gL 2)) * (aSf gs (gS 2) V' * Asn.emp))) by ac_rfl))
                clear S232a
                generalize World.alloc w229 _ = w232 at *
                refine hK.out _ _ ?_ (fun hHeld => ?_)
                · exact ⟨KC.out _ _ S232.out, CV.out _ _ S232.out⟩
                clear hK K0
                (try simp only [Act.put, List.setIfInBounds_toArray, List.set_cons_zero, List.set_cons_succ])
                refine wpAnyH_ready (rs := [18]) (by kernel_rfl) (by simp) ?_
                refine' AllReadyH.cons (o := ?or18x133) ?hr18x133 ?kr18x133 AllReadyH.nil
                case hr18x133 => (simp only [List.getElem?_toArray, List.getElem?_cons_succ, List.getElem?_cons_zero]; rfl)
                case kr18x133 =>
                  intro K0 hK
                  have S234a := Lib.hid (S232.out.re (show _ = Asn.blk ge 44 #[.string ⟨#[]⟩, .string ⟨#[]⟩, .bool false] * (Asn.blk gm 5 (madeCells #[.int .u8 0] 40) * (Asn.vec 44 3 (.slice A7 2 c7) 2 (cells3 (gL 2)) * (aSf gs (gS 2) V' * Asn.emp))) by ac_rfl))
                  have HST := Lib.hid (store3 (S234a.out.has (Has.l (has_blk ge _ _))) (ofL (keyZ 6)) (ofL (List.replicate 40 0)) false)
                  have S234 := Lib.hid ((own_3 S234a.out (.string (ofL (keyZ 6))) (.string (ofL (List.replicate 40 0))) (.bool false)).re (show _ = Asn.blk gm 5 (madeCells #[.int .u8 0] 40) * (Asn.blk ge 44 #[.string (ofL (keyZ 6)), .string (ofL (List.replicate 40 0)), .bool false] * (Asn.vec 44 3 (.slice A7 2 c7) 2 (cells3 (gL 2)) * (aSf gs (gS 2) V' * Asn.emp))) by ac_rfl))
                  clear S234a
                  refine step_store_w rfl rfl (.tmp 10) (.tmp 53) 44 rfl (.pointer (some ⟨ge, 0, none⟩)) (.agg #[.string (ofL (keyZ 6)), .string (ofL (List.replicate 40 0)), .bool false]) rfl rfl _ HST.out ?_
                  clear HST
                  refine hK.out _ _ ?_ (fun hHeld => ?_)
                  · exact ⟨KC.out _ _ S234.out, CV.out _ _ S234.out⟩
                  clear hK K0
                  (try simp only [Act.put, List.setIfInBounds_toArray, List.set_cons_zero, List.set_cons_succ])
                  generalize World.setCell (World.setCell (World.setCell w232 _ _) _ _) _ _ = w234 at *
                  refine wpAnyH_done (by kernel_rfl) ?_ _
                  go_wp2_with fail
                  go_meet
                  case rel => exact ⟨ge, rfl, Lib.hid S234.out.right⟩
            case mr7x128 =>
            refine' AllReadyH.cons (o := ?or17x135) ?hr17x135 ?kr17x135 AllReadyH.nil
            case hr17x135 => (simp only [List.getElem?_toArray, List.getElem?_cons_succ, List.getElem?_cons_zero]; rfl)
            case kr17x135 =>
              intro K0 hK
              go_simp
              obtain ⟨ge, hgz⟩ : ∃ g, g = w226.heap.size := ⟨_, rfl⟩
              have S236a := Lib.hid (S226.out.alloc #[.string ⟨#[]⟩, .string ⟨#[]⟩, .bool false] 44)
              rw [← hgz] at S236a ⊢
              clear hgz
              have S236 := Lib.hid (S236a.out.re (show _ = Asn.blk gm 5 (madeCells #[.int .u8 0] 40) * (Asn.blk ge 44 #[.string ⟨#[]⟩, .string ⟨#[]⟩, .bool false] * (Asn.vec 44 3 (.slice A7 2 c7) 2 (cells3 (gL 2)) * (aSf gs (gS 2) V' * Asn.emp))) by ac_rfl))
              clear S236a
              generalize World.alloc w226 _ = w236 at *
              refine hK.out _ _ ?_ (fun hHeld => ?_)
              · exact ⟨KC.out _ _ S236.out, CV.out _ _ S236.out⟩
              clear hK K0
              (try simp only [Act.put, List.setIfInBounds_toArray, List.set_cons_zero, List.set_cons_succ])
              refine wpAnyH_ready (rs := [7]) (by kernel_rfl) (by simp) ?_
              refine' AllReadyH.cons (o := ?or7x137) ?hr7x137 ?kr7x137 AllReadyH.nil
              case hr7x137 => (simp only [List.getElem?_toArray, List.getElem?_cons_succ, List.getElem?_cons_zero]; rfl)
              case kr7x137 =>
                intro K0 hK
                go_simp
                go_at_call 33
                refine (key11_any 6 _ (by decide) (by decide)).mono ?_
                rintro eK w238 ⟨rfl, hX⟩
                have S238 := Lib.hid (S236.out.below hX)
                clear hX
                refine hK.out _ _ ?_ (fun hHeld => ?_)
                · exact ⟨KC.out _ _ S238.out, CV.out _ _ S238.out⟩
                clear hK K0
                (try simp only [Act.put, List.setIfInBounds_toArray, List.set_cons_zero, List.set_cons_succ])
                refine' wpAnyH_take (i := 16) (oi := ?ot139z16) (v := ?vt139z16) ?ht139z16 ?st139z16 ?ft139z16 ?zt139z16 ?qt139z16 ?yt139z16 ?at139z16 ?rt139z16
                case ht139z16 => (simp only [List.getElem?_toArray, List.getElem?_cons_succ, List.getElem?_cons_zero]; rfl)
                case st139z16 => kernel_rfl
                case ft139z16 => kernel_rfl
                case zt139z16 => kernel_rfl
                case qt139z16 => exact fun _ _ _ h => h
                case yt139z16 => (refine Or.inl ⟨rfl, ?_⟩; intro w hSw; (try dsimp only at hSw); go_simp; try with_reducible rfl)
                case at139z16 => assumption
                case rt139z16 =>
                simp only [Act.put, List.setIfInBounds_toArray, List.set_cons_zero, List.set_cons_succ]
                refine wpAnyH_ready (rs := [18]) (by kernel_rfl) (by simp) ?_
                refine' AllReadyH.cons (o := ?or18x140) ?hr18x140 ?kr18x140 AllReadyH.nil
                case hr18x140 => (simp only [List.getElem?_toArray, List.getElem?_cons_succ, List.getElem?_cons_zero]; rfl)
                case kr18x140 =>
                  intro K0 hK
                  have S241a := Lib.hid (S238.out.re (show _ = Asn.blk ge 44 #[.string ⟨#[]⟩, .string ⟨#[]⟩, .bool false] * (Asn.blk gm 5 (madeCells #[.int .u8 0] 40) * (Asn.vec 44 3 (.slice A7 2 c7) 2 (cells3 (gL 2)) * (aSf gs (gS 2) V' * Asn.emp))) by ac_rfl))
                  have HST := Lib.hid (store3 (S241a.out.has (Has.l (has_blk ge _ _))) (ofL (keyZ 6)) (ofL (List.replicate 40 0)) false)
                  have S241 := Lib.hid ((own_3 S241a.out (.string (ofL (keyZ 6))) (.string (ofL (List.replicate 40 0))) (.bool false)).re (show _ = Asn.blk gm 5 (madeCells #[.int .u8 0] 40) * (Asn.blk ge 44 #[.string (ofL (keyZ 6)), .string (ofL (List.replicate 40 0)), .bool false] * (Asn.vec 44 3 (.slice A7 2 c7) 2 (cells3 (gL 2)) * (aSf gs (gS 2) V' * Asn.emp))) by ac_rfl))
                  clear S241a
                  refine step_store_w rfl rfl (.tmp 10) (.tmp 53) 44 rfl (.pointer (some ⟨ge, 0, none⟩)) (.agg #[.string (ofL (keyZ 6)), .string (ofL (List.replicate 40 0)), .bool false]) rfl rfl _ HST.out ?_
                  clear HST
                  refine hK.out _ _ ?_ (fun hHeld => ?_)
                  · exact ⟨KC.out _ _ S241.out, CV.out _ _ S241.out⟩
                  clear hK K0
                  (try simp only [Act.put, List.setIfInBounds_toArray, List.set_cons_zero, List.set_cons_succ])
                  generalize World.setCell (World.setCell (World.setCell w238 _ _) _ _) _ _ = w241 at *
                  refine wpAnyH_done (by kernel_rfl) ?_ _
                  go_wp2_with fail
                  go_meet
                  case rel => exact ⟨ge, rfl, Lib.hid S241.out.right⟩
          case mr8x125 =>
          refine' AllReadyH.cons (o := ?or17x142) ?hr17x142 ?kr17x142 AllReadyH.nil
          case hr17x142 => (simp only [List.getElem?_toArray, List.getElem?_cons_succ, List.getElem?_cons_zero]; rfl)
          case kr17x142 =>
            intro K0 hK
            go_simp
            obtain ⟨ge, hgz⟩ : ∃ g, g = w3.heap.size := ⟨_, rfl⟩
            have S243a := Lib.hid (S2.out.alloc #[.string ⟨#[]⟩, .string ⟨#[]⟩, .bool false] 44)
            rw [← hgz] at S243a ⊢
            clear hgz
            have S243 := Lib.hid (S243a.out.re (show _ = Asn.blk ge 44 #[.string ⟨#[]⟩, .string ⟨#[]⟩, .bool false] * (Asn.vec 44 3 (.slice A7 2 c7) 2 (cells3 (gL 2)) * (aSf gs (gS 2) V' * Asn.emp)) by ac_rfl))
            clear S243a
            generalize World.alloc w3 _ = w243 at *
            refine hK.out _ _ ?_ (fun hHeld => ?_)
            · exact KC.out _ _ S243.out
            clear hK K0
            (try simp only [Act.put, List.setIfInBounds_toArray, List.set_cons_zero, List.set_cons_succ])
            refine wpAnyH_ready (rs := [7, 8]) (by kernel_rfl) (by simp) ?_
            refine' AllReadyH.cons (o := ?or7x144) ?hr7x144 ?kr7x144 ?mr7x144
            case hr7x144 => (simp only [List.getElem?_toArray, List.getElem?_cons_succ, List.getElem?_cons_zero]; rfl)
            case kr7x144 =>
              intro K0 hK
              go_simp
              go_at_call 33
              refine (key11_any 6 _ (by decide) (by decide)).mono ?_
              rintro eK w245 ⟨rfl, hX⟩
              have S245 := Lib.hid (S243.out.below hX)
              clear hX
              refine hK.out _ _ ?_ (fun hHeld => ?_)
              · exact KC.out _ _ S245.out
              clear hK K0
              (try simp only [Act.put, List.setIfInBounds_toArray, List.set_cons_zero, List.set_cons_succ])
              refine wpAnyH_ready (rs := [8]) (by kernel_rfl) (by simp) ?_
              refine' AllReadyH.cons (o := ?or8x146) ?hr8x146 ?kr8x146 AllReadyH.nil
              case hr8x146 => (simp only [List.getElem?_toArray, List.getElem?_cons_succ, List.getElem?_cons_zero]; rfl)
              case kr8x146 =>
                intro K0 hK
                go_simp
                have S247 := Lib.hid ((S245.out.alloc (madeCells #[.int .u8 0] 40) 5))
                obtain ⟨gm, hgz⟩ : ∃ g, g = w245.heap.size := ⟨_, rfl⟩
                rw [← hgz] at S247 ⊢
                clear hgz
                generalize World.alloc w245 _ = w247 at *
                have CV := Lib.hid (fun W D (h : Own w No W (Asn.blk gm 5 (madeCells #[.int .u8 0] 40) * D)) => mk_conv h)
                refine hK.out _ _ ?_ (fun hHeld => ?_)
                · exact KC.out _ _ S247.out
                clear hK K0
                (try simp only [Act.put, List.setIfInBounds_toArray, List.set_cons_zero, List.set_cons_succ])
                refine wpAnyH_weak (S := fun W => (W.cell? ⟨gk, 2, none⟩ = some (.int .i64 6)) ∧ ((convert 63 9 (.slice (some ⟨gm, 0, none⟩) 40 40)).run Try.prog W = .ok (.string (ofL (List.replicate 40 0))) W)) (fun _ h => h.1) _ _ _ _ ?_
                have hHeld2 := And.intro (KC.out _ _ S247.out) (CV.out _ _ S247.out)
                refine' wpAnyH_take (i := 9) (oi := ?ot148z9) (v := ?vt148z9) ?ht148z9 ?st148z9 ?ft148z9 ?zt148z9 ?qt148z9 ?yt148z9 ?at148z9 ?rt148z9
                case ht148z9 => (simp only [List.getElem?_toArray, List.getElem?_cons_succ, List.getElem?_cons_zero]; rfl)
                case st148z9 => kernel_rfl
                case ft148z9 => kernel_rfl
                case zt148z9 => kernel_rfl
                case qt148z9 => exact fun _ _ _ h => h
                case yt148z9 => (refine Or.inl ⟨rfl, ?_⟩; intro w hSw; obtain ⟨hS1, hS2⟩ := hSw; go_simp; try with_reducible rfl)
                case at148z9 => assumption
                case rt148z9 =>
                simp only [Act.put, List.setIfInBounds_toArray, List.set_cons_zero, List.set_cons_succ]
                refine' wpAnyH_take (i := 16) (oi := ?ot149z16) (v := ?vt149z16) ?ht149z16 ?st149z16 ?ft149z16 ?zt149z16 ?qt149z16 ?yt149z16 ?at149z16 ?rt149z16
                case ht149z16 => (simp only [List.getElem?_toArray, List.getElem?_cons_succ, List.getElem?_cons_zero]; rfl)
                case st149z16 => kernel_rfl
                case ft149z16 => kernel_rfl
                case zt149z16 => kernel_rfl
                case qt149z16 => exact fun _ _ _ h => h
                case yt149z16 => (refine Or.inl ⟨rfl, ?_⟩; intro w hSw; (try dsimp only at hSw); go_simp; try with_reducible rfl)
                case at149z16 => assumption
                case rt149z16 =>
                simp only [Act.put, List.setIfInBounds_toArray, List.set_cons_zero, List.set_cons_succ]
                refine wpAnyH_ready (rs := [18]) (by kernel_rfl) (by simp) ?_
                refine' AllReadyH.cons (o := ?or18x150) ?hr18x150 ?kr18x150 AllReadyH.nil
                case hr18x150 => (simp only [List.getElem?_toArray, List.getElem?_cons_succ, List.getElem?_cons_zero]; rfl)
                case kr18x150 =>
                  intro K0 hK
                  have S251a := Lib.hid (S247.out.re (show _ = Asn.blk ge 44 #[.string ⟨#[]⟩, .string ⟨#[]⟩, .bool false] * (Asn.blk gm 5 (madeCells #[.int .u8 0] 40) * (Asn.vec 44 3 (.slice A7 2 c7) 2 (cells3 (gL 2)) * (aSf gs (gS 2) V' * Asn.emp))) by ac_rfl))
                  have HST := Lib.hid (store3 (S251a.out.has (Has.l (has_blk ge _ _))) (ofL (keyZ 6)) (ofL (List.replicate 40 0)) false)
                  have S251 := Lib.hid ((own_3 S251a.out (.string (ofL (keyZ 6))) (.string (ofL (List.replicate 40 0))) (.bool false)).re (show _ = Asn.blk gm 5 (madeCells #[.int .u8 0] 40) * (Asn.blk ge 44 #[.string (ofL (keyZ 6)), .string (ofL (List.replicate 40 0)), .bool false] * (Asn.vec 44 3 (.slice A7 2 c7) 2 (cells3 (gL 2)) * (aSf gs (gS 2) V' * Asn.emp))) by ac_rfl))
                  clear S251a
                  refine step_store_w rfl rfl (.tmp 10) (.tmp 53) 44 rfl (.pointer (some ⟨ge, 0, none⟩)) (.agg #[.string (ofL (keyZ 6)), .string (ofL (List.replicate 40 0)), .bool false]) rfl rfl _ HST.out ?_
                  clear HST
                  refine hK.out _ _ ?_ (fun hHeld => ?_)
                  · exact ⟨KC.out _ _ S251.out, CV.out _ _ S251.out⟩
                  clear hK K0
                  (try simp only [Act.put, List.setIfInBounds_toArray, List.set_cons_zero, List.set_cons_succ])
                  generalize World.setCell (World.setCell (World.setCell w247 _ _) _ _) _ _ = w251 at *
                  refine wpAnyH_done (by kernel_rfl) ?_ _
                  go_wp2_with fail
                  go_meet
                  case rel => exact ⟨ge, rfl, Lib.hid S251.out.right⟩
            case mr7x144 =>
            refine' AllReadyH.cons (o := ?or8x152) ?hr8x152 ?kr8x152 AllReadyH.nil
            case hr8x152 => (simp only [List.getElem?_toArray, List.getElem?_cons_succ, List.getElem?_cons_zero]; rfl)
            case kr8x152 =>
              intro K0 hK
              go_simp
              have S253 := Lib.hid ((S243.out.alloc (madeCells #[.int .u8 0] 40) 5))
              obtain ⟨gm, hgz⟩ : ∃ g, g = w243.heap.size := ⟨_, rfl⟩
              rw [← hgz] at S253 ⊢
              clear hgz
              generalize World.alloc w243 _ = w253 at *
              have CV := Lib.hid (fun W D (h : Own w No W (Asn.blk gm 5 (madeCells #[.int .u8 0] 40) * D)) => mk_conv h)
              refine hK.out _ _ ?_ (fun hHeld => ?_)
              · exact KC.out _ _ S253.out
              clear hK K0
              (try simp only [Act.put, List.setIfInBounds_toArray, List.set_cons_zero, List.set_cons_succ])
              refine wpAnyH_weak (S := fun W => (W.cell? ⟨gk, 2, none⟩ = some (.int .i64 6)) ∧ ((convert 63 9 (.slice (some ⟨gm, 0, none⟩) 40 40)).run Try.prog W = .ok (.string (ofL (List.replicate 40 0))) W)) (fun _ h => h.1) _ _ _ _ ?_
              have hHeld2 := And.intro (KC.out _ _ S253.out) (CV.out _ _ S253.out)
              refine' wpAnyH_take (i := 9) (oi := ?ot154z9) (v := ?vt154z9) ?ht154z9 ?st154z9 ?ft154z9 ?zt154z9 ?qt154z9 ?yt154z9 ?at154z9 ?rt154z9
              case ht154z9 => (simp only [List.getElem?_toArray, List.getElem?_cons_succ, List.getElem?_cons_zero]; rfl)
              case st154z9 => kernel_rfl
              case ft154z9 => kernel_rfl
              case zt154z9 => kernel_rfl
              case qt154z9 => exact fun _ _ _ h => h
              case yt154z9 => (refine Or.inl ⟨rfl, ?_⟩; intro w hSw; obtain ⟨hS1, hS2⟩ := hSw; go_simp; try with_reducible rfl)
              case at154z9 => assumption
              case rt154z9 =>
              simp only [Act.put, List.setIfInBounds_toArray, List.set_cons_zero, List.set_cons_succ]
              refine wpAnyH_ready (rs := [7]) (by kernel_rfl) (by simp) ?_
              refine' AllReadyH.cons (o := ?or7x155) ?hr7x155 ?kr7x155 AllReadyH.nil
              case hr7x155 => (simp only [List.getElem?_toArray, List.getElem?_cons_succ, List.getElem?_cons_zero]; rfl)
              case kr7x155 =>
                intro K0 hK
                go_simp
                go_at_call 33
                refine (key11_any 6 _ (by decide) (by decide)).mono ?_
                rintro eK w256 ⟨rfl, hX⟩
                have S256 := Lib.hid (S253.out.below hX)
                clear hX
                refine hK.out _ _ ?_ (fun hHeld => ?_)
                · exact ⟨KC.out _ _ S256.out, CV.out _ _ S256.out⟩
                clear hK K0
                (try simp only [Act.put, List.setIfInBounds_toArray, List.set_cons_zero, List.set_cons_succ])
                refine' wpAnyH_take (i := 16) (oi := ?ot157z16) (v := ?vt157z16) ?ht157z16 ?st157z16 ?ft157z16 ?zt157z16 ?qt157z16 ?yt157z16 ?at157z16 ?rt157z16
                case ht157z16 => (simp only [List.getElem?_toArray, List.getElem?_cons_succ, List.getElem?_cons_zero]; rfl)
                case st157z16 => kernel_rfl
                case ft157z16 => kernel_rfl
                case zt157z16 => kernel_rfl
                case qt157z16 => exact fun _ _ _ h => h
                case yt157z16 => (refine Or.inl ⟨rfl, ?_⟩; intro w hSw; (try dsimp only at hSw); go_simp; try with_reducible rfl)
                case at157z16 => assumption
                case rt157z16 =>
                simp only [Act.put, List.setIfInBounds_toArray, List.set_cons_zero, List.set_cons_succ]
                refine wpAnyH_ready (rs := [18]) (by kernel_rfl) (by simp) ?_
                refine' AllReadyH.cons (o := ?or18x158) ?hr18x158 ?kr18x158 AllReadyH.nil
                case hr18x158 => (simp only [List.getElem?_toArray, List.getElem?_cons_succ, List.getElem?_cons_zero]; rfl)
                case kr18x158 =>
                  intro K0 hK
                  have S259a := Lib.hid (S256.out.re (show _ = Asn.blk ge 44 #[.string ⟨#[]⟩, .string ⟨#[]⟩, .bool false] * (Asn.blk gm 5 (madeCells #[.int .u8 0] 40) * (Asn.vec 44 3 (.slice A7 2 c7) 2 (cells3 (gL 2)) * (aSf gs (gS 2) V' * Asn.emp))) by ac_rfl))
                  have HST := Lib.hid (store3 (S259a.out.has (Has.l (has_blk ge _ _))) (ofL (keyZ 6)) (ofL (List.replicate 40 0)) false)
                  have S259 := Lib.hid ((own_3 S259a.out (.string (ofL (keyZ 6))) (.string (ofL (List.replicate 40 0))) (.bool false)).re (show _ = Asn.blk gm 5 (madeCells #[.int .u8 0] 40) * (Asn.blk ge 44 #[.string (ofL (keyZ 6)), .string (ofL (List.replicate 40 0)), .bool false] * (Asn.vec 44 3 (.slice A7 2 c7) 2 (cells3 (gL 2)) * (aSf gs (gS 2) V' * Asn.emp))) by ac_rfl))
                  clear S259a
                  refine step_store_w rfl rfl (.tmp 10) (.tmp 53) 44 rfl (.pointer (some ⟨ge, 0, none⟩)) (.agg #[.string (ofL (keyZ 6)), .string (ofL (List.replicate 40 0)), .bool false]) rfl rfl _ HST.out ?_
                  clear HST
                  refine hK.out _ _ ?_ (fun hHeld => ?_)
                  · exact ⟨KC.out _ _ S259.out, CV.out _ _ S259.out⟩
                  clear hK K0
                  (try simp only [Act.put, List.setIfInBounds_toArray, List.set_cons_zero, List.set_cons_succ])
                  generalize World.setCell (World.setCell (World.setCell w256 _ _) _ _) _ _ = w259 at *
                  refine wpAnyH_done (by kernel_rfl) ?_ _
                  go_wp2_with fail
                  go_meet
                  case rel => exact ⟨ge, rfl, Lib.hid S259.out.right⟩
        case rest =>
        obtain ⟨ge, rfl, S3⟩ := hcut
        clear S2
        have hlen : (gL 2).length = 2 := (g_list ⟨2, by decide⟩).1
        have HLK := Lib.hid (g_list ⟨2, by decide⟩).2
        have hgo := g_ok ⟨2, by decide⟩
        obtain ⟨hsm, hlv⟩ := g_sm 2 (by decide)
        have HPt := Lib.hid (fun W C h => Put_any gs (gS 2) V' hsm hlv 3 (ek 2) w W C h)
        rw [show entCells (ek 2) = #[.string (ofL (keyZ 6)), .string (ofL (List.replicate 40 0)), .bool false] from rfl, show (putR (gS 2) 3 (ek 2)).1 = 0 from hgo.1] at HPt
        unfold pgs at HPt
        have HGO := Lib.hid hgo
        clear hgo hsm hlv
        obtain ⟨⟨e0, e1, e2⟩, -⟩ := three_of (S3.out.has (Has.l (has_blk ge _ _)))
        go_wp2_with fail
        refine wp_loop_rounds 1 ?_
        rw [rounds_succ]
        go_wp2_with fail
        refine (HPt.out _ _ (S3.out.re (show _ = aSf gs (gS 2) V' * (Asn.blk ge 44 #[.string (ofL (keyZ 6)), .string (ofL (List.replicate 40 0)), .bool false] * (Asn.vec 44 3 (.slice A7 2 c7) 2 (cells3 (gL 2)) * Asn.emp)) by ac_rfl))).mono ?_
        rintro e w4 ⟨v12, L, rfl, hpl, hX⟩
        have hL1 : L.length = 1 := by rw [len_one hpl]; exact HGO.out.2.1
        obtain ⟨A12, c12, rfl⟩ := hX.vec.slice
        rw [hL1] at hX ⊢
        have HPu := Lib.hid (ShPut_own gs _ _ L 1 hL1 (.slice A12 1 c12) w w4 _ (by decide) (by rw [hpl]; exact fun x hx => (HGO.out.2.2 x hx).1) hX)
        rw [hpl] at HPu
        clear hX S3 HPt hL1 e0 e1 e2
        unfold sPtr at HPu
        go_wp2_with fail
        refine HPu.out.mono ?_
        rintro e w5 ⟨rfl, V2, hX⟩
        have S4 := Lib.hid (show Own w No w5 (aSf gs (gS (2 + 1)) V2 * (Asn.blk ge 44 #[.string (ofL (keyZ 6)), .string (ofL (List.replicate 40 0)), .bool false] * (Asn.vec 44 3 (.slice A7 2 c7) 2 (cells3 (gL 2)) * Asn.emp))) from hX)
        clear hX HPu hpl
        obtain ⟨⟨e0, e1, e2⟩, -⟩ := three_of (S4.out.has (Has.r (Has.l (has_blk ge _ _))))
        have HRo : Hid (Row3 w5 (.slice A7 2 c7) (gL 2)) := Lib.hid (by
          have h1 := S4.out.right.right
          rw [show Asn.vec 44 3 (.slice A7 2 c7) 2 (cells3 (gL 2)) = Asn.vec 44 3 (.slice A7 (gL 2).length c7) (gL 2).length (cells3 (gL 2)) by rw [hlen]] at h1
          have h2 := Row3.of_vec h1.vec
          rw [hlen] at h2
          exact h2)
        have HRp := Lib.hid (refPut_any (gL 2) (ek 2) (.slice A7 2 c7) w5 (by omega) HRo.out HLK.out (ek_len 2))
        rw [show entCells (ek 2) = #[.string (ofL (keyZ 6)), .string (ofL (List.replicate 40 0)), .bool false] from rfl] at HRp
        clear HRo HLK
        go_wp2_with fail
        refine HRp.out.mono ?_
        rintro e w6 ⟨v7, rfl, hX⟩
        have hlen2 : (putE (gL 2) (ek 2)).length = 2 + 1 := (g_list ⟨2 + 1, by decide⟩).1
        have hT := own_join S4.out hX
        rw [hlen2] at hT
        obtain ⟨A8, c8, rfl⟩ := hT.vec.slice
        have S5 := Lib.hid ((show Own w No w6 (Asn.vec 44 3 (.slice A8 (2 + 1) c8) (2 + 1) (cells3 (gL (2 + 1))) * (aSf gs (gS (2 + 1)) V2 * (Asn.blk ge 44 #[.string (ofL (keyZ 6)), .string (ofL (List.replicate 40 0)), .bool false] * (Asn.vec 44 3 (.slice A7 2 c7) 2 (cells3 (gL 2)) * Asn.emp)))) from hT).re (show _ = (Asn.blk ge 44 #[.string (ofL (keyZ 6)), .string (ofL (List.replicate 40 0)), .bool false] * Asn.vec 44 3 (.slice A7 2 c7) 2 (cells3 (gL 2))) * (Asn.vec 44 3 (.slice A8 (2 + 1) c8) (2 + 1) (cells3 (gL (2 + 1))) * (aSf gs (gS (2 + 1)) V2 * Asn.emp)) by ac_rfl)).right
        clear hT hX S4 HRp e0 e1 e2 hlen hlen2 HGO
        go_wp2_with fail
        go_round
        case rel => exact ⟨2 + 1, A8, c8, by omega, by go_num, by go_num, V2, S5⟩
        case measure => simp only [intOf]; omega
    · obtain rfl : k = 3 := by omega
      rw [show ((3 : Nat) : Int) = 3 from rfl]
      go_wp2_with fail
      go_loopw [7, 19] (fun s7 i wq => ∃ j : Nat, j ≤ 3 ∧ i = .int .i64 j ∧ s7 = .slice A7 3 c7 ∧ Hid (Own w No wq (Asn.vec 44 3 (.slice A7 3 c7) 3 (cells3 (gL 3)) * (aSf gs (gS 3) V' * Asn.emp)))) (fun _ i _ => 3 - (intOf i).toNat)
      case atStart => exact ⟨0, by omega, rfl, rfl, S1⟩
      case round =>
        clear S1
        obtain ⟨j, hj, rfl, rfl, S1⟩ := hrel
        by_cases hjl : j < 3
        · rcases (by omega : j = 0 ∨ j = 1 ∨ j = 2) with rfl | rfl | rfl
          · have c0 := HQ0.out _ _ S1.out
            go_wp2_with fail
            refine (key11_any 2 _ (by decide) (by decide)).mono ?_
            rintro e w7 ⟨rfl, hX⟩
            have S2 := Lib.hid (S1.out.below hX)
            clear hX c0 S1
            have c0 := HQ0.out _ _ S2.out
            go_wp2_with fail
            go_round
            case rel => exact ⟨1, by omega, by go_num, rfl, S2⟩
            case measure => simp only [intOf]; omega
          · have c0 := HQ1.out _ _ S1.out
            go_wp2_with fail
            refine (key11_any 4 _ (by decide) (by decide)).mono ?_
            rintro e w7 ⟨rfl, hX⟩
            have S2 := Lib.hid (S1.out.below hX)
            clear hX c0 S1
            have c0 := HQ1.out _ _ S2.out
            go_wp2_with fail
            go_round
            case rel => exact ⟨2, by omega, by go_num, rfl, S2⟩
            case measure => simp only [intOf]; omega
          · have c0 := HQ2.out _ _ S1.out
            go_wp2_with fail
            refine (key11_any 6 _ (by decide) (by decide)).mono ?_
            rintro e w7 ⟨rfl, hX⟩
            have S2 := Lib.hid (S1.out.below hX)
            clear hX c0 S1
            have c0 := HQ2.out _ _ S2.out
            go_wp2_with fail
            go_round
            case rel => exact ⟨3, by omega, by go_num, rfl, S2⟩
            case measure => simp only [intOf]; omega
        · obtain rfl : j = 3 := by omega
          go_wp2_with fail
          go_returns
          exact ⟨gs, V', A7, c7, rfl, S1.out⟩
end Go.Proofs.Ytfahgejiclgbfaa.Wk
