/- grown, in full. -/
import Derived.Test.YtfahgejiclgbfaaWkG
import Derived.Test.YtfahgejiclgbfaaWkX
import Derived.Test.YtfahgejiclgbfaaBkDr
import Derived.Test.YtfahgejiclgbfaaBkPu
import Derived.Deep.DeepCutAuto
namespace Go.Proofs.Ytfahgejiclgbfaa.Wk
open Go.ChangeShapes Go.WideShapes Go.ChangeAt Go.RowKit Go.PlainAid Aid Nt Nd Tr Bk
open Ky (keyZ)
set_option linter.unusedVariables false
set_option linter.unusedSimpArgs false
set_option linter.unusedSectionVars false
def GS (S : Sf) (l : List Ent) (next top : Nat) (ch : Nat → List Nat) (k : Nat) : Prop := Gn S l next top ch ∧ Sm S ∧ LvOk S ∧ l.length ≤ k ∧ ∀ e, e ∈ l → lt low e.key = true
def DS (S : Sf) (l : List Ent) (top : Nat) (ch : Nat → List Nat) : Prop := Dn S l top ch ∧ Sm S ∧ LvOk S ∧ l.length ≤ 60 ∧ ∀ e, e ∈ l → lt low e.key = true
theorem post_cells {w : World} {g : Nat} {T : TypeId} {a0 a1 a2 a3 : Value} (h : Blk w g T #[a0, a1, a2, a3]) : w.cell? ⟨g, 0, none⟩ = some a0 ∧ w.cell? ⟨g, 1, none⟩ = some a1 ∧ w.cell? ⟨g, 2, none⟩ = some a2 ∧ w.cell? ⟨g, 3, none⟩ = some a3 := ⟨h.cell 0, h.cell 1, h.cell 2, h.cell 3⟩
set_option maxRecDepth 100000 in
set_option maxHeartbeats 64000000 in
theorem grown_any (A : Option Addr) (m c : Nat) (z : Nat → Int) (dr : Int) (w : World) (hm : m ≤ maxLen) (hR : IntRow w A m z) :
    Calls Try.prog 32 #[.slice A m c, .int .i64 dr] w fun r w' => ∃ gs V S l top ch A' c', r = .returned (.tuple #[sPtr gs, .slice A' l.length c']) ∧ Dn S l top ch ∧ Sm S ∧ LvOk S ∧ l.length ≤ 60 ∧ (∀ e, e ∈ l → lt low e.key = true) ∧
      Own w No w' (Asn.vec 44 3 (.slice A' l.length c') l.length (cells3 l) * (aSf gs S V * Asn.emp)) := by
  have HR := Lib.hid hR
  unfold maxLen at hm
  clear hR
  have hmk : ∀ W : World, (Instr.makeSlice 63 (.int .i64 40) (.int .i64 40)).run Try.prog W = .ok (.slice (some ⟨W.heap.size, 0, none⟩) 40 40) (W.alloc (.cells (madeCells #[.int .u8 0] 40) 5)) := fun W => make_rows (P := Try.prog) 63 5 (.int .u8 0) 1 1 Try.underlying63 (by kernel_rfl) .i64 .i64 40 (by decide) (by decide) W
  go_enter Try.func32, Try.ntmps32
  go_wp2_with fail
  refine (New_any w).mono ?_
  rintro e w1 ⟨gs, V0, rfl, hX⟩
  have S1 := Lib.hid (hX.addEmp.alloc #[] 44)
  clear hX
  unfold sPtr
  go_upto_region 5 with fail
  obtain ⟨g7, hgz⟩ : ∃ g, g = w1.heap.size := ⟨_, rfl⟩
  rw [← hgz] at S1 ⊢
  clear hgz
  generalize World.alloc w1 _ = w2 at *
  have S2 := Lib.hid (show Own w No w2 (Asn.vec 44 3 (.slice (some ⟨g7, 0, none⟩) 0 0) 0 (cells3 []) * (aSf gs T0 V0 * Asn.emp)) from S1.out.imp (Imp.l (blk_vec (cs := []) 0 3 rfl (by decide))))
  have HG0 : Hid (GS T0 [] 4 0 (fun _ => [3]) 0) := Lib.hid ⟨gn_start, m0.1, m0.2, Nat.le_refl _, fun e he => by cases he⟩
  clear S1
  go_wp2_with fail
  go_loopw [7, 8, 9] (fun s7 s8 i wr => ∃ (k : Nat) (S : Sf) (l : List Ent) (next top : Nat) (ch : Nat → List Nat) (A7 : Option Addr) (c7 : Nat) (V : Nat → Value), k ≤ m ∧ k ≤ 60 ∧ i = .int .i64 k ∧ s8 = .int .i64 next ∧ s7 = .slice A7 l.length c7 ∧ Hid (GS S l next top ch k) ∧ Hid (Own w No wr (Asn.vec 44 3 (.slice A7 l.length c7) l.length (cells3 l) * (aSf gs S V * Asn.emp)))) (fun _ _ i _ => 60 - (intOf i).toNat)
  case atStart => exact ⟨0, T0, [], 4, 0, _, _, _, V0, by omega, by omega, rfl, rfl, rfl, HG0, S2⟩
  case round =>
    clear S2 HG0
    obtain ⟨k, S, l, next, top, ch, A7, c7, V, hkm, hk60, rfl, rfl, rfl, HG, S1⟩ := hrel
    by_cases hlt : k < m ∧ k < 60
    case pos =>
      obtain ⟨hlt, hlt2⟩ := hlt
      obtain ⟨bk, ok, rfl, hKC, hz64⟩ := HR.out.at k hlt
      have KC := Lib.hid hKC
      clear hKC
      generalize z k = v at *
      obtain ⟨hv1, hv2⟩ := hz64
      have c0 := KC.out _ _ S1.out
      go_upto_region 9 with fail
      have S2 := Lib.hid S1.out.drew
      clear S1 c0
      obtain ⟨BS, hBS⟩ : ∃ B : Asn, B = Asn.vec 44 3 (.slice A7 l.length c7) l.length (cells3 l) * (aSf gs S V * Asn.emp) := ⟨_, rfl⟩
      rw [← hBS] at S2
      have HKm : Hid (∀ W, Calls Try.prog 33 #[.int .i64 (IntKind.i64.wrap ((IntKind.u64.wrap v).tmod 100))] W fun e w' => e = .returned (.string (ofL (keyZ (km v)))) ∧ Below W.heap.size W w') := Lib.hid (fun W => by rw [i64_is]; exact key11_any (km v) W (by have := km_bd v; omega) (by have := km_bd v; omega))
      go_cut [10] (fun s10 wx => ∃ (ge : Nat) (gh : Bool), s10 = .pointer (some ⟨ge, 0, none⟩) ∧ Hid (Own w No wx (Asn.blk ge 44 #[.string (ofL (keyZ (km v))), .string (ofL (List.replicate 40 0)), .bool gh] * BS)))
      case first =>
        as_aux_lemma =>
          refine wp_region_held_drew (S := fun W : World => W.cell? ⟨bk, ok + k, none⟩ = some (.int .i64 v)) (by kernel_rfl) (KC.out _ _ S2.out) (fun hHeld => ?_)
          generalize wr.drew = w3 at *
          refine' wpAnyH_take (i := 0) (oi := ?op0) (v := ?vp0) ?hp0 ?sp0 ?fp0 ?zp0 ?qp0 ?yp0 ?ap0 ?rp0
          case hp0 => (simp only [List.getElem?_toArray, List.getElem?_cons_succ, List.getElem?_cons_zero]; rfl)
          case sp0 => kernel_rfl
          case fp0 => kernel_rfl
          case zp0 => kernel_rfl
          case qp0 => exact fun _ _ _ h => h
          case yp0 => (refine Or.inl ⟨rfl, ?_⟩; intro w hSw; (try dsimp only at hSw); go_simp; try with_reducible rfl)
          case ap0 => assumption
          case rp0 =>
          simp only [Act.put, List.setIfInBounds_toArray, List.set_cons_zero, List.set_cons_succ]
          refine' wpAnyH_take (i := 1) (oi := ?op1) (v := ?vp1) ?hp1 ?sp1 ?fp1 ?zp1 ?qp1 ?yp1 ?ap1 ?rp1
          case hp1 => (simp only [List.getElem?_toArray, List.getElem?_cons_succ, List.getElem?_cons_zero]; rfl)
          case sp1 => kernel_rfl
          case fp1 => kernel_rfl
          case zp1 => kernel_rfl
          case qp1 => exact fun _ _ _ h => h
          case yp1 => (refine Or.inl ⟨rfl, ?_⟩; intro w hSw; (try dsimp only at hSw); go_simp; try with_reducible rfl)
          case ap1 => assumption
          case rp1 =>
          simp only [Act.put, List.setIfInBounds_toArray, List.set_cons_zero, List.set_cons_succ]
          refine' wpAnyH_take (i := 2) (oi := ?op2) (v := ?vp2) ?hp2 ?sp2 ?fp2 ?zp2 ?qp2 ?yp2 ?ap2 ?rp2
          case hp2 => (simp only [List.getElem?_toArray, List.getElem?_cons_succ, List.getElem?_cons_zero]; rfl)
          case sp2 => kernel_rfl
          case fp2 => kernel_rfl
          case zp2 => kernel_rfl
          case qp2 => exact fun _ _ _ h => h
          case yp2 => (refine Or.inl ⟨rfl, ?_⟩; intro w hSw; (try dsimp only at hSw); go_simp; try with_reducible rfl)
          case ap2 => assumption
          case rp2 =>
          simp only [Act.put, List.setIfInBounds_toArray, List.set_cons_zero, List.set_cons_succ]
          refine' wpAnyH_take (i := 3) (oi := ?op3) (v := ?vp3) ?hp3 ?sp3 ?fp3 ?zp3 ?qp3 ?yp3 ?ap3 ?rp3
          case hp3 => (simp only [List.getElem?_toArray, List.getElem?_cons_succ, List.getElem?_cons_zero]; rfl)
          case sp3 => kernel_rfl
          case fp3 => kernel_rfl
          case zp3 => kernel_rfl
          case qp3 => exact fun _ _ _ h => h
          case yp3 => (refine Or.inl ⟨rfl, ?_⟩; intro w hSw; (try dsimp only at hSw); go_simp; try with_reducible rfl)
          case ap3 => assumption
          case rp3 =>
          simp only [Act.put, List.setIfInBounds_toArray, List.set_cons_zero, List.set_cons_succ]
          refine' wpAnyH_take (i := 4) (oi := ?op4) (v := ?vp4) ?hp4 ?sp4 ?fp4 ?zp4 ?qp4 ?yp4 ?ap4 ?rp4
          case hp4 => (simp only [List.getElem?_toArray, List.getElem?_cons_succ, List.getElem?_cons_zero]; rfl)
          case sp4 => kernel_rfl
          case fp4 => kernel_rfl
          case zp4 => kernel_rfl
          case qp4 => exact fun _ _ _ h => h
          case yp4 => (refine Or.inl ⟨rfl, ?_⟩; intro w hSw; (try dsimp only at hSw); go_simp; try with_reducible rfl)
          case ap4 => assumption
          case rp4 =>
          simp only [Act.put, List.setIfInBounds_toArray, List.set_cons_zero, List.set_cons_succ]
          refine' wpAnyH_take (i := 5) (oi := ?op5) (v := ?vp5) ?hp5 ?sp5 ?fp5 ?zp5 ?qp5 ?yp5 ?ap5 ?rp5
          case hp5 => (simp only [List.getElem?_toArray, List.getElem?_cons_succ, List.getElem?_cons_zero]; rfl)
          case sp5 => kernel_rfl
          case fp5 => kernel_rfl
          case zp5 => kernel_rfl
          case qp5 => exact fun _ _ _ h => h
          case yp5 => (refine Or.inl ⟨rfl, ?_⟩; intro w hSw; (try dsimp only at hSw); go_simp; try with_reducible rfl)
          case ap5 => assumption
          case rp5 =>
          simp only [Act.put, List.setIfInBounds_toArray, List.set_cons_zero, List.set_cons_succ]
          refine' wpAnyH_take (i := 6) (oi := ?op6) (v := ?vp6) ?hp6 ?sp6 ?fp6 ?zp6 ?qp6 ?yp6 ?ap6 ?rp6
          case hp6 => (simp only [List.getElem?_toArray, List.getElem?_cons_succ, List.getElem?_cons_zero]; rfl)
          case sp6 => kernel_rfl
          case fp6 => kernel_rfl
          case zp6 => kernel_rfl
          case qp6 => exact fun _ _ _ h => h
          case yp6 => (refine Or.inl ⟨rfl, ?_⟩; intro w hSw; (try dsimp only at hSw); go_simp; try with_reducible rfl)
          case ap6 => assumption
          case rp6 =>
          simp only [Act.put, List.setIfInBounds_toArray, List.set_cons_zero, List.set_cons_succ]
          refine' wpAnyH_take (i := 10) (oi := ?op10) (v := ?vp10) ?hp10 ?sp10 ?fp10 ?zp10 ?qp10 ?yp10 ?ap10 ?rp10
          case hp10 => (simp only [List.getElem?_toArray, List.getElem?_cons_succ, List.getElem?_cons_zero]; rfl)
          case sp10 => kernel_rfl
          case fp10 => kernel_rfl
          case zp10 => kernel_rfl
          case qp10 => exact fun _ _ _ h => h
          case yp10 => (refine Or.inl ⟨rfl, ?_⟩; intro w hSw; (try dsimp only at hSw); go_simp; try with_reducible rfl)
          case ap10 => assumption
          case rp10 =>
          simp only [Act.put, List.setIfInBounds_toArray, List.set_cons_zero, List.set_cons_succ]
          refine' wpAnyH_take (i := 11) (oi := ?op11) (v := ?vp11) ?hp11 ?sp11 ?fp11 ?zp11 ?qp11 ?yp11 ?ap11 ?rp11
          case hp11 => (simp only [List.getElem?_toArray, List.getElem?_cons_succ, List.getElem?_cons_zero]; rfl)
          case sp11 => kernel_rfl
          case fp11 => kernel_rfl
          case zp11 => kernel_rfl
          case qp11 => exact fun _ _ _ h => h
          case yp11 => (refine Or.inl ⟨rfl, ?_⟩; intro w hSw; (try dsimp only at hSw); go_simp; try with_reducible rfl)
          case ap11 => assumption
          case rp11 =>
          simp only [Act.put, List.setIfInBounds_toArray, List.set_cons_zero, List.set_cons_succ]
          refine' wpAnyH_take (i := 12) (oi := ?op12) (v := ?vp12) ?hp12 ?sp12 ?fp12 ?zp12 ?qp12 ?yp12 ?ap12 ?rp12
          case hp12 => (simp only [List.getElem?_toArray, List.getElem?_cons_succ, List.getElem?_cons_zero]; rfl)
          case sp12 => kernel_rfl
          case fp12 => kernel_rfl
          case zp12 => kernel_rfl
          case qp12 => exact fun _ _ _ h => h
          case yp12 => (refine Or.inl ⟨rfl, ?_⟩; intro w hSw; (try dsimp only at hSw); go_simp; try with_reducible rfl)
          case ap12 => assumption
          case rp12 =>
          simp only [Act.put, List.setIfInBounds_toArray, List.set_cons_zero, List.set_cons_succ]
          refine' wpAnyH_take (i := 13) (oi := ?op13) (v := ?vp13) ?hp13 ?sp13 ?fp13 ?zp13 ?qp13 ?yp13 ?ap13 ?rp13
          case hp13 => (simp only [List.getElem?_toArray, List.getElem?_cons_succ, List.getElem?_cons_zero]; rfl)
          case sp13 => kernel_rfl
          case fp13 => kernel_rfl
          case zp13 => kernel_rfl
          case qp13 => exact fun _ _ _ h => h
          case yp13 => (refine Or.inl ⟨rfl, ?_⟩; intro w hSw; (try dsimp only at hSw); go_simp; try with_reducible rfl)
          case ap13 => assumption
          case rp13 =>
          simp only [Act.put, List.setIfInBounds_toArray, List.set_cons_zero, List.set_cons_succ]
          refine' wpAnyH_take (i := 14) (oi := ?op14) (v := ?vp14) ?hp14 ?sp14 ?fp14 ?zp14 ?qp14 ?yp14 ?ap14 ?rp14
          case hp14 => (simp only [List.getElem?_toArray, List.getElem?_cons_succ, List.getElem?_cons_zero]; rfl)
          case sp14 => kernel_rfl
          case fp14 => kernel_rfl
          case zp14 => kernel_rfl
          case qp14 => exact fun _ _ _ h => h
          case yp14 => (refine Or.inl ⟨rfl, ?_⟩; intro w hSw; (try dsimp only at hSw); go_simp; try with_reducible rfl)
          case ap14 => assumption
          case rp14 =>
          simp only [Act.put, List.setIfInBounds_toArray, List.set_cons_zero, List.set_cons_succ]
          refine' wpAnyH_take (i := 15) (oi := ?op15) (v := ?vp15) ?hp15 ?sp15 ?fp15 ?zp15 ?qp15 ?yp15 ?ap15 ?rp15
          case hp15 => (simp only [List.getElem?_toArray, List.getElem?_cons_succ, List.getElem?_cons_zero]; rfl)
          case sp15 => kernel_rfl
          case fp15 => kernel_rfl
          case zp15 => kernel_rfl
          case qp15 => exact fun _ _ _ h => h
          case yp15 => (refine Or.inl ⟨rfl, ?_⟩; intro w hSw; (try dsimp only at hSw); go_simp; try with_reducible rfl)
          case ap15 => assumption
          case rp15 =>
          simp only [Act.put, List.setIfInBounds_toArray, List.set_cons_zero, List.set_cons_succ]
          generalize (v.tmod 5 == 0) = gh at *
          refine wpAnyH_ready (rs := [7, 8, 17]) (by kernel_rfl) (by simp) ?_
          refine' AllReadyH.cons (o := ?or7x1) ?hr7x1 ?kr7x1 ?mr7x1
          case hr7x1 => (simp only [List.getElem?_toArray, List.getElem?_cons_succ, List.getElem?_cons_zero]; rfl)
          case kr7x1 =>
            intro K0 hK
            go_simp
            go_at_call 33
            refine (HKm.out _).mono ?_
            rintro eK w102 ⟨rfl, hX⟩
            have S102 := Lib.hid (S2.out.below hX)
            clear hX
            refine hK.out _ _ ?_ (fun hHeld => ?_)
            · exact KC.out _ _ S102.out
            clear hK K0
            (try simp only [Act.put, List.setIfInBounds_toArray, List.set_cons_zero, List.set_cons_succ])
            refine wpAnyH_ready (rs := [8, 17]) (by kernel_rfl) (by simp) ?_
            refine' AllReadyH.cons (o := ?or8x3) ?hr8x3 ?kr8x3 ?mr8x3
            case hr8x3 => (simp only [List.getElem?_toArray, List.getElem?_cons_succ, List.getElem?_cons_zero]; rfl)
            case kr8x3 =>
              intro K0 hK
              go_simp
              have S104 := Lib.hid ((S102.out.alloc (madeCells #[.int .u8 0] 40) 5))
              obtain ⟨gm, hgz⟩ : ∃ g, g = w102.heap.size := ⟨_, rfl⟩
              rw [← hgz] at S104 ⊢
              clear hgz
              generalize World.alloc w102 _ = w104 at *
              have CV := Lib.hid (fun W D (h : Own w No W (Asn.blk gm 5 (madeCells #[.int .u8 0] 40) * D)) => mk_conv h)
              refine hK.out _ _ ?_ (fun hHeld => ?_)
              · exact KC.out _ _ S104.out
              clear hK K0
              (try simp only [Act.put, List.setIfInBounds_toArray, List.set_cons_zero, List.set_cons_succ])
              refine wpAnyH_weak (S := fun W => (W.cell? ⟨bk, ok + k, none⟩ = some (.int .i64 v)) ∧ ((convert 63 9 (.slice (some ⟨gm, 0, none⟩) 40 40)).run Try.prog W = .ok (.string (ofL (List.replicate 40 0))) W)) (fun _ h => h.1) _ _ _ _ ?_
              have hHeld2 := And.intro (KC.out _ _ S104.out) (CV.out _ _ S104.out)
              refine' wpAnyH_take (i := 9) (oi := ?ot5z9) (v := ?vt5z9) ?ht5z9 ?st5z9 ?ft5z9 ?zt5z9 ?qt5z9 ?yt5z9 ?at5z9 ?rt5z9
              case ht5z9 => (simp only [List.getElem?_toArray, List.getElem?_cons_succ, List.getElem?_cons_zero]; rfl)
              case st5z9 => kernel_rfl
              case ft5z9 => kernel_rfl
              case zt5z9 => kernel_rfl
              case qt5z9 => exact fun _ _ _ h => h
              case yt5z9 => (refine Or.inl ⟨rfl, ?_⟩; intro w hSw; obtain ⟨hS1, hS2⟩ := hSw; go_simp; try with_reducible rfl)
              case at5z9 => assumption
              case rt5z9 =>
              simp only [Act.put, List.setIfInBounds_toArray, List.set_cons_zero, List.set_cons_succ]
              refine' wpAnyH_take (i := 16) (oi := ?ot6z16) (v := ?vt6z16) ?ht6z16 ?st6z16 ?ft6z16 ?zt6z16 ?qt6z16 ?yt6z16 ?at6z16 ?rt6z16
              case ht6z16 => (simp only [List.getElem?_toArray, List.getElem?_cons_succ, List.getElem?_cons_zero]; rfl)
              case st6z16 => kernel_rfl
              case ft6z16 => kernel_rfl
              case zt6z16 => kernel_rfl
              case qt6z16 => exact fun _ _ _ h => h
              case yt6z16 => (refine Or.inl ⟨rfl, ?_⟩; intro w hSw; (try dsimp only at hSw); go_simp; try with_reducible rfl)
              case at6z16 => assumption
              case rt6z16 =>
              simp only [Act.put, List.setIfInBounds_toArray, List.set_cons_zero, List.set_cons_succ]
              refine wpAnyH_ready (rs := [17]) (by kernel_rfl) (by simp) ?_
              refine' AllReadyH.cons (o := ?or17x7) ?hr17x7 ?kr17x7 AllReadyH.nil
              case hr17x7 => (simp only [List.getElem?_toArray, List.getElem?_cons_succ, List.getElem?_cons_zero]; rfl)
              case kr17x7 =>
                intro K0 hK
                go_simp
                obtain ⟨ge, hgz⟩ : ∃ g, g = w104.heap.size := ⟨_, rfl⟩
                have S108a := Lib.hid (S104.out.alloc #[.string ⟨#[]⟩, .string ⟨#[]⟩, .bool false] 44)
                rw [← hgz] at S108a ⊢
                clear hgz
                have S108 := Lib.hid (S108a.out.re (show _ = Asn.blk gm 5 (madeCells #[.int .u8 0] 40) * (Asn.blk ge 44 #[.string ⟨#[]⟩, .string ⟨#[]⟩, .bool false] * (BS)) by ac_rfl))
                clear S108a
                generalize World.alloc w104 _ = w108 at *
                refine hK.out _ _ ?_ (fun hHeld => ?_)
                · exact ⟨KC.out _ _ S108.out, CV.out _ _ S108.out⟩
                clear hK K0
                (try simp only [Act.put, List.setIfInBounds_toArray, List.set_cons_zero, List.set_cons_succ])
                refine wpAnyH_ready (rs := [18]) (by kernel_rfl) (by simp) ?_
                refine' AllReadyH.cons (o := ?or18x9) ?hr18x9 ?kr18x9 AllReadyH.nil
                case hr18x9 => (simp only [List.getElem?_toArray, List.getElem?_cons_succ, List.getElem?_cons_zero]; rfl)
                case kr18x9 =>
                  intro K0 hK
                  have S110a := Lib.hid (S108.out.re (show _ = Asn.blk ge 44 #[.string ⟨#[]⟩, .string ⟨#[]⟩, .bool false] * (Asn.blk gm 5 (madeCells #[.int .u8 0] 40) * (BS)) by ac_rfl))
                  have HST := Lib.hid (store3 (S110a.out.has (Has.l (has_blk ge _ _))) (ofL (keyZ (km v))) (ofL (List.replicate 40 0)) gh)
                  have S110 := Lib.hid ((own_3 S110a.out (.string (ofL (keyZ (km v)))) (.string (ofL (List.replicate 40 0))) (.bool gh)).re (show _ = Asn.blk gm 5 (madeCells #[.int .u8 0] 40) * (Asn.blk ge 44 #[.string (ofL (keyZ (km v))), .string (ofL (List.replicate 40 0)), .bool gh] * (BS)) by ac_rfl))
                  clear S110a
                  refine step_store_w rfl rfl (.tmp 10) (.tmp 53) 44 rfl (.pointer (some ⟨ge, 0, none⟩)) (.agg #[.string (ofL (keyZ (km v))), .string (ofL (List.replicate 40 0)), .bool gh]) rfl rfl _ HST.out ?_
                  clear HST
                  refine hK.out _ _ ?_ (fun hHeld => ?_)
                  · exact ⟨KC.out _ _ S110.out, CV.out _ _ S110.out⟩
                  clear hK K0
                  (try simp only [Act.put, List.setIfInBounds_toArray, List.set_cons_zero, List.set_cons_succ])
                  generalize World.setCell (World.setCell (World.setCell w108 _ _) _ _) _ _ = w110 at *
                  refine wpAnyH_done (by kernel_rfl) ?_ _
                  go_wp2_with fail
                  go_meet
                  case rel => exact ⟨ge, gh, rfl, Lib.hid S110.out.right⟩
            case mr8x3 =>
            refine' AllReadyH.cons (o := ?or17x11) ?hr17x11 ?kr17x11 AllReadyH.nil
            case hr17x11 => (simp only [List.getElem?_toArray, List.getElem?_cons_succ, List.getElem?_cons_zero]; rfl)
            case kr17x11 =>
              intro K0 hK
              go_simp
              obtain ⟨ge, hgz⟩ : ∃ g, g = w102.heap.size := ⟨_, rfl⟩
              have S112a := Lib.hid (S102.out.alloc #[.string ⟨#[]⟩, .string ⟨#[]⟩, .bool false] 44)
              rw [← hgz] at S112a ⊢
              clear hgz
              have S112 := Lib.hid (S112a.out.re (show _ = Asn.blk ge 44 #[.string ⟨#[]⟩, .string ⟨#[]⟩, .bool false] * (BS) by ac_rfl))
              clear S112a
              generalize World.alloc w102 _ = w112 at *
              refine hK.out _ _ ?_ (fun hHeld => ?_)
              · exact KC.out _ _ S112.out
              clear hK K0
              (try simp only [Act.put, List.setIfInBounds_toArray, List.set_cons_zero, List.set_cons_succ])
              refine wpAnyH_ready (rs := [8]) (by kernel_rfl) (by simp) ?_
              refine' AllReadyH.cons (o := ?or8x13) ?hr8x13 ?kr8x13 AllReadyH.nil
              case hr8x13 => (simp only [List.getElem?_toArray, List.getElem?_cons_succ, List.getElem?_cons_zero]; rfl)
              case kr8x13 =>
                intro K0 hK
                go_simp
                have S114 := Lib.hid ((S112.out.alloc (madeCells #[.int .u8 0] 40) 5))
                obtain ⟨gm, hgz⟩ : ∃ g, g = w112.heap.size := ⟨_, rfl⟩
                rw [← hgz] at S114 ⊢
                clear hgz
                generalize World.alloc w112 _ = w114 at *
                have CV := Lib.hid (fun W D (h : Own w No W (Asn.blk gm 5 (madeCells #[.int .u8 0] 40) * D)) => mk_conv h)
                refine hK.out _ _ ?_ (fun hHeld => ?_)
                · exact KC.out _ _ S114.out
                clear hK K0
                (try simp only [Act.put, List.setIfInBounds_toArray, List.set_cons_zero, List.set_cons_succ])
                refine wpAnyH_weak (S := fun W => (W.cell? ⟨bk, ok + k, none⟩ = some (.int .i64 v)) ∧ ((convert 63 9 (.slice (some ⟨gm, 0, none⟩) 40 40)).run Try.prog W = .ok (.string (ofL (List.replicate 40 0))) W)) (fun _ h => h.1) _ _ _ _ ?_
                have hHeld2 := And.intro (KC.out _ _ S114.out) (CV.out _ _ S114.out)
                refine' wpAnyH_take (i := 9) (oi := ?ot15z9) (v := ?vt15z9) ?ht15z9 ?st15z9 ?ft15z9 ?zt15z9 ?qt15z9 ?yt15z9 ?at15z9 ?rt15z9
                case ht15z9 => (simp only [List.getElem?_toArray, List.getElem?_cons_succ, List.getElem?_cons_zero]; rfl)
                case st15z9 => kernel_rfl
                case ft15z9 => kernel_rfl
                case zt15z9 => kernel_rfl
                case qt15z9 => exact fun _ _ _ h => h
                case yt15z9 => (refine Or.inl ⟨rfl, ?_⟩; intro w hSw; obtain ⟨hS1, hS2⟩ := hSw; go_simp; try with_reducible rfl)
                case at15z9 => assumption
                case rt15z9 =>
                simp only [Act.put, List.setIfInBounds_toArray, List.set_cons_zero, List.set_cons_succ]
                refine' wpAnyH_take (i := 16) (oi := ?ot16z16) (v := ?vt16z16) ?ht16z16 ?st16z16 ?ft16z16 ?zt16z16 ?qt16z16 ?yt16z16 ?at16z16 ?rt16z16
                case ht16z16 => (simp only [List.getElem?_toArray, List.getElem?_cons_succ, List.getElem?_cons_zero]; rfl)
                case st16z16 => kernel_rfl
                case ft16z16 => kernel_rfl
                case zt16z16 => kernel_rfl
                case qt16z16 => exact fun _ _ _ h => h
                case yt16z16 => (refine Or.inl ⟨rfl, ?_⟩; intro w hSw; (try dsimp only at hSw); go_simp; try with_reducible rfl)
                case at16z16 => assumption
                case rt16z16 =>
                simp only [Act.put, List.setIfInBounds_toArray, List.set_cons_zero, List.set_cons_succ]
                refine wpAnyH_ready (rs := [18]) (by kernel_rfl) (by simp) ?_
                refine' AllReadyH.cons (o := ?or18x17) ?hr18x17 ?kr18x17 AllReadyH.nil
                case hr18x17 => (simp only [List.getElem?_toArray, List.getElem?_cons_succ, List.getElem?_cons_zero]; rfl)
                case kr18x17 =>
                  intro K0 hK
                  have S118a := Lib.hid (S114.out.re (show _ = Asn.blk ge 44 #[.string ⟨#[]⟩, .string ⟨#[]⟩, .bool false] * (Asn.blk gm 5 (madeCells #[.int .u8 0] 40) * (BS)) by ac_rfl))
                  have HST := Lib.hid (store3 (S118a.out.has (Has.l (has_blk ge _ _))) (ofL (keyZ (km v))) (ofL (List.replicate 40 0)) gh)
                  have S118 := Lib.hid ((own_3 S118a.out (.string (ofL (keyZ (km v)))) (.string (ofL (List.replicate 40 0))) (.bool gh)).re (show _ = Asn.blk gm 5 (madeCells #[.int .u8 0] 40) * (Asn.blk ge 44 #[.string (ofL (keyZ (km v))), .string (ofL (List.replicate 40 0)), .bool gh] * (BS)) by ac_rfl))
                  clear S118a
                  refine step_store_w rfl rfl (.tmp 10) (.tmp 53) 44 rfl (.pointer (some ⟨ge, 0, none⟩)) (.agg #[.string (ofL (keyZ (km v))), .string (ofL (List.replicate 40 0)), .bool gh]) rfl rfl _ HST.out ?_
                  clear HST
                  refine hK.out _ _ ?_ (fun hHeld => ?_)
                  · exact ⟨KC.out _ _ S118.out, CV.out _ _ S118.out⟩
                  clear hK K0
                  (try simp only [Act.put, List.setIfInBounds_toArray, List.set_cons_zero, List.set_cons_succ])
                  generalize World.setCell (World.setCell (World.setCell w114 _ _) _ _) _ _ = w118 at *
                  refine wpAnyH_done (by kernel_rfl) ?_ _
                  go_wp2_with fail
                  go_meet
                  case rel => exact ⟨ge, gh, rfl, Lib.hid S118.out.right⟩
          case mr7x1 =>
          refine' AllReadyH.cons (o := ?or8x19) ?hr8x19 ?kr8x19 ?mr8x19
          case hr8x19 => (simp only [List.getElem?_toArray, List.getElem?_cons_succ, List.getElem?_cons_zero]; rfl)
          case kr8x19 =>
            intro K0 hK
            go_simp
            have S120 := Lib.hid ((S2.out.alloc (madeCells #[.int .u8 0] 40) 5))
            obtain ⟨gm, hgz⟩ : ∃ g, g = w3.heap.size := ⟨_, rfl⟩
            rw [← hgz] at S120 ⊢
            clear hgz
            generalize World.alloc w3 _ = w120 at *
            have CV := Lib.hid (fun W D (h : Own w No W (Asn.blk gm 5 (madeCells #[.int .u8 0] 40) * D)) => mk_conv h)
            refine hK.out _ _ ?_ (fun hHeld => ?_)
            · exact KC.out _ _ S120.out
            clear hK K0
            (try simp only [Act.put, List.setIfInBounds_toArray, List.set_cons_zero, List.set_cons_succ])
            refine wpAnyH_weak (S := fun W => (W.cell? ⟨bk, ok + k, none⟩ = some (.int .i64 v)) ∧ ((convert 63 9 (.slice (some ⟨gm, 0, none⟩) 40 40)).run Try.prog W = .ok (.string (ofL (List.replicate 40 0))) W)) (fun _ h => h.1) _ _ _ _ ?_
            have hHeld2 := And.intro (KC.out _ _ S120.out) (CV.out _ _ S120.out)
            refine' wpAnyH_take (i := 9) (oi := ?ot21z9) (v := ?vt21z9) ?ht21z9 ?st21z9 ?ft21z9 ?zt21z9 ?qt21z9 ?yt21z9 ?at21z9 ?rt21z9
            case ht21z9 => (simp only [List.getElem?_toArray, List.getElem?_cons_succ, List.getElem?_cons_zero]; rfl)
            case st21z9 => kernel_rfl
            case ft21z9 => kernel_rfl
            case zt21z9 => kernel_rfl
            case qt21z9 => exact fun _ _ _ h => h
            case yt21z9 => (refine Or.inl ⟨rfl, ?_⟩; intro w hSw; obtain ⟨hS1, hS2⟩ := hSw; go_simp; try with_reducible rfl)
            case at21z9 => assumption
            case rt21z9 =>
            simp only [Act.put, List.setIfInBounds_toArray, List.set_cons_zero, List.set_cons_succ]
            refine wpAnyH_ready (rs := [7, 17]) (by kernel_rfl) (by simp) ?_
            refine' AllReadyH.cons (o := ?or7x22) ?hr7x22 ?kr7x22 ?mr7x22
            case hr7x22 => (simp only [List.getElem?_toArray, List.getElem?_cons_succ, List.getElem?_cons_zero]; rfl)
            case kr7x22 =>
              intro K0 hK
              go_simp
              go_at_call 33
              refine (HKm.out _).mono ?_
              rintro eK w123 ⟨rfl, hX⟩
              have S123 := Lib.hid (S120.out.below hX)
              clear hX
              refine hK.out _ _ ?_ (fun hHeld => ?_)
              · exact ⟨KC.out _ _ S123.out, CV.out _ _ S123.out⟩
              clear hK K0
              (try simp only [Act.put, List.setIfInBounds_toArray, List.set_cons_zero, List.set_cons_succ])
              refine' wpAnyH_take (i := 16) (oi := ?ot24z16) (v := ?vt24z16) ?ht24z16 ?st24z16 ?ft24z16 ?zt24z16 ?qt24z16 ?yt24z16 ?at24z16 ?rt24z16
              case ht24z16 => (simp only [List.getElem?_toArray, List.getElem?_cons_succ, List.getElem?_cons_zero]; rfl)
              case st24z16 => kernel_rfl
              case ft24z16 => kernel_rfl
              case zt24z16 => kernel_rfl
              case qt24z16 => exact fun _ _ _ h => h
              case yt24z16 => (refine Or.inl ⟨rfl, ?_⟩; intro w hSw; (try dsimp only at hSw); go_simp; try with_reducible rfl)
              case at24z16 => assumption
              case rt24z16 =>
              simp only [Act.put, List.setIfInBounds_toArray, List.set_cons_zero, List.set_cons_succ]
              refine wpAnyH_ready (rs := [17]) (by kernel_rfl) (by simp) ?_
              refine' AllReadyH.cons (o := ?or17x25) ?hr17x25 ?kr17x25 AllReadyH.nil
              case hr17x25 => (simp only [List.getElem?_toArray, List.getElem?_cons_succ, List.getElem?_cons_zero]; rfl)
              case kr17x25 =>
                intro K0 hK
                go_simp
                obtain ⟨ge, hgz⟩ : ∃ g, g = w123.heap.size := ⟨_, rfl⟩
                have S126a := Lib.hid (S123.out.alloc #[.string ⟨#[]⟩, .string ⟨#[]⟩, .bool false] 44)
                rw [← hgz] at S126a ⊢
                clear hgz
                have S126 := Lib.hid (S126a.out.re (show _ = Asn.blk gm 5 (madeCells #[.int .u8 0] 40) * (Asn.blk ge 44 #[.string ⟨#[]⟩, .string ⟨#[]⟩, .bool false] * (BS)) by ac_rfl))
                clear S126a
                generalize World.alloc w123 _ = w126 at *
                refine hK.out _ _ ?_ (fun hHeld => ?_)
                · exact ⟨KC.out _ _ S126.out, CV.out _ _ S126.out⟩
                clear hK K0
                (try simp only [Act.put, List.setIfInBounds_toArray, List.set_cons_zero, List.set_cons_succ])
                refine wpAnyH_ready (rs := [18]) (by kernel_rfl) (by simp) ?_
                refine' AllReadyH.cons (o := ?or18x27) ?hr18x27 ?kr18x27 AllReadyH.nil
                case hr18x27 => (simp only [List.getElem?_toArray, List.getElem?_cons_succ, List.getElem?_cons_zero]; rfl)
                case kr18x27 =>
                  intro K0 hK
                  have S128a := Lib.hid (S126.out.re (show _ = Asn.blk ge 44 #[.string ⟨#[]⟩, .string ⟨#[]⟩, .bool false] * (Asn.blk gm 5 (madeCells #[.int .u8 0] 40) * (BS)) by ac_rfl))
                  have HST := Lib.hid (store3 (S128a.out.has (Has.l (has_blk ge _ _))) (ofL (keyZ (km v))) (ofL (List.replicate 40 0)) gh)
                  have S128 := Lib.hid ((own_3 S128a.out (.string (ofL (keyZ (km v)))) (.string (ofL (List.replicate 40 0))) (.bool gh)).re (show _ = Asn.blk gm 5 (madeCells #[.int .u8 0] 40) * (Asn.blk ge 44 #[.string (ofL (keyZ (km v))), .string (ofL (List.replicate 40 0)), .bool gh] * (BS)) by ac_rfl))
                  clear S128a
                  refine step_store_w rfl rfl (.tmp 10) (.tmp 53) 44 rfl (.pointer (some ⟨ge, 0, none⟩)) (.agg #[.string (ofL (keyZ (km v))), .string (ofL (List.replicate 40 0)), .bool gh]) rfl rfl _ HST.out ?_
                  clear HST
                  refine hK.out _ _ ?_ (fun hHeld => ?_)
                  · exact ⟨KC.out _ _ S128.out, CV.out _ _ S128.out⟩
                  clear hK K0
                  (try simp only [Act.put, List.setIfInBounds_toArray, List.set_cons_zero, List.set_cons_succ])
                  generalize World.setCell (World.setCell (World.setCell w126 _ _) _ _) _ _ = w128 at *
                  refine wpAnyH_done (by kernel_rfl) ?_ _
                  go_wp2_with fail
                  go_meet
                  case rel => exact ⟨ge, gh, rfl, Lib.hid S128.out.right⟩
            case mr7x22 =>
            refine' AllReadyH.cons (o := ?or17x29) ?hr17x29 ?kr17x29 AllReadyH.nil
            case hr17x29 => (simp only [List.getElem?_toArray, List.getElem?_cons_succ, List.getElem?_cons_zero]; rfl)
            case kr17x29 =>
              intro K0 hK
              go_simp
              obtain ⟨ge, hgz⟩ : ∃ g, g = w120.heap.size := ⟨_, rfl⟩
              have S130a := Lib.hid (S120.out.alloc #[.string ⟨#[]⟩, .string ⟨#[]⟩, .bool false] 44)
              rw [← hgz] at S130a ⊢
              clear hgz
              have S130 := Lib.hid (S130a.out.re (show _ = Asn.blk gm 5 (madeCells #[.int .u8 0] 40) * (Asn.blk ge 44 #[.string ⟨#[]⟩, .string ⟨#[]⟩, .bool false] * (BS)) by ac_rfl))
              clear S130a
              generalize World.alloc w120 _ = w130 at *
              refine hK.out _ _ ?_ (fun hHeld => ?_)
              · exact ⟨KC.out _ _ S130.out, CV.out _ _ S130.out⟩
              clear hK K0
              (try simp only [Act.put, List.setIfInBounds_toArray, List.set_cons_zero, List.set_cons_succ])
              refine wpAnyH_ready (rs := [7]) (by kernel_rfl) (by simp) ?_
              refine' AllReadyH.cons (o := ?or7x31) ?hr7x31 ?kr7x31 AllReadyH.nil
              case hr7x31 => (simp only [List.getElem?_toArray, List.getElem?_cons_succ, List.getElem?_cons_zero]; rfl)
              case kr7x31 =>
                intro K0 hK
                go_simp
                go_at_call 33
                refine (HKm.out _).mono ?_
                rintro eK w132 ⟨rfl, hX⟩
                have S132 := Lib.hid (S130.out.below hX)
                clear hX
                refine hK.out _ _ ?_ (fun hHeld => ?_)
                · exact ⟨KC.out _ _ S132.out, CV.out _ _ S132.out⟩
                clear hK K0
                (try simp only [Act.put, List.setIfInBounds_toArray, List.set_cons_zero, List.set_cons_succ])
                refine' wpAnyH_take (i := 16) (oi := ?ot33z16) (v := ?vt33z16) ?ht33z16 ?st33z16 ?ft33z16 ?zt33z16 ?qt33z16 ?yt33z16 ?at33z16 ?rt33z16
                case ht33z16 => (simp only [List.getElem?_toArray, List.getElem?_cons_succ, List.getElem?_cons_zero]; rfl)
                case st33z16 => kernel_rfl
                case ft33z16 => kernel_rfl
                case zt33z16 => kernel_rfl
                case qt33z16 => exact fun _ _ _ h => h
                case yt33z16 => (refine Or.inl ⟨rfl, ?_⟩; intro w hSw; (try dsimp only at hSw); go_simp; try with_reducible rfl)
                case at33z16 => assumption
                case rt33z16 =>
                simp only [Act.put, List.setIfInBounds_toArray, List.set_cons_zero, List.set_cons_succ]
                refine wpAnyH_ready (rs := [18]) (by kernel_rfl) (by simp) ?_
                refine' AllReadyH.cons (o := ?or18x34) ?hr18x34 ?kr18x34 AllReadyH.nil
                case hr18x34 => (simp only [List.getElem?_toArray, List.getElem?_cons_succ, List.getElem?_cons_zero]; rfl)
                case kr18x34 =>
                  intro K0 hK
                  have S135a := Lib.hid (S132.out.re (show _ = Asn.blk ge 44 #[.string ⟨#[]⟩, .string ⟨#[]⟩, .bool false] * (Asn.blk gm 5 (madeCells #[.int .u8 0] 40) * (BS)) by ac_rfl))
                  have HST := Lib.hid (store3 (S135a.out.has (Has.l (has_blk ge _ _))) (ofL (keyZ (km v))) (ofL (List.replicate 40 0)) gh)
                  have S135 := Lib.hid ((own_3 S135a.out (.string (ofL (keyZ (km v)))) (.string (ofL (List.replicate 40 0))) (.bool gh)).re (show _ = Asn.blk gm 5 (madeCells #[.int .u8 0] 40) * (Asn.blk ge 44 #[.string (ofL (keyZ (km v))), .string (ofL (List.replicate 40 0)), .bool gh] * (BS)) by ac_rfl))
                  clear S135a
                  refine step_store_w rfl rfl (.tmp 10) (.tmp 53) 44 rfl (.pointer (some ⟨ge, 0, none⟩)) (.agg #[.string (ofL (keyZ (km v))), .string (ofL (List.replicate 40 0)), .bool gh]) rfl rfl _ HST.out ?_
                  clear HST
                  refine hK.out _ _ ?_ (fun hHeld => ?_)
                  · exact ⟨KC.out _ _ S135.out, CV.out _ _ S135.out⟩
                  clear hK K0
                  (try simp only [Act.put, List.setIfInBounds_toArray, List.set_cons_zero, List.set_cons_succ])
                  generalize World.setCell (World.setCell (World.setCell w132 _ _) _ _) _ _ = w135 at *
                  refine wpAnyH_done (by kernel_rfl) ?_ _
                  go_wp2_with fail
                  go_meet
                  case rel => exact ⟨ge, gh, rfl, Lib.hid S135.out.right⟩
          case mr8x19 =>
          refine' AllReadyH.cons (o := ?or17x36) ?hr17x36 ?kr17x36 AllReadyH.nil
          case hr17x36 => (simp only [List.getElem?_toArray, List.getElem?_cons_succ, List.getElem?_cons_zero]; rfl)
          case kr17x36 =>
            intro K0 hK
            go_simp
            obtain ⟨ge, hgz⟩ : ∃ g, g = w3.heap.size := ⟨_, rfl⟩
            have S137a := Lib.hid (S2.out.alloc #[.string ⟨#[]⟩, .string ⟨#[]⟩, .bool false] 44)
            rw [← hgz] at S137a ⊢
            clear hgz
            have S137 := Lib.hid (S137a.out.re (show _ = Asn.blk ge 44 #[.string ⟨#[]⟩, .string ⟨#[]⟩, .bool false] * (BS) by ac_rfl))
            clear S137a
            generalize World.alloc w3 _ = w137 at *
            refine hK.out _ _ ?_ (fun hHeld => ?_)
            · exact KC.out _ _ S137.out
            clear hK K0
            (try simp only [Act.put, List.setIfInBounds_toArray, List.set_cons_zero, List.set_cons_succ])
            refine wpAnyH_ready (rs := [7, 8]) (by kernel_rfl) (by simp) ?_
            refine' AllReadyH.cons (o := ?or7x38) ?hr7x38 ?kr7x38 ?mr7x38
            case hr7x38 => (simp only [List.getElem?_toArray, List.getElem?_cons_succ, List.getElem?_cons_zero]; rfl)
            case kr7x38 =>
              intro K0 hK
              go_simp
              go_at_call 33
              refine (HKm.out _).mono ?_
              rintro eK w139 ⟨rfl, hX⟩
              have S139 := Lib.hid (S137.out.below hX)
              clear hX
              refine hK.out _ _ ?_ (fun hHeld => ?_)
              · exact KC.out _ _ S139.out
              clear hK K0
              (try simp only [Act.put, List.setIfInBounds_toArray, List.set_cons_zero, List.set_cons_succ])
              refine wpAnyH_ready (rs := [8]) (by kernel_rfl) (by simp) ?_
              refine' AllReadyH.cons (o := ?or8x40) ?hr8x40 ?kr8x40 AllReadyH.nil
              case hr8x40 => (simp only [List.getElem?_toArray, List.getElem?_cons_succ, List.getElem?_cons_zero]; rfl)
              case kr8x40 =>
                intro K0 hK
                go_simp
                have S141 := Lib.hid ((S139.out.alloc (madeCells #[.int .u8 0] 40) 5))
                obtain ⟨gm, hgz⟩ : ∃ g, g = w139.heap.size := ⟨_, rfl⟩
                rw [← hgz] at S141 ⊢
                clear hgz
                generalize World.alloc w139 _ = w141 at *
                have CV := Lib.hid (fun W D (h : Own w No W (Asn.blk gm 5 (madeCells #[.int .u8 0] 40) * D)) => mk_conv h)
                refine hK.out _ _ ?_ (fun hHeld => ?_)
                · exact KC.out _ _ S141.out
                clear hK K0
                (try simp only [Act.put, List.setIfInBounds_toArray, List.set_cons_zero, List.set_cons_succ])
                refine wpAnyH_weak (S := fun W => (W.cell? ⟨bk, ok + k, none⟩ = some (.int .i64 v)) ∧ ((convert 63 9 (.slice (some ⟨gm, 0, none⟩) 40 40)).run Try.prog W = .ok (.string (ofL (List.replicate 40 0))) W)) (fun _ h => h.1) _ _ _ _ ?_
                have hHeld2 := And.intro (KC.out _ _ S141.out) (CV.out _ _ S141.out)
                refine' wpAnyH_take (i := 9) (oi := ?ot42z9) (v := ?vt42z9) ?ht42z9 ?st42z9 ?ft42z9 ?zt42z9 ?qt42z9 ?yt42z9 ?at42z9 ?rt42z9
                case ht42z9 => (simp only [List.getElem?_toArray, List.getElem?_cons_succ, List.getElem?_cons_zero]; rfl)
                case st42z9 => kernel_rfl
                case ft42z9 => kernel_rfl
                case zt42z9 => kernel_rfl
                case qt42z9 => exact fun _ _ _ h => h
                case yt42z9 => (refine Or.inl ⟨rfl, ?_⟩; intro w hSw; obtain ⟨hS1, hS2⟩ := hSw; go_simp; try with_reducible rfl)
                case at42z9 => assumption
                case rt42z9 =>
                simp only [Act.put, List.setIfInBounds_toArray, List.set_cons_zero, List.set_cons_succ]
                refine' wpAnyH_take (i := 16) (oi := ?ot43z16) (v := ?vt43z16) ?ht43z16 ?st43z16 ?ft43z16 ?zt43z16 ?qt43z16 ?yt43z16 ?at43z16 ?rt43z16
                case ht43z16 => (simp only [List.getElem?_toArray, List.getElem?_cons_succ, List.getElem?_cons_zero]; rfl)
                case st43z16 => kernel_rfl
                case ft43z16 => kernel_rfl
                case zt43z16 => kernel_rfl
                case qt43z16 => exact fun _ _ _ h => h
                case yt43z16 => (refine Or.inl ⟨rfl, ?_⟩; intro w hSw; (try dsimp only at hSw); go_simp; try with_reducible rfl)
                case at43z16 => assumption
                case rt43z16 =>
                simp only [Act.put, List.setIfInBounds_toArray, List.set_cons_zero, List.set_cons_succ]
                refine wpAnyH_ready (rs := [18]) (by kernel_rfl) (by simp) ?_
                refine' AllReadyH.cons (o := ?or18x44) ?hr18x44 ?kr18x44 AllReadyH.nil
                case hr18x44 => (simp only [List.getElem?_toArray, List.getElem?_cons_succ, List.getElem?_cons_zero]; rfl)
                case kr18x44 =>
                  intro K0 hK
                  have S145a := Lib.hid (S141.out.re (show _ = Asn.blk ge 44 #[.string ⟨#[]⟩, .string ⟨#[]⟩, .bool false] * (Asn.blk gm 5 (madeCells #[.int .u8 0] 40) * (BS)) by ac_rfl))
                  have HST := Lib.hid (store3 (S145a.out.has (Has.l (has_blk ge _ _))) (ofL (keyZ (km v))) (ofL (List.replicate 40 0)) gh)
                  have S145 := Lib.hid ((own_3 S145a.out (.string (ofL (keyZ (km v)))) (.string (ofL (List.replicate 40 0))) (.bool gh)).re (show _ = Asn.blk gm 5 (madeCells #[.int .u8 0] 40) * (Asn.blk ge 44 #[.string (ofL (keyZ (km v))), .string (ofL (List.replicate 40 0)), .bool gh] * (BS)) by ac_rfl))
                  clear S145a
                  refine step_store_w rfl rfl (.tmp 10) (.tmp 53) 44 rfl (.pointer (some ⟨ge, 0, none⟩)) (.agg #[.string (ofL (keyZ (km v))), .string (ofL (List.replicate 40 0)), .bool gh]) rfl rfl _ HST.out ?_
                  clear HST
                  refine hK.out _ _ ?_ (fun hHeld => ?_)
                  · exact ⟨KC.out _ _ S145.out, CV.out _ _ S145.out⟩
                  clear hK K0
                  (try simp only [Act.put, List.setIfInBounds_toArray, List.set_cons_zero, List.set_cons_succ])
                  generalize World.setCell (World.setCell (World.setCell w141 _ _) _ _) _ _ = w145 at *
                  refine wpAnyH_done (by kernel_rfl) ?_ _
                  go_wp2_with fail
                  go_meet
                  case rel => exact ⟨ge, gh, rfl, Lib.hid S145.out.right⟩
            case mr7x38 =>
            refine' AllReadyH.cons (o := ?or8x46) ?hr8x46 ?kr8x46 AllReadyH.nil
            case hr8x46 => (simp only [List.getElem?_toArray, List.getElem?_cons_succ, List.getElem?_cons_zero]; rfl)
            case kr8x46 =>
              intro K0 hK
              go_simp
              have S147 := Lib.hid ((S137.out.alloc (madeCells #[.int .u8 0] 40) 5))
              obtain ⟨gm, hgz⟩ : ∃ g, g = w137.heap.size := ⟨_, rfl⟩
              rw [← hgz] at S147 ⊢
              clear hgz
              generalize World.alloc w137 _ = w147 at *
              have CV := Lib.hid (fun W D (h : Own w No W (Asn.blk gm 5 (madeCells #[.int .u8 0] 40) * D)) => mk_conv h)
              refine hK.out _ _ ?_ (fun hHeld => ?_)
              · exact KC.out _ _ S147.out
              clear hK K0
              (try simp only [Act.put, List.setIfInBounds_toArray, List.set_cons_zero, List.set_cons_succ])
              refine wpAnyH_weak (S := fun W => (W.cell? ⟨bk, ok + k, none⟩ = some (.int .i64 v)) ∧ ((convert 63 9 (.slice (some ⟨gm, 0, none⟩) 40 40)).run Try.prog W = .ok (.string (ofL (List.replicate 40 0))) W)) (fun _ h => h.1) _ _ _ _ ?_
              have hHeld2 := And.intro (KC.out _ _ S147.out) (CV.out _ _ S147.out)
              refine' wpAnyH_take (i := 9) (oi := ?ot48z9) (v := ?vt48z9) ?ht48z9 ?st48z9 ?ft48z9 ?zt48z9 ?qt48z9 ?yt48z9 ?at48z9 ?rt48z9
              case ht48z9 => (simp only [List.getElem?_toArray, List.getElem?_cons_succ, List.getElem?_cons_zero]; rfl)
              case st48z9 => kernel_rfl
              case ft48z9 => kernel_rfl
              case zt48z9 => kernel_rfl
              case qt48z9 => exact fun _ _ _ h => h
              case yt48z9 => (refine Or.inl ⟨rfl, ?_⟩; intro w hSw; obtain ⟨hS1, hS2⟩ := hSw; go_simp; try with_reducible rfl)
              case at48z9 => assumption
              case rt48z9 =>
              simp only [Act.put, List.setIfInBounds_toArray, List.set_cons_zero, List.set_cons_succ]
              refine wpAnyH_ready (rs := [7]) (by kernel_rfl) (by simp) ?_
              refine' AllReadyH.cons (o := ?or7x49) ?hr7x49 ?kr7x49 AllReadyH.nil
              case hr7x49 => (simp only [List.getElem?_toArray, List.getElem?_cons_succ, List.getElem?_cons_zero]; rfl)
              case kr7x49 =>
                intro K0 hK
                go_simp
                go_at_call 33
                refine (HKm.out _).mono ?_
                rintro eK w150 ⟨rfl, hX⟩
                have S150 := Lib.hid (S147.out.below hX)
                clear hX
                refine hK.out _ _ ?_ (fun hHeld => ?_)
                · exact ⟨KC.out _ _ S150.out, CV.out _ _ S150.out⟩
                clear hK K0
                (try simp only [Act.put, List.setIfInBounds_toArray, List.set_cons_zero, List.set_cons_succ])
                refine' wpAnyH_take (i := 16) (oi := ?ot51z16) (v := ?vt51z16) ?ht51z16 ?st51z16 ?ft51z16 ?zt51z16 ?qt51z16 ?yt51z16 ?at51z16 ?rt51z16
                case ht51z16 => (simp only [List.getElem?_toArray, List.getElem?_cons_succ, List.getElem?_cons_zero]; rfl)
                case st51z16 => kernel_rfl
                case ft51z16 => kernel_rfl
                case zt51z16 => kernel_rfl
                case qt51z16 => exact fun _ _ _ h => h
                case yt51z16 => (refine Or.inl ⟨rfl, ?_⟩; intro w hSw; (try dsimp only at hSw); go_simp; try with_reducible rfl)
                case at51z16 => assumption
                case rt51z16 =>
                simp only [Act.put, List.setIfInBounds_toArray, List.set_cons_zero, List.set_cons_succ]
                refine wpAnyH_ready (rs := [18]) (by kernel_rfl) (by simp) ?_
                refine' AllReadyH.cons (o := ?or18x52) ?hr18x52 ?kr18x52 AllReadyH.nil
                case hr18x52 => (simp only [List.getElem?_toArray, List.getElem?_cons_succ, List.getElem?_cons_zero]; rfl)
                case kr18x52 =>
                  intro K0 hK
                  have S153a := Lib.hid (S150.out.re (show _ = Asn.blk ge 44 #[.string ⟨#[]⟩, .string ⟨#[]⟩, .bool false] * (Asn.blk gm 5 (madeCells #[.int .u8 0] 40) * (BS)) by ac_rfl))
                  have HST := Lib.hid (store3 (S153a.out.has (Has.l (has_blk ge _ _))) (ofL (keyZ (km v))) (ofL (List.replicate 40 0)) gh)
                  have S153 := Lib.hid ((own_3 S153a.out (.string (ofL (keyZ (km v)))) (.string (ofL (List.replicate 40 0))) (.bool gh)).re (show _ = Asn.blk gm 5 (madeCells #[.int .u8 0] 40) * (Asn.blk ge 44 #[.string (ofL (keyZ (km v))), .string (ofL (List.replicate 40 0)), .bool gh] * (BS)) by ac_rfl))
                  clear S153a
                  refine step_store_w rfl rfl (.tmp 10) (.tmp 53) 44 rfl (.pointer (some ⟨ge, 0, none⟩)) (.agg #[.string (ofL (keyZ (km v))), .string (ofL (List.replicate 40 0)), .bool gh]) rfl rfl _ HST.out ?_
                  clear HST
                  refine hK.out _ _ ?_ (fun hHeld => ?_)
                  · exact ⟨KC.out _ _ S153.out, CV.out _ _ S153.out⟩
                  clear hK K0
                  (try simp only [Act.put, List.setIfInBounds_toArray, List.set_cons_zero, List.set_cons_succ])
                  generalize World.setCell (World.setCell (World.setCell w150 _ _) _ _) _ _ = w153 at *
                  refine wpAnyH_done (by kernel_rfl) ?_ _
                  go_wp2_with fail
                  go_meet
                  case rel => exact ⟨ge, gh, rfl, Lib.hid S153.out.right⟩
      case rest =>
        obtain ⟨ge, gh, rfl, S3⟩ := hcut
        clear S2
        rw [hBS] at S3
        clear hBS BS HKm KC
        obtain ⟨z40, hz40⟩ : ∃ z : By, z = List.replicate 40 0 := ⟨_, rfl⟩
        rw [← hz40] at S3
        have hzl : z40.length = 40 := by rw [hz40]; rfl
        have hkl : (keyZ (km v)).length = 9 := rfl
        have hkw : lt low (keyZ (km v)) = true := rfl
        generalize keyZ (km v) = kk at *
        clear hz40
        have HGo := HG
        clear HG
        go_wp2_with fail
        go_loopw [7, 8, 11] (fun s7 s8 s11 wq => ∃ (j : Nat) (S : Sf) (l : List Ent) (next top : Nat) (ch : Nat → List Nat) (A7 : Option Addr) (c7 : Nat) (V : Nat → Value), j ≤ 4 ∧ s11 = .int .i64 j ∧ s8 = .int .i64 next ∧ s7 = .slice A7 l.length c7 ∧ Hid (GS S l next top ch k) ∧ Hid (Own w No wq (Asn.blk ge 44 #[.string (ofL kk), .string (ofL z40), .bool gh] * (Asn.vec 44 3 (.slice A7 l.length c7) l.length (cells3 l) * (aSf gs S V * Asn.emp))))) (fun _ _ s _ => 4 - (intOf s).toNat)
        case atStart => exact ⟨0, S, l, next, top, ch, A7, c7, V, by omega, rfl, rfl, rfl, HGo, S3⟩
        case round =>
          clear S3 HGo
          obtain ⟨j, S, l, next, top, ch, A7, c7, V, hj4, rfl, rfl, rfl, HG, S1⟩ := hrel
          by_cases hjl : j < 4
          case neg =>
            obtain rfl : j = 4 := by omega
            as_aux_lemma =>
              obtain ⟨g1, g2, g3, g4, g5⟩ := HG.out
              go_wp2_with fail
              go_round
              case rel => exact ⟨k + 1, S, l, next, top, ch, A7, c7, V, by omega, by omega, by go_num, rfl, rfl, Lib.hid ⟨g1, g2, g3, by omega, g5⟩, Lib.hid S1.out.right⟩
              case measure => simp only [intOf]; omega
          case pos =>
            obtain ⟨g1, g2, g3, g4, g5⟩ := HG.out
            have hput := g1.put ⟨kk, z40, gh⟩ hkl hzl
            have hmd := put_md g2 g3 3 ⟨kk, z40, gh⟩
            have HPt := Lib.hid (fun W C h => Put_any gs S V g2 g3 3 ⟨kk, z40, gh⟩ w W C h)
            rw [show entCells ⟨kk, z40, gh⟩ = #[.string (ofL kk), .string (ofL z40), .bool gh] from rfl] at HPt
            unfold pgs at HPt
            generalize putR S 3 ⟨kk, z40, gh⟩ = r at *
            obtain ⟨re, rc⟩ := r
            dsimp only at hput hmd HPt
            have HM := Lib.hid hmd
            have HPL := Lib.hid hput
            clear hmd hput
            obtain ⟨⟨e0, e1, e2⟩, -⟩ := three_of (S1.out.has (Has.l (has_blk ge _ _)))
            go_wp2_with fail
            refine (HPt.out _ _ (S1.out.re (show _ = aSf gs S V * (Asn.blk ge 44 #[.string (ofL kk), .string (ofL z40), .bool gh] * (Asn.vec 44 3 (.slice A7 l.length c7) l.length (cells3 l) * Asn.emp)) by ac_rfl))).mono ?_
            rintro e w4 ⟨v12, L, rfl, hpl, hX⟩
            have hL3 : L.length ≤ 3 := by
              have h1 := congrArg List.length hpl
              have h2 := HM.out.1
              simp only [plain, List.length_map] at h1
              omega
            obtain ⟨A12, c12, rfl⟩ := hX.vec.slice
            clear HPt S1 e0 e1 e2
            rcases HPL.out with ⟨rfl, hgn⟩ | ⟨rfl, h4⟩
            · as_aux_lemma =>
                have HPu := Lib.hid (ShPut_own gs S V L L.length rfl (.slice A12 L.length c12) w w4 _ (by omega) (by rw [hpl]; exact fun x hx => (HM.out.2 x hx).1) hX)
                rw [hpl] at HPu
                have HN := Lib.hid hgn
                have HPs := Lib.hid (puts_md g2 g3 HM.out.2)
                clear hX hpl hgn HPL
                unfold sPtr at HPu
                go_wp2_with fail
                refine HPu.out.mono ?_
                rintro e w5 ⟨rfl, V2, hX⟩
                have S4 := Lib.hid (show Own w No w5 (aSf gs (puts S rc) V2 * (Asn.blk ge 44 #[.string (ofL kk), .string (ofL z40), .bool gh] * (Asn.vec 44 3 (.slice A7 l.length c7) l.length (cells3 l) * Asn.emp))) from hX)
                clear hX HPu
                obtain ⟨⟨e0, e1, e2⟩, -⟩ := three_of (S4.out.has (Has.r (Has.l (has_blk ge _ _))))
                have hsrt := g1.srt
                have HRp := Lib.hid (refPut_any l ⟨kk, z40, gh⟩ (.slice A7 l.length c7) w5 (by omega) (Row3.of_vec S4.out.right.right.vec) (fun x hx => by rw [g1.dn.len x hx]; decide) (by rw [hkl]; decide))
                rw [putE_ins hsrt, show entCells ⟨kk, z40, gh⟩ = #[.string (ofL kk), .string (ofL z40), .bool gh] from rfl] at HRp
                have hil : (ins ⟨kk, z40, gh⟩ l).length ≤ l.length + 1 := ins_len hsrt
                have HGn := Lib.hid (show GS (puts S rc) (ins ⟨kk, z40, gh⟩ l) next top ch (k + 1) from ⟨HN.out, HPs.out.1, HPs.out.2, by omega, fun x hx => by
                  rcases mem_ins x hx with rfl | hx
                  · exact hkw
                  · exact g5 x hx⟩)
                clear hsrt
                generalize ins ⟨kk, z40, gh⟩ l = l2 at *
                go_wp2_with fail
                refine HRp.out.mono ?_
                rintro e w6 ⟨v7, rfl, hX⟩
                have hT := own_join S4.out hX
                obtain ⟨A8, c8, rfl⟩ := hT.vec.slice
                have S5 := Lib.hid (hT.re (show _ = (Asn.blk ge 44 #[.string (ofL kk), .string (ofL z40), .bool gh] * Asn.vec 44 3 (.slice A7 l.length c7) l.length (cells3 l)) * (Asn.vec 44 3 (.slice A8 l2.length c8) l2.length (cells3 l2) * (aSf gs (puts S rc) V2 * Asn.emp)) by ac_rfl)).right
                clear hT hX S4 HRp e0 e1 e2
                go_wp2_with fail
                go_round
                case rel => exact ⟨k + 1, puts S rc, l2, next, top, ch, A8, c8, V2, by omega, by omega, by go_num, rfl, rfl, HGn, S5⟩
                case measure => simp only [intOf]; omega
            · have S2 := Lib.hid hX.right.right
              clear hX hpl HM HPL hL3
              have hsm4 := g1.small
              obtain ⟨cs, po, top', ch', hsp, hgn, hpo⟩ := g1.part kk hkl (by omega) h4
              have HSp := Lib.hid (fun W C h => Split_any gs S V g2 g3 3 0 kk next ((next : Int) + 1) w W C h)
              have hmd := split_md g2 g3 3 0 kk next ((next : Int) + 1)
              rw [hsp] at HSp hmd
              dsimp only at HSp hmd
              unfold pgs at HSp
              have HM := Lib.hid hmd
              have HPs := Lib.hid (puts_md g2 g3 hmd.2)
              have HN := Lib.hid hgn
              have HPO := Lib.hid hpo
              clear hgn hpo hsp h4 hmd
              obtain ⟨⟨e0, e1, e2⟩, -⟩ := three_of (S2.out.has (Has.r (Has.l (has_blk ge _ _))))
              go_wp2_with fail
              refine (HSp.out _ _ S2.out).mono ?_
              rintro e w5 ⟨v14, L2, rfl, hpl, hX⟩
              have hL3 : L2.length ≤ 3 := by
                have h1 := congrArg List.length hpl
                have h2 := HM.out.1
                simp only [plain, List.length_map] at h1
                omega
              obtain ⟨A14, c14, rfl⟩ := hX.vec.slice
              have S3 := Lib.hid (hX.alloc (poC po) 91)
              clear hX S2 HSp e0 e1 e2
              obtain ⟨p0, p1, p2, p3⟩ := po
              unfold poC at S3 ⊢
              dsimp only at S3 ⊢
              go_wp2_with fail
              obtain ⟨gp, hgz⟩ : ∃ g, g = w5.heap.size := ⟨_, rfl⟩
              rw [← hgz] at S3 ⊢
              clear hgz
              generalize World.alloc w5 _ = w6 at *
              have HPu := Lib.hid (ShPut_own gs S V L2 L2.length rfl (.slice A14 L2.length c14) w w6 (Asn.blk gp 91 #[.int .i64 p0, .int .i64 p1, .string (ofL p2), .int .i64 p3] * (Asn.blk ge 44 #[.string (ofL kk), .string (ofL z40), .bool gh] * (Asn.vec 44 3 (.slice A7 l.length c7) l.length (cells3 l) * Asn.emp))) (by omega) (by rw [hpl]; exact fun x hx => (HM.out.2 x hx).1) (S3.out.re (by ac_rfl)))
              rw [hpl] at HPu
              unfold sPtr at HPu
              clear S3 hpl
              refine HPu.out.mono ?_
              rintro e w7 ⟨rfl, V2, hX⟩
              have S4 := Lib.hid (show Own w No w7 (aSf gs (puts S cs) V2 * (Asn.blk gp 91 #[.int .i64 p0, .int .i64 p1, .string (ofL p2), .int .i64 p3] * (Asn.blk ge 44 #[.string (ofL kk), .string (ofL z40), .bool gh] * (Asn.vec 44 3 (.slice A7 l.length c7) l.length (cells3 l) * Asn.emp)))) from hX)
              clear hX HPu
              have HGn := Lib.hid (show GS (puts S cs) l (next + 2) top' ch' k from ⟨HN.out, HPs.out.1, HPs.out.2, g4, g5⟩)
              obtain ⟨d0, d1, d2, d3⟩ := post_cells (S4.out.has (Has.r (Has.l (has_blk gp _ _))))
              rcases HPO.out with hpo | ⟨rfl, kx, B1, B2, hpo, hkx, hps⟩
              · as_aux_lemma =>
                  obtain ⟨rfl, rfl, rfl, rfl⟩ : p0 = 0 ∧ p1 = 0 ∧ p2 = [] ∧ p3 = 0 := by
                    unfold po0 at hpo
                    simpa using hpo
                  rw [show ofL [] = (⟨#[]⟩ : ByteArray) from rfl] at d2
                  clear hpo
                  go_wp2_with fail
                  go_round
                  case rel => exact ⟨j + 1, puts S cs, l, next + 2, top', ch', A7, c7, V2, by omega, by go_num, by go_num, rfl, HGn, Lib.hid ((S4.out.re (show _ = Asn.blk gp 91 #[.int .i64 0, .int .i64 0, .string (ofL []), .int .i64 0] * (Asn.blk ge 44 #[.string (ofL kk), .string (ofL z40), .bool gh] * (Asn.vec 44 3 (.slice A7 l.length c7) l.length (cells3 l) * (aSf gs (puts S cs) V2 * Asn.emp))) by ac_rfl)).right)⟩
                  case measure => simp only [intOf]; omega
              · obtain ⟨rfl, rfl, rfl, rfl⟩ : p0 = 0 ∧ p1 = 1 ∧ p2 = kx ∧ p3 = (next : Int) := by simpa using hpo
                clear hpo
                go_wp2_with fail
                · as_aux_lemma =>
                    have hh := HN.out.hang p2 hkx next (by omega) hps
                    have hmd := hang_md HPs.out.1 HPs.out.2 3 1 p2 next
                    have HHa := Lib.hid (Hang_any gs (puts S cs) V2 HPs.out.1 HPs.out.2 3 0 1 next p2 w w7 _ S4.out)
                    generalize hangR (puts S cs) 3 1 p2 next = rh at *
                    obtain ⟨re2, hc⟩ := rh
                    dsimp only at hh hmd HHa
                    have HM2 := Lib.hid hmd
                    have HH := Lib.hid hh
                    have HPs2 := Lib.hid (puts_md HPs.out.1 HPs.out.2 hmd.2)
                    unfold pgs at HHa
                    clear hh hmd d0 d1 d2 d3
                    refine HHa.out.mono ?_
                    rintro e w8 ⟨v17, L3, rfl, hpl, hX⟩
                    have hL4 : L3.length ≤ 3 := by
                      have h1 := congrArg List.length hpl
                      have h2 := HM2.out.1
                      simp only [plain, List.length_map] at h1
                      omega
                    obtain ⟨A17, c17, rfl⟩ := hX.vec.slice
                    clear HHa S4
                    rcases HH.out with ⟨rfl, hgn2⟩ | rfl
                    · have HPu := Lib.hid (ShPut_own gs (puts S cs) V2 L3 L3.length rfl (.slice A17 L3.length c17) w w8 _ (by omega) (by rw [hpl]; exact fun x hx => (HM2.out.2 x hx).1) hX)
                      rw [hpl] at HPu
                      unfold sPtr at HPu
                      have HGn2 := Lib.hid (show GS (puts (puts S cs) hc) l (next + 2) 1 ch' k from ⟨hgn2, HPs2.out.1, HPs2.out.2, g4, g5⟩)
                      clear hX hpl hgn2 HH
                      go_wp2_with fail
                      refine HPu.out.mono ?_
                      rintro e w9 ⟨rfl, V3, hX⟩
                      have S5 := Lib.hid (show Own w No w9 (aSf gs (puts (puts S cs) hc) V3 * (Asn.blk gp 91 #[.int .i64 0, .int .i64 1, .string (ofL p2), .int .i64 next] * (Asn.blk ge 44 #[.string (ofL kk), .string (ofL z40), .bool gh] * (Asn.vec 44 3 (.slice A7 l.length c7) l.length (cells3 l) * Asn.emp)))) from hX)
                      clear hX HPu
                      go_wp2_with fail
                      go_round
                      case rel => exact ⟨j + 1, puts (puts S cs) hc, l, next + 2, 1, ch', A7, c7, V3, by omega, by go_num, by go_num, rfl, HGn2, Lib.hid ((S5.out.re (show _ = Asn.blk gp 91 #[.int .i64 0, .int .i64 1, .string (ofL p2), .int .i64 next] * (Asn.blk ge 44 #[.string (ofL kk), .string (ofL z40), .bool gh] * (Asn.vec 44 3 (.slice A7 l.length c7) l.length (cells3 l) * (aSf gs (puts (puts S cs) hc) V3 * Asn.emp))) by ac_rfl)).right)⟩
                      case measure => simp only [intOf]; omega
                    · have S5 := Lib.hid hX.right.right
                      clear hX hpl HH
                      go_wp2_with fail
                      go_round
                      case rel => exact ⟨j + 1, puts S cs, l, next + 2, 1, ch', A7, c7, V2, by omega, by go_num, by go_num, rfl, HGn, Lib.hid ((S5.out.re (show _ = Asn.blk gp 91 #[.int .i64 0, .int .i64 1, .string (ofL p2), .int .i64 next] * (Asn.blk ge 44 #[.string (ofL kk), .string (ofL z40), .bool gh] * (Asn.vec 44 3 (.slice A7 l.length c7) l.length (cells3 l) * (aSf gs (puts S cs) V2 * Asn.emp))) by ac_rfl)).right)⟩
                      case measure => simp only [intOf]; omega
                · as_aux_lemma =>
                    go_round
                    case rel => exact ⟨j + 1, puts S cs, l, next + 2, 1, ch', A7, c7, V2, by omega, by go_num, by go_num, rfl, HGn, Lib.hid ((S4.out.re (show _ = Asn.blk gp 91 #[.int .i64 0, .int .i64 1, .string (ofL p2), .int .i64 next] * (Asn.blk ge 44 #[.string (ofL kk), .string (ofL z40), .bool gh] * (Asn.vec 44 3 (.slice A7 l.length c7) l.length (cells3 l) * (aSf gs (puts S cs) V2 * Asn.emp))) by ac_rfl)).right)⟩
                    case measure => simp only [intOf]; omega
    case neg =>
      obtain ⟨g1, g2, g3, g4, g5⟩ := HG.out
      have HD := Lib.hid (show DS S l top ch from ⟨g1.dn, g2, g3, by omega, g5⟩)
      clear g1 g2 g3 g4 g5 HG
      rcases (by omega : ¬ k < m ∨ (k < m ∧ ¬ k < 60)) with hx1 | ⟨hx1, hx2⟩
      · as_aux_lemma =>
          go_wp2_with fail
          go_loopw [7, 19] (fun s7 i wq => ∃ (j : Nat) (S : Sf) (l : List Ent) (top : Nat) (ch : Nat → List Nat) (A7 : Option Addr) (c7 : Nat) (V : Nat → Value), j ≤ m ∧ j ≤ 60 ∧ i = .int .i64 j ∧ s7 = .slice A7 l.length c7 ∧ Hid (DS S l top ch) ∧ Hid (Own w No wq (Asn.vec 44 3 (.slice A7 l.length c7) l.length (cells3 l) * (aSf gs S V * Asn.emp)))) (fun _ i _ => 60 - (intOf i).toNat)
          case atStart => exact ⟨0, S, l, top, ch, A7, c7, V, by omega, by omega, rfl, rfl, HD, S1⟩
          case round =>
            clear S1 HD
            obtain ⟨j, S, l, top, ch, A7, c7, V, hjm, hj60, rfl, rfl, HD, S1⟩ := hrel
            obtain ⟨g1, g2, g3, g4, g5⟩ := HD.out
            by_cases hlt : j < m ∧ j < 60
            case neg =>
              rcases (by omega : ¬ j < m ∨ (j < m ∧ ¬ j < 60)) with hy1 | ⟨hy1, hy2⟩
              · go_wp2_with fail
                all_goals (go_returns; exact ⟨gs, V, S, l, top, ch, A7, c7, rfl, g1, g2, g3, g4, g5, S1.out⟩)
              · go_wp2_with fail
                all_goals (go_returns; exact ⟨gs, V, S, l, top, ch, A7, c7, rfl, g1, g2, g3, g4, g5, S1.out⟩)
            case pos =>
              obtain ⟨hlt, hlt2⟩ := hlt
              obtain ⟨bk, ok, rfl, hKC, hz64⟩ := HR.out.at j hlt
              have KC := Lib.hid hKC
              clear hKC
              generalize z j = v at *
              obtain ⟨hv1, hv2⟩ := hz64
              have HKm : Hid (∀ W, Calls Try.prog 33 #[.int .i64 (wrap64 ((IntKind.u64.wrap v).tmod 100))] W fun e w' => e = .returned (.string (ofL (keyZ (km v)))) ∧ Below W.heap.size W w') := Lib.hid (fun W => key11_any (km v) W (by have := km_bd v; omega) (by have := km_bd v; omega))
              have hkl : (keyZ (km v)).length = 9 := rfl
              generalize keyZ (km v) = kk at *
              have c0 := KC.out _ _ S1.out
              go_wp2_with fail
              refine (HKm.out _).mono ?_
              rintro e w2 ⟨rfl, hX⟩
              have S2 := Lib.hid (S1.out.below hX)
              clear hX S1 c0 HKm
              have c0 := KC.out _ _ S2.out
              go_wp2_with fail
              · as_aux_lemma =>
                  go_round
                  case rel => exact ⟨j + 1, S, l, top, ch, A7, c7, V, by omega, by omega, by go_num, rfl, HD, S2⟩
                  case measure => simp only [intOf]; omega
              · as_aux_lemma =>
                  have hdr := g1.drop kk hkl
                  have hmd := drop_md g2 g3 3 kk
                  have HDr := Lib.hid (Drop_any gs S V g2 g3 3 kk w w2 (Asn.vec 44 3 (.slice A7 l.length c7) l.length (cells3 l) * Asn.emp) (S2.out.re (show _ = aSf gs S V * (Asn.vec 44 3 (.slice A7 l.length c7) l.length (cells3 l) * Asn.emp) by ac_rfl)))
                  generalize dropR S 3 kk = r at *
                  obtain ⟨re, rc⟩ := r
                  dsimp only at hdr hmd HDr
                  have HM := Lib.hid hmd
                  have HH := Lib.hid hdr
                  have HPs := Lib.hid (puts_md g2 g3 hmd.2)
                  unfold pgs at HDr
                  clear hdr hmd c0 S2
                  refine HDr.out.mono ?_
                  rintro e w3 ⟨v21, L, rfl, hpl, hX⟩
                  have hL3 : L.length ≤ 3 := by
                    have h1 := congrArg List.length hpl
                    have h2 := HM.out.1
                    simp only [plain, List.length_map] at h1
                    omega
                  obtain ⟨A21, c21, rfl⟩ := hX.vec.slice
                  clear HDr
                  rcases HH.out with ⟨rfl, hdn⟩ | rfl
                  · have HPu := Lib.hid (ShPut_own gs S V L L.length rfl (.slice A21 L.length c21) w w3 _ (by omega) (by rw [hpl]; exact fun x hx => (HM.out.2 x hx).1) hX)
                    rw [hpl] at HPu
                    unfold sPtr at HPu
                    have hle : (dropE l kk).1.length ≤ l.length := by rw [dropE_eq]; exact List.length_filter_le _ _
                    have HDn := Lib.hid (show DS (puts S rc) (dropE l kk).1 top ch from ⟨hdn, HPs.out.1, HPs.out.2, by omega, fun x hx => g5 x (by rw [dropE_eq] at hx; exact (List.mem_filter.1 hx).1)⟩)
                    clear hX hpl hdn HH
                    go_wp2_with fail
                    refine HPu.out.mono ?_
                    rintro e w4 ⟨rfl, V2, hX⟩
                    have S3 := Lib.hid (show Own w No w4 (aSf gs (puts S rc) V2 * (Asn.vec 44 3 (.slice A7 l.length c7) l.length (cells3 l) * Asn.emp)) from hX)
                    clear hX HPu
                    have HRd := Lib.hid (refDrop_any l kk (.slice A7 l.length c7) w4 (by omega) (Row3.of_vec S3.out.right.vec))
                    generalize dropE l kk = dd at *
                    obtain ⟨l2, fd⟩ := dd
                    dsimp only at HRd HDn
                    go_wp2_with fail
                    refine HRd.out.mono ?_
                    rintro e w5 ⟨v7, rfl, hX⟩
                    have hT := own_join S3.out hX
                    obtain ⟨A8, c8, rfl⟩ := hT.vec.slice
                    have S5 := Lib.hid (hT.re (show _ = Asn.vec 44 3 (.slice A7 l.length c7) l.length (cells3 l) * (Asn.vec 44 3 (.slice A8 l2.length c8) l2.length (cells3 l2) * (aSf gs (puts S rc) V2 * Asn.emp)) by ac_rfl)).right
                    clear hT hX S3 HRd
                    go_wp2_with fail
                    go_round
                    case rel => exact ⟨j + 1, puts S rc, l2, top, ch, A8, c8, V2, by omega, by omega, by go_num, rfl, HDn, S5⟩
                    case measure => simp only [intOf]; omega
                  · have S5 := Lib.hid (hX.right.right.re (show _ = Asn.vec 44 3 (.slice A7 l.length c7) l.length (cells3 l) * (aSf gs S V * Asn.emp) by ac_rfl))
                    clear hX hpl HH
                    go_wp2_with fail
                    go_round
                    case rel => exact ⟨j + 1, S, l, top, ch, A7, c7, V, by omega, by omega, by go_num, rfl, HD, S5⟩
                    case measure => simp only [intOf]; omega
      · as_aux_lemma =>
          go_wp2_with fail
          go_loopw [7, 19] (fun s7 i wq => ∃ (j : Nat) (S : Sf) (l : List Ent) (top : Nat) (ch : Nat → List Nat) (A7 : Option Addr) (c7 : Nat) (V : Nat → Value), j ≤ m ∧ j ≤ 60 ∧ i = .int .i64 j ∧ s7 = .slice A7 l.length c7 ∧ Hid (DS S l top ch) ∧ Hid (Own w No wq (Asn.vec 44 3 (.slice A7 l.length c7) l.length (cells3 l) * (aSf gs S V * Asn.emp)))) (fun _ i _ => 60 - (intOf i).toNat)
          case atStart => exact ⟨0, S, l, top, ch, A7, c7, V, by omega, by omega, rfl, rfl, HD, S1⟩
          case round =>
            clear S1 HD
            obtain ⟨j, S, l, top, ch, A7, c7, V, hjm, hj60, rfl, rfl, HD, S1⟩ := hrel
            obtain ⟨g1, g2, g3, g4, g5⟩ := HD.out
            by_cases hlt : j < m ∧ j < 60
            case neg =>
              rcases (by omega : ¬ j < m ∨ (j < m ∧ ¬ j < 60)) with hy1 | ⟨hy1, hy2⟩
              · go_wp2_with fail
                all_goals (go_returns; exact ⟨gs, V, S, l, top, ch, A7, c7, rfl, g1, g2, g3, g4, g5, S1.out⟩)
              · go_wp2_with fail
                all_goals (go_returns; exact ⟨gs, V, S, l, top, ch, A7, c7, rfl, g1, g2, g3, g4, g5, S1.out⟩)
            case pos =>
              obtain ⟨hlt, hlt2⟩ := hlt
              obtain ⟨bk, ok, rfl, hKC, hz64⟩ := HR.out.at j hlt
              have KC := Lib.hid hKC
              clear hKC
              generalize z j = v at *
              obtain ⟨hv1, hv2⟩ := hz64
              have HKm : Hid (∀ W, Calls Try.prog 33 #[.int .i64 (wrap64 ((IntKind.u64.wrap v).tmod 100))] W fun e w' => e = .returned (.string (ofL (keyZ (km v)))) ∧ Below W.heap.size W w') := Lib.hid (fun W => key11_any (km v) W (by have := km_bd v; omega) (by have := km_bd v; omega))
              have hkl : (keyZ (km v)).length = 9 := rfl
              generalize keyZ (km v) = kk at *
              have c0 := KC.out _ _ S1.out
              go_wp2_with fail
              refine (HKm.out _).mono ?_
              rintro e w2 ⟨rfl, hX⟩
              have S2 := Lib.hid (S1.out.below hX)
              clear hX S1 c0 HKm
              have c0 := KC.out _ _ S2.out
              go_wp2_with fail
              · as_aux_lemma =>
                  go_round
                  case rel => exact ⟨j + 1, S, l, top, ch, A7, c7, V, by omega, by omega, by go_num, rfl, HD, S2⟩
                  case measure => simp only [intOf]; omega
              · as_aux_lemma =>
                  have hdr := g1.drop kk hkl
                  have hmd := drop_md g2 g3 3 kk
                  have HDr := Lib.hid (Drop_any gs S V g2 g3 3 kk w w2 (Asn.vec 44 3 (.slice A7 l.length c7) l.length (cells3 l) * Asn.emp) (S2.out.re (show _ = aSf gs S V * (Asn.vec 44 3 (.slice A7 l.length c7) l.length (cells3 l) * Asn.emp) by ac_rfl)))
                  generalize dropR S 3 kk = r at *
                  obtain ⟨re, rc⟩ := r
                  dsimp only at hdr hmd HDr
                  have HM := Lib.hid hmd
                  have HH := Lib.hid hdr
                  have HPs := Lib.hid (puts_md g2 g3 hmd.2)
                  unfold pgs at HDr
                  clear hdr hmd c0 S2
                  refine HDr.out.mono ?_
                  rintro e w3 ⟨v21, L, rfl, hpl, hX⟩
                  have hL3 : L.length ≤ 3 := by
                    have h1 := congrArg List.length hpl
                    have h2 := HM.out.1
                    simp only [plain, List.length_map] at h1
                    omega
                  obtain ⟨A21, c21, rfl⟩ := hX.vec.slice
                  clear HDr
                  rcases HH.out with ⟨rfl, hdn⟩ | rfl
                  · have HPu := Lib.hid (ShPut_own gs S V L L.length rfl (.slice A21 L.length c21) w w3 _ (by omega) (by rw [hpl]; exact fun x hx => (HM.out.2 x hx).1) hX)
                    rw [hpl] at HPu
                    unfold sPtr at HPu
                    have hle : (dropE l kk).1.length ≤ l.length := by rw [dropE_eq]; exact List.length_filter_le _ _
                    have HDn := Lib.hid (show DS (puts S rc) (dropE l kk).1 top ch from ⟨hdn, HPs.out.1, HPs.out.2, by omega, fun x hx => g5 x (by rw [dropE_eq] at hx; exact (List.mem_filter.1 hx).1)⟩)
                    clear hX hpl hdn HH
                    go_wp2_with fail
                    refine HPu.out.mono ?_
                    rintro e w4 ⟨rfl, V2, hX⟩
                    have S3 := Lib.hid (show Own w No w4 (aSf gs (puts S rc) V2 * (Asn.vec 44 3 (.slice A7 l.length c7) l.length (cells3 l) * Asn.emp)) from hX)
                    clear hX HPu
                    have HRd := Lib.hid (refDrop_any l kk (.slice A7 l.length c7) w4 (by omega) (Row3.of_vec S3.out.right.vec))
                    generalize dropE l kk = dd at *
                    obtain ⟨l2, fd⟩ := dd
                    dsimp only at HRd HDn
                    go_wp2_with fail
                    refine HRd.out.mono ?_
                    rintro e w5 ⟨v7, rfl, hX⟩
                    have hT := own_join S3.out hX
                    obtain ⟨A8, c8, rfl⟩ := hT.vec.slice
                    have S5 := Lib.hid (hT.re (show _ = Asn.vec 44 3 (.slice A7 l.length c7) l.length (cells3 l) * (Asn.vec 44 3 (.slice A8 l2.length c8) l2.length (cells3 l2) * (aSf gs (puts S rc) V2 * Asn.emp)) by ac_rfl)).right
                    clear hT hX S3 HRd
                    go_wp2_with fail
                    go_round
                    case rel => exact ⟨j + 1, puts S rc, l2, top, ch, A8, c8, V2, by omega, by omega, by go_num, rfl, HDn, S5⟩
                    case measure => simp only [intOf]; omega
                  · have S5 := Lib.hid (hX.right.right.re (show _ = Asn.vec 44 3 (.slice A7 l.length c7) l.length (cells3 l) * (aSf gs S V * Asn.emp) by ac_rfl))
                    clear hX hpl HH
                    go_wp2_with fail
                    go_round
                    case rel => exact ⟨j + 1, S, l, top, ch, A7, c7, V, by omega, by omega, by go_num, rfl, HD, S5⟩
                    case measure => simp only [intOf]; omega
end Go.Proofs.Ytfahgejiclgbfaa.Wk
