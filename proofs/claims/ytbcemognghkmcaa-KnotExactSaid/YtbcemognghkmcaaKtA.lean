/- Edges, in memory; the law's own pairs as edges. -/
import Derived.Test.YtbcemognghkmcaaMap
import Derived.Test.YtbcemognghkmcaaBld
import Derived.Test.YtbcemognghkmcaaAc
import Derived.Test.YtbcemognghkmcaaRow
import Derived.Test.YtbcemognghkmcaaStep
import Derived.Test.YtbcemognghkmcaaRows
import Derived.Deep.DeepCutAuto
import Derived.Deep.CutBlock
namespace Go.Proofs.Ytbcemognghkmcaa.Kt
open Go.ChangeShapes Go.WideShapes Go.ChangeAt Go.RowKit Go.PlainAid Aid
open Go.Maps (Keyed int_keyed)
set_option linter.unusedVariables false
set_option linter.unusedSimpArgs false
abbrev Edg := Int × Int
abbrev I64w (n : Int) : Prop := (Lit.int .i64 n).wf = true
def cellsE (es : List Edg) : List Value := es.flatMap fun e => [.int .i64 e.1, .int .i64 e.2]
theorem cellsE_len (es : List Edg) : (cellsE es).length = es.length * 2 := by
  induction es with
  | nil => rfl
  | cons e es ih => unfold cellsE at ih ⊢; rw [List.flatMap_cons, List.length_append, ih, List.length_cons]; simp; omega
theorem cellsE_snoc (es : List Edg) (e : Edg) : cellsE (es ++ [e]) = cellsE es ++ [.int .i64 e.1, .int .i64 e.2] := by
  unfold cellsE
  rw [List.flatMap_append]
  simp
theorem cellsE_at (es : List Edg) (k : Nat) (e : Edg) (h : es[k]? = some e) : (cellsE es)[k * 2]? = some (.int .i64 e.1) ∧ (cellsE es)[k * 2 + 1]? = some (.int .i64 e.2) := by
  induction es generalizing k with
  | nil => cases h
  | cons x es ih =>
    have hc : cellsE (x :: es) = .int .i64 x.1 :: .int .i64 x.2 :: cellsE es := rfl
    rw [hc]
    cases k with
    | zero => cases h; exact ⟨rfl, rfl⟩
    | succ k =>
      have := ih k h
      rw [show (k + 1) * 2 = k * 2 + 1 + 1 by omega]
      exact this
theorem cellsE_one (es : List Edg) : ∀ v, v ∈ cellsE es → v.oneCell' = true := by
  intro v hv
  unfold cellsE at hv
  obtain ⟨e, -, he⟩ := List.mem_flatMap.1 hv
  rcases List.mem_cons.1 he with rfl | he
  · rfl
  · rw [List.mem_singleton.1 he]; rfl
/-- Pairs of numbers, one behind the other. -/
def Prs (w : World) (A : Option Addr) (es : List Edg) : Prop := es = [] ∨ ∃ b o, A = some ⟨b, o, none⟩ ∧ b < w.heap.size ∧ ∀ (k : Nat) (x : Edg), es[k]? = some x → w.cell? ⟨b, o + k * 2, none⟩ = some (.int .i64 x.1) ∧ w.cell? ⟨b, o + k * 2 + 1, none⟩ = some (.int .i64 x.2)
theorem Prs.keep {w w' : World} {A : Option Addr} {es : List Edg} (h : Prs w A es) (hb : Below w.heap.size w w') : Prs w' A es := by
  rcases h with h | ⟨b, o, rfl, hl, hc⟩
  · exact Or.inl h
  · exact Or.inr ⟨b, o, rfl, Nat.lt_of_lt_of_le hl hb.size, fun k x hx => by rw [(bcell hb).1 _ _ hl, (bcell hb).1 _ _ hl]; exact hc k x hx⟩
theorem Prs.of_vec {w : World} {A : Option Addr} {c : Nat} {es : List Edg} {T : TypeId} (h : Vec w T 2 (.slice A es.length c) es.length (cellsE es)) : Prs w A es := by
  have hv := h
  rcases h.forms with ⟨he, hz⟩ | ⟨g, cap, he, hg, -⟩
  · exact Or.inl (List.eq_nil_of_length_eq_zero hz)
  · cases he
    refine Or.inr ⟨g, 0, rfl, hg, fun k x hx => ?_⟩
    obtain ⟨h1, h2⟩ := cellsE_at es k x hx
    rw [Nat.zero_add]
    exact ⟨hv.cell h1, hv.cell h2⟩
theorem blk_vec {g : Nat} {e : TypeId} {cs : List Value} (n size : Nat) (hl : cs.length = n * size) (hn : n ≤ maxLen) : Imp (Asn.blk g e cs.toArray) (Asn.vec e size (.slice (some ⟨g, 0, none⟩) n n) n cs) := fun w O h =>
  ⟨⟨hl, Or.inr ⟨g, n, cs.toArray, rfl, Nat.zero_le _, h.1, Nat.le_refl _, hn, by simp [hl], by rw [← hl]; simp⟩⟩, fun k => (h.2 k).trans ⟨fun e => by rw [e]; rfl, fun hk => (Option.some.inj hk).symm⟩⟩
theorem info_edge : (Try.prog.info? 36).map (fun i => (i.zero, i.size, i.bytes)) = some (some (.agg #[.int .i64 0, .int .i64 0]), 2, 16) := by kernel_rfl
theorem take_snoc {α : Type} (l : List α) (k : Nat) (x : α) (h : l[k]? = some x) : l.take (k + 1) = l.take k ++ [x] := by rw [List.take_add_one, h]; rfl
set_option maxRecDepth 100000 in
set_option maxHeartbeats 8000000 in
theorem edges_any (A : Option Addr) (c : Nat) (es : List Edg) (w : World) (h : Prs w A es) (hn : es.length ≤ 1000) :
    Calls Try.prog 5 #[.slice A es.length c] w fun e w' => ∃ v, e = .returned v ∧ Aid.Own w No w' (Asn.vec 36 2 v es.length (cellsE es) * Asn.emp) := by
  have HP := Lib.hid h
  have S0 := Lib.hid (((Aid.Own.none w).alloc #[] 36).imp (Imp.l (blk_vec (cs := []) 0 2 rfl (by decide))))
  clear h
  go_enter Try.func5, Try.ntmps5
  go_wp2_with fail
  go_loopw [3, 4] (fun s i wr => ∃ k : Nat, k ≤ es.length ∧ i = .int .i64 k ∧ Hid (Aid.Own w No wr (Asn.vec 36 2 s k (cellsE (es.take k)) * Asn.emp))) (fun _ i _ => es.length - (intOf i).toNat)
  case atStart => exact ⟨0, Nat.zero_le _, rfl, S0⟩
  case round =>
    clear S0
    obtain ⟨k, hk, rfl, S⟩ := hrel
    by_cases hlt : k < es.length
    · obtain ⟨x, hx⟩ : ∃ x, es[k]? = some x := ⟨es[k]'hlt, List.getElem?_eq_getElem _⟩
      rcases HP.out with e | ⟨b, o, rfl, hb, hc⟩
      · rw [e] at hlt; simp at hlt
      have FC : Hid (∀ (W : World), Below w.heap.size w W → W.cell? ⟨b, o + k * 2, none⟩ = some (.int .i64 x.1) ∧ W.cell? ⟨b, o + k * 2 + 1, none⟩ = some (.int .i64 x.2)) := Lib.hid fun W hB => by
        rw [(bcell hB).1 _ _ hb, (bcell hB).1 _ _ hb]; exact hc k x hx
      have HX := Lib.hid hx
      clear hc hx
      obtain ⟨A1, c1, hs1⟩ := S.out.vec.slice
      subst hs1
      go_wp2_with fail
      refine wp_region_held_drew (S := fun W' : World => W'.cell? ⟨b, o + k * 2, none⟩ = some (.int .i64 x.1) ∧ W'.cell? ⟨b, o + k * 2 + 1, none⟩ = some (.int .i64 x.2)) (by kernel_rfl) (FC.out _ S.out.drew.bel) (fun hHeld => ?_)
      have S1 := Lib.hid S.out.drew
      clear S
      generalize wr.drew = wd at *
      refine' wpAnyH_take (i := 0) (oi := ?ot1z0) (v := ?vt1z0) ?ht1z0 ?st1z0 ?ft1z0 ?zt1z0 ?qt1z0 ?yt1z0 ?at1z0 ?rt1z0
      case ht1z0 => (simp only [List.getElem?_toArray, List.getElem?_cons_succ, List.getElem?_cons_zero]; rfl)
      case st1z0 => kernel_rfl
      case ft1z0 => kernel_rfl
      case zt1z0 => kernel_rfl
      case qt1z0 => exact fun _ _ _ h => h
      case yt1z0 => (refine Or.inl ⟨rfl, ?_⟩; intro w hSw; obtain ⟨hS1, hS2⟩ := hSw; go_simp; try with_reducible rfl)
      case at1z0 => assumption
      case rt1z0 =>
      simp only [Act.put, List.setIfInBounds_toArray, List.set_cons_zero, List.set_cons_succ]
      refine' wpAnyH_take (i := 1) (oi := ?ot2z1) (v := ?vt2z1) ?ht2z1 ?st2z1 ?ft2z1 ?zt2z1 ?qt2z1 ?yt2z1 ?at2z1 ?rt2z1
      case ht2z1 => (simp only [List.getElem?_toArray, List.getElem?_cons_succ, List.getElem?_cons_zero]; rfl)
      case st2z1 => kernel_rfl
      case ft2z1 => kernel_rfl
      case zt2z1 => kernel_rfl
      case qt2z1 => exact fun _ _ _ h => h
      case yt2z1 => (refine Or.inl ⟨rfl, ?_⟩; intro w hSw; obtain ⟨hS1, hS2⟩ := hSw; go_simp; try with_reducible rfl)
      case at2z1 => assumption
      case rt2z1 =>
      simp only [Act.put, List.setIfInBounds_toArray, List.set_cons_zero, List.set_cons_succ]
      refine' wpAnyH_take (i := 2) (oi := ?ot3z2) (v := ?vt3z2) ?ht3z2 ?st3z2 ?ft3z2 ?zt3z2 ?qt3z2 ?yt3z2 ?at3z2 ?rt3z2
      case ht3z2 => (simp only [List.getElem?_toArray, List.getElem?_cons_succ, List.getElem?_cons_zero]; rfl)
      case st3z2 => kernel_rfl
      case ft3z2 => kernel_rfl
      case zt3z2 => kernel_rfl
      case qt3z2 => exact fun _ _ _ h => h
      case yt3z2 => (refine Or.inl ⟨rfl, ?_⟩; intro w hSw; obtain ⟨hS1, hS2⟩ := hSw; go_simp; try with_reducible rfl)
      case at3z2 => assumption
      case rt3z2 =>
      simp only [Act.put, List.setIfInBounds_toArray, List.set_cons_zero, List.set_cons_succ]
      refine' wpAnyH_take (i := 3) (oi := ?ot4z3) (v := ?vt4z3) ?ht4z3 ?st4z3 ?ft4z3 ?zt4z3 ?qt4z3 ?yt4z3 ?at4z3 ?rt4z3
      case ht4z3 => (simp only [List.getElem?_toArray, List.getElem?_cons_succ, List.getElem?_cons_zero]; rfl)
      case st4z3 => kernel_rfl
      case ft4z3 => kernel_rfl
      case zt4z3 => kernel_rfl
      case qt4z3 => exact fun _ _ _ h => h
      case yt4z3 => (refine Or.inl ⟨rfl, ?_⟩; intro w hSw; obtain ⟨hS1, hS2⟩ := hSw; go_simp; try with_reducible rfl)
      case at4z3 => assumption
      case rt4z3 =>
      simp only [Act.put, List.setIfInBounds_toArray, List.set_cons_zero, List.set_cons_succ]
      refine' wpAnyH_take (i := 4) (oi := ?ot5z4) (v := ?vt5z4) ?ht5z4 ?st5z4 ?ft5z4 ?zt5z4 ?qt5z4 ?yt5z4 ?at5z4 ?rt5z4
      case ht5z4 => (simp only [List.getElem?_toArray, List.getElem?_cons_succ, List.getElem?_cons_zero]; rfl)
      case st5z4 => kernel_rfl
      case ft5z4 => kernel_rfl
      case zt5z4 => kernel_rfl
      case qt5z4 => exact fun _ _ _ h => h
      case yt5z4 => (refine Or.inl ⟨rfl, ?_⟩; intro w hSw; obtain ⟨hS1, hS2⟩ := hSw; go_simp; try with_reducible rfl)
      case at5z4 => assumption
      case rt5z4 =>
      simp only [Act.put, List.setIfInBounds_toArray, List.set_cons_zero, List.set_cons_succ]
      refine' wpAnyH_take (i := 5) (oi := ?ot6z5) (v := ?vt6z5) ?ht6z5 ?st6z5 ?ft6z5 ?zt6z5 ?qt6z5 ?yt6z5 ?at6z5 ?rt6z5
      case ht6z5 => (simp only [List.getElem?_toArray, List.getElem?_cons_succ, List.getElem?_cons_zero]; rfl)
      case st6z5 => kernel_rfl
      case ft6z5 => kernel_rfl
      case zt6z5 => kernel_rfl
      case qt6z5 => exact fun _ _ _ h => h
      case yt6z5 => (refine Or.inl ⟨rfl, ?_⟩; intro w hSw; obtain ⟨hS1, hS2⟩ := hSw; go_simp; try with_reducible rfl)
      case at6z5 => assumption
      case rt6z5 =>
      simp only [Act.put, List.setIfInBounds_toArray, List.set_cons_zero, List.set_cons_succ]
      refine' wpAnyH_take (i := 6) (oi := ?ot7z6) (v := ?vt7z6) ?ht7z6 ?st7z6 ?ft7z6 ?zt7z6 ?qt7z6 ?yt7z6 ?at7z6 ?rt7z6
      case ht7z6 => (simp only [List.getElem?_toArray, List.getElem?_cons_succ, List.getElem?_cons_zero]; rfl)
      case st7z6 => kernel_rfl
      case ft7z6 => kernel_rfl
      case zt7z6 => kernel_rfl
      case qt7z6 => exact fun _ _ _ h => h
      case yt7z6 => (refine Or.inl ⟨rfl, ?_⟩; intro w hSw; obtain ⟨hS1, hS2⟩ := hSw; go_simp; try with_reducible rfl)
      case at7z6 => assumption
      case rt7z6 =>
      simp only [Act.put, List.setIfInBounds_toArray, List.set_cons_zero, List.set_cons_succ]
      refine' wpAnyH_take (i := 7) (oi := ?ot8z7) (v := ?vt8z7) ?ht8z7 ?st8z7 ?ft8z7 ?zt8z7 ?qt8z7 ?yt8z7 ?at8z7 ?rt8z7
      case ht8z7 => (simp only [List.getElem?_toArray, List.getElem?_cons_succ, List.getElem?_cons_zero]; rfl)
      case st8z7 => kernel_rfl
      case ft8z7 => kernel_rfl
      case zt8z7 => kernel_rfl
      case qt8z7 => exact fun _ _ _ h => h
      case yt8z7 => (refine Or.inl ⟨rfl, ?_⟩; intro w hSw; obtain ⟨hS1, hS2⟩ := hSw; go_simp; try with_reducible rfl)
      case at8z7 => assumption
      case rt8z7 =>
      simp only [Act.put, List.setIfInBounds_toArray, List.set_cons_zero, List.set_cons_succ]
      refine' wpAnyH_take (i := 8) (oi := ?ot9z8) (v := ?vt9z8) ?ht9z8 ?st9z8 ?ft9z8 ?zt9z8 ?qt9z8 ?yt9z8 ?at9z8 ?rt9z8
      case ht9z8 => (simp only [List.getElem?_toArray, List.getElem?_cons_succ, List.getElem?_cons_zero]; rfl)
      case st9z8 => kernel_rfl
      case ft9z8 => kernel_rfl
      case zt9z8 => kernel_rfl
      case qt9z8 => exact fun _ _ _ h => h
      case yt9z8 => (refine Or.inl ⟨rfl, ?_⟩; intro w hSw; obtain ⟨hS1, hS2⟩ := hSw; go_simp; try with_reducible rfl)
      case at9z8 => assumption
      case rt9z8 =>
      simp only [Act.put, List.setIfInBounds_toArray, List.set_cons_zero, List.set_cons_succ]
      refine' wpAnyH_take (i := 9) (oi := ?ot10z9) (v := ?vt10z9) ?ht10z9 ?st10z9 ?ft10z9 ?zt10z9 ?qt10z9 ?yt10z9 ?at10z9 ?rt10z9
      case ht10z9 => (simp only [List.getElem?_toArray, List.getElem?_cons_succ, List.getElem?_cons_zero]; rfl)
      case st10z9 => kernel_rfl
      case ft10z9 => kernel_rfl
      case zt10z9 => kernel_rfl
      case qt10z9 => exact fun _ _ _ h => h
      case yt10z9 => (refine Or.inl ⟨rfl, ?_⟩; intro w hSw; obtain ⟨hS1, hS2⟩ := hSw; go_simp; try with_reducible rfl)
      case at10z9 => assumption
      case rt10z9 =>
      simp only [Act.put, List.setIfInBounds_toArray, List.set_cons_zero, List.set_cons_succ]
      refine' wpAnyH_take (i := 10) (oi := ?ot11z10) (v := ?vt11z10) ?ht11z10 ?st11z10 ?ft11z10 ?zt11z10 ?qt11z10 ?yt11z10 ?at11z10 ?rt11z10
      case ht11z10 => (simp only [List.getElem?_toArray, List.getElem?_cons_succ, List.getElem?_cons_zero]; rfl)
      case st11z10 => kernel_rfl
      case ft11z10 => kernel_rfl
      case zt11z10 => kernel_rfl
      case qt11z10 => exact fun _ _ _ h => h
      case yt11z10 => (refine Or.inl ⟨rfl, ?_⟩; intro w hSw; obtain ⟨hS1, hS2⟩ := hSw; go_simp; try with_reducible rfl)
      case at11z10 => assumption
      case rt11z10 =>
      simp only [Act.put, List.setIfInBounds_toArray, List.set_cons_zero, List.set_cons_succ]
      refine' wpAnyH_take (i := 11) (oi := ?ot12z11) (v := ?vt12z11) ?ht12z11 ?st12z11 ?ft12z11 ?zt12z11 ?qt12z11 ?yt12z11 ?at12z11 ?rt12z11
      case ht12z11 => (simp only [List.getElem?_toArray, List.getElem?_cons_succ, List.getElem?_cons_zero]; rfl)
      case st12z11 => kernel_rfl
      case ft12z11 => kernel_rfl
      case zt12z11 => kernel_rfl
      case qt12z11 => exact fun _ _ _ h => h
      case yt12z11 => (refine Or.inl ⟨rfl, ?_⟩; intro w hSw; obtain ⟨hS1, hS2⟩ := hSw; go_simp; try with_reducible rfl)
      case at12z11 => assumption
      case rt12z11 =>
      simp only [Act.put, List.setIfInBounds_toArray, List.set_cons_zero, List.set_cons_succ]
      refine wpAnyH_ready (rs := [12]) (by kernel_rfl) (by simp) ?_
      refine' AllReadyH.cons (o := ?ob13z12) ?hb13z12 ?kb13z12 AllReadyH.nil
      case hb13z12 => (simp only [List.getElem?_toArray, List.getElem?_cons_succ, List.getElem?_cons_zero]; rfl)
      case kb13z12 =>
        intro K0 hK
        go_simp
        have S2 := Lib.hid (S1.out.alloc #[.int .i64 x.1, .int .i64 x.2] 36)
        obtain ⟨ge, hgz⟩ : ∃ g, g = wd.heap.size := ⟨_, rfl⟩
        rw [← hgz] at S2 ⊢
        clear hgz S1
        generalize wd.alloc _ = w2 at *
        have hbk := S2.out.has (Has.l (has_blk _ _ _))
        have CX : Hid (Src Try.prog 2 24 (.slice (some ⟨ge, 0, none⟩) 1 1) 1 [.int .i64 x.1, .int .i64 x.2] w2) := Lib.hid (Src.ofSlice _ Try.underlying24 ⟨ge, 0, none⟩ 1 1 [.int .i64 x.1, .int .i64 x.2] rfl (fun j u hj => by
          rw [Addr.add_lit, Nat.zero_add, hbk.cell]
          simpa using hj) (fun u hu => by rcases List.mem_cons.1 hu with rfl | hu; rfl; rw [List.mem_singleton.1 hu]; rfl))
        clear hbk
        refine hK.out _ _ ?_ (fun hHeld => ?_)
        · exact FC.out _ S2.out.bel
        clear hK K0
        (try simp only [Act.put, List.setIfInBounds_toArray, List.set_cons_zero, List.set_cons_succ])
        (try clear hH2)
        refine wpAnyH_ready (rs := [13]) (by kernel_rfl) (by simp) ?_
        refine' AllReadyH.cons (o := ?ob15z13) ?hb15z13 ?kb15z13 AllReadyH.nil
        case hb15z13 => (simp only [List.getElem?_toArray, List.getElem?_cons_succ, List.getElem?_cons_zero]; rfl)
        case kb15z13 =>
          intro K0 hK
          with_reducible refine step_append_vec rfl (.tmp 12) (.tmp 24) 24 24 rfl 36 _ 2 16 Try.underlying24 info_edge rfl (by decide) (.slice A1 k c1) k (cellsE (es.take k)) rfl S2.out.right.vec (.slice (some ⟨ge, 0, none⟩) 1 1) rfl 1 _ CX.out (by unfold maxLen; omega) (by omega) ?_
          intro v' w3 hv3 hc3 hf3
          have S3 := Lib.hid (S2.out.right.app hv3 hc3 hf3)
          obtain ⟨A3, c3, rfl⟩ := hv3.slice
          clear S2 CX hv3 hc3 hf3
          refine hK.out _ _ ?_ (fun hHeld => ?_)
          · exact FC.out _ S3.out.bel
          clear hK K0
          (try simp only [Act.put, List.setIfInBounds_toArray, List.set_cons_zero, List.set_cons_succ])
          (try clear hH2)
          refine' wpAnyH_take (i := 14) (oi := ?ot17z14) (v := ?vt17z14) ?ht17z14 ?st17z14 ?ft17z14 ?zt17z14 ?qt17z14 ?yt17z14 ?at17z14 ?rt17z14
          case ht17z14 => (simp only [List.getElem?_toArray, List.getElem?_cons_succ, List.getElem?_cons_zero]; rfl)
          case st17z14 => kernel_rfl
          case ft17z14 => kernel_rfl
          case zt17z14 => kernel_rfl
          case qt17z14 => exact fun _ _ _ h => h
          case yt17z14 => (refine Or.inl ⟨rfl, ?_⟩; intro w hSw; obtain ⟨hS1, hS2⟩ := hSw; go_simp; try with_reducible rfl)
          case at17z14 => assumption
          case rt17z14 =>
          simp only [Act.put, List.setIfInBounds_toArray, List.set_cons_zero, List.set_cons_succ]
          refine wpAnyH_done (by kernel_rfl) ?_ _
          have hcs : cellsE (es.take (k + 1)) = cellsE (es.take k) ++ [.int .i64 x.1, .int .i64 x.2] := by rw [take_snoc es k x HX.out, cellsE_snoc]
          rw [← hcs] at S3
          clear hcs
          go_wp2_with fail
          go_roundw
          case rel => exact ⟨k + 1, by omega, by go_num, S3⟩
          case measure => simp [intOf]; omega
    · obtain rfl : k = es.length := by omega
      go_wp2_with fail
      go_returns
      have S2 := S.out
      rw [List.take_length] at S2
      exact ⟨_, rfl, S2⟩
end Go.Proofs.Ytbcemognghkmcaa.Kt
