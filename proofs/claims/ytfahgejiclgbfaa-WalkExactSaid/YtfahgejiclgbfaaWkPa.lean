/- The walk of WalkParts. -/
import Derived.Test.YtfahgejiclgbfaaWkH
import Derived.Test.YtfahgejiclgbfaaWkX
namespace Go.Proofs.Ytfahgejiclgbfaa.Wk
open Go.ChangeShapes Go.WideShapes Go.ChangeAt Go.RowKit Go.PlainAid Aid Nt Nd Tr Bk
open Ky (keyZ)
set_option linter.unusedVariables false
set_option linter.unusedSimpArgs false
set_option linter.unusedSectionVars false
theorem IntRow.keep {w w' : World} {A : Option Addr} {m : Nat} {z : Nat → Int} (h : IntRow w A m z) (hb : Below w.heap.size w w') : IntRow w' A m z := by
  rcases h with h | ⟨b, o, rfl, hl, hc, hz⟩
  · exact Or.inl h
  · exact Or.inr ⟨b, o, rfl, Nat.lt_of_lt_of_le hl hb.size, fun i hi => by rw [(bcell hb).1 _ _ hl]; exact hc i hi, hz⟩
/-- What grown does. -/
def Grown : Prop := ∀ (A : Option Addr) (m c : Nat) (z : Nat → Int) (dr : Int) (w : World), m ≤ maxLen → IntRow w A m z →
    Calls Try.prog 32 #[.slice A m c, .int .i64 dr] w fun r w' => ∃ gs V S l top ch A' c', r = .returned (.tuple #[sPtr gs, .slice A' l.length c']) ∧ Dn S l top ch ∧ Sm S ∧ LvOk S ∧ l.length ≤ 60 ∧ (∀ e, e ∈ l → lt low e.key = true) ∧
      Own w No w' (Asn.vec 44 3 (.slice A' l.length c') l.length (cells3 l) * (aSf gs S V * Asn.emp))
theorem src_vecW {P : Program} {size n : Nat} {tx e' T : TypeId} (hk : P.underlying tx = some (.slice e')) {W : World} {v : Value} {xs : List Value} (h : Vec W T size v n xs) (hu : ∀ u, u ∈ xs → u.oneCell' = true) : Src P size tx v n xs W := by
  have hl := h.len
  rcases h.forms with ⟨rfl, rfl⟩ | ⟨g, cap, rfl, -, -, -⟩
  · obtain rfl : xs = [] := List.eq_nil_of_length_eq_zero (by simpa using hl)
    exact Src.ofNil W hk 0
  · exact Src.ofSlice _ hk _ n cap _ hl (fun j u hj => by rw [addr_zero]; exact h.cell hj) hu
theorem wpList_yes {P : Program} {ops : Array Oper} {rest : List Oper} {o : Oper} {a : Act} {Q : Exit → Act → World → Prop} {w : World} (hw : Region.wanted o (yielded ops a.tmps) = true)
    (h : ∀ K : Act → World → Prop, (∀ a w, wpList P ops Q rest a w → K a w) → o.wp P a w K Q) : wpList P ops Q (o :: rest) a w :=
  wpList_step fun K hK => by rw [if_pos hw]; exact h K hK
/-- append(s, x) behind a guard that says yes: s a row that something owns. -/
theorem wpList_append_yes {P : Program} {ops : Array Oper} {rest : List Oper} {o : Oper} {a : Act} {Q : Exit → Act → World → Prop} {w : World} (hw : Region.wanted o (yielded ops a.tmps) = true) (s x : Operand) (t tx : TypeId)
    (ho : o.op = .call { callee := .builtin .append, args := #[s, x], argTypes := #[t, tx] })
    (e : TypeId) (z : Value) (size bytes : Nat) (ht : P.underlying t = some (.slice e)) (hinfo : (P.info? e).map (fun i => (i.zero, i.size, i.bytes)) = some (some z, size, bytes)) (hzs : z.cells.size = size) (hsz : 0 < size)
    (v : Value) (n : Nat) (xs : List Value) (hs : a.eval s = v) (hown : Vec w e size v n xs) (xv : Value) (hx : a.eval x = xv) (m : Nat) (news : List Value) (hsrc : Src P size tx xv m news w)
    (h63 : n + m ≤ maxLen) (hbytes : (n + m) * bytes ≤ 140737488355328)
    (h : ∀ v' w', Vec w' e size v' (n + m) (xs ++ news) → Chg (VB v) w w' → Fresh w (VB v) (VB v') → wpList P ops Q rest (a.put o.dst v') w') : wpList P ops Q (o :: rest) a w := by
  obtain ⟨i, hi, hzz⟩ := Option.map_eq_some_iff.1 hinfo
  simp only [Prod.mk.injEq] at hzz
  obtain ⟨hz, rfl, rfl⟩ := hzz
  refine wpList_yes hw fun K hK => ?_
  obtain ⟨v', w', hr, h2, h3, h4⟩ := run_append_vec (P := P) w t tx o.type e i z ht hi hz hzs hsz v n xs hown xv m news hsrc h63 hbytes
  unfold Oper.wp execOp
  simp only [ho, resolve, invoke, builtin, Sem.run_bind, Sem.run_pure, Result.andThen_ok, List.map_toArray, List.map_cons, List.map_nil, hs, hx, hr]
  exact hK _ _ (h v' w' h2 h3 h4)
set_option maxRecDepth 100000 in
set_option maxHeartbeats 32000000 in
theorem parts_walk (HG : Grown) (A : Option Addr) (m c : Nat) (z : Nat → Int) (dr lo mi hi : Int) (w : World) (hm : m ≤ maxLen) (hR : IntRow w A m z)
    (l1 : -9223372036854775808 ≤ lo) (l2 : lo ≤ 9223372036854775807) (m1 : -9223372036854775808 ≤ mi) (m2 : mi ≤ 9223372036854775807) (h1 : -9223372036854775808 ≤ hi) (h2 : hi ≤ 9223372036854775807) :
    Calls Try.prog 9 #[.slice A m c, .int .i64 dr, .int .i64 lo, .int .i64 mi, .int .i64 hi] w fun e w' => e = .returned (.bool true) ∧ Below w.heap.size w w' := by
  have HR := Lib.hid hR
  have HAw := Lib.hid (awake11_any w)
  clear hR
  go_enter Try.func9, Try.ntmps9
  go_wp2_with fail
  refine HAw.out.mono ?_
  rintro e w1 ⟨rfl, hX⟩
  have S1 := Lib.hid (Own.of_below hX)
  clear hX HAw
  by_cases hc : mi < lo
  · as_aux_lemma =>
      go_wp2_with fail
      go_returns
      exact ⟨rfl, S1.out.bel⟩
  by_cases hd : hi ≤ mi
  · as_aux_lemma =>
      go_wp2_with fail
      go_returns
      exact ⟨rfl, S1.out.bel⟩
  have HGr := Lib.hid (HG A m c z dr w1 hm (HR.out.keep S1.out.bel))
  go_wp2_with fail
  refine HGr.out.mono ?_
  rintro e w2 ⟨gs, V, S, l, top, ch, A', c', rfl, hdn, hsm, hlv, hl60, -, hX⟩
  have S2 := Lib.hid (own_join S1.out hX).left.right
  clear hX S1 HGr HR
  have hra := hdn.range (keyZ lo) (keyZ mi) (key_low _) (key_low _)
  have hgl : (gapK l (keyZ mi)).length = 9 := gap_len hdn.len _
  have hga := hdn.gap (keyZ mi) (key_low _)
  have hrb := hdn.range (gapK l (keyZ mi)) (keyZ hi) (low_le _ hgl) (key_low _)
  have hrc := hdn.range (keyZ lo) (keyZ hi) (key_low _) (key_low _)
  have hmeet := ranges_meet hdn.srt (keyZ lo) (keyZ mi) (keyZ hi) (key_le (by omega) l1 m2) (key_le (by omega) m1 h2) (key_end mi)
  have H1 := Lib.hid (fun W C h => Range_any gs S V hsm hlv 3 (keyZ lo) (keyZ mi) w W C h)
  have H2 := Lib.hid (fun W C h => Gap_any gs S V hsm hlv 3 (keyZ mi) w W C h)
  have H3 := Lib.hid (fun W C h => Range_any gs S V hsm hlv 3 (gapK l (keyZ mi)) (keyZ hi) w W C h)
  have H4 := Lib.hid (fun W C h => Range_any gs S V hsm hlv 3 (keyZ lo) (keyZ hi) w W C h)
  have hl1 : (btw (keyZ lo) (keyZ mi) l).length ≤ 60 := Nat.le_trans (btw_len _ _ _) hl60
  have hl2 : (btw (gapK l (keyZ mi)) (keyZ hi) l).length ≤ 60 := Nat.le_trans (btw_len _ _ _) hl60
  rw [hra] at H1
  rw [hga] at H2
  rw [hrb] at H3
  rw [hrc] at H4
  dsimp only at H1 H2 H3 H4
  unfold pgs at H1 H2 H3 H4
  clear hra hgl hga hrb hrc hsm hlv hdn hl60
  generalize btw (keyZ lo) (keyZ mi) l = EA at *
  generalize btw (gapK l (keyZ mi)) (keyZ hi) l = EB at *
  rw [← hmeet] at H4
  clear hmeet
  generalize ofL (gapK l (keyZ mi)) = g1 at *
  generalize ofL (gapK l (keyZ hi)) = g2 at *
  unfold sPtr
  go_wp2_with fail
  refine (key11_any lo _ l1 l2).mono ?_
  rintro e w3 ⟨rfl, hX⟩
  have S3 := Lib.hid (S2.out.below hX)
  clear hX S2 
  go_wp2_with fail
  refine (key11_any mi _ m1 m2).mono ?_
  rintro e w4 ⟨rfl, hX⟩
  have S4 := Lib.hid (S3.out.below hX)
  clear hX S3 
  go_wp2_with fail
  refine (H1.out _ _ S4.out).mono ?_
  rintro e w5 ⟨v13, rfl, hX⟩
  obtain ⟨A13, c13, rfl⟩ := hX.vec.slice
  have S5 := Lib.hid (hX.re (show _ = aSf gs S V * (Asn.vec 44 3 (.slice A13 EA.length c13) EA.length (cells3 EA) * Asn.emp) by ac_rfl))
  clear hX S4 H1
  go_wp2_with fail
  refine (key11_any mi _ m1 m2).mono ?_
  rintro e w6 ⟨rfl, hX⟩
  have S6 := Lib.hid (S5.out.below hX)
  clear hX S5 
  go_wp2_with fail
  refine (H2.out _ _ S6.out).mono ?_
  rintro e w7 ⟨rfl, hX⟩
  have S7 := Lib.hid hX
  clear hX S6 H2
  go_wp2_with fail
  refine (key11_any hi _ h1 h2).mono ?_
  rintro e w8 ⟨rfl, hX⟩
  have S8 := Lib.hid (S7.out.below hX)
  clear hX S7 
  go_wp2_with fail
  refine (H3.out _ _ S8.out).mono ?_
  rintro e w9 ⟨v18, rfl, hX⟩
  obtain ⟨A18, c18, rfl⟩ := hX.vec.slice
  have S9 := Lib.hid (hX.re (show _ = aSf gs S V * (Asn.vec 44 3 (.slice A13 EA.length c13) EA.length (cells3 EA) * (Asn.vec 44 3 (.slice A18 EB.length c18) EB.length (cells3 EB) * Asn.emp)) by ac_rfl))
  clear hX S8 H3
  go_wp2_with fail
  refine (key11_any lo _ l1 l2).mono ?_
  rintro e wa ⟨rfl, hX⟩
  have Sa := Lib.hid (S9.out.below hX)
  clear hX S9 
  go_wp2_with fail
  refine (key11_any hi _ h1 h2).mono ?_
  rintro e wb ⟨rfl, hX⟩
  have Sb := Lib.hid (Sa.out.below hX)
  clear hX Sa 
  go_wp2_with fail
  refine (H4.out _ _ Sb.out).mono ?_
  rintro e wc ⟨v21, rfl, hX⟩
  obtain ⟨A21, c21, rfl⟩ := hX.vec.slice
  have Sc := Lib.hid (hX.re (show _ = aSf gs S V * (Asn.vec 44 3 (.slice A21 (EA ++ EB).length c21) (EA ++ EB).length (cells3 (EA ++ EB)) * (Asn.vec 44 3 (.slice A13 EA.length c13) EA.length (cells3 EA) * (Asn.vec 44 3 (.slice A18 EB.length c18) EB.length (cells3 EB) * Asn.emp))) by ac_rfl)).right
  clear hX Sb H4
  have Sd := Lib.hid ((Sc.out.alloc #[] 44).imp (Imp.l (blk_vec (cs := []) 0 3 rfl (by decide))))
  have hw1 : ∀ W D, Own w No W (Asn.vec 44 3 (.slice A21 (EA ++ EB).length c21) (EA ++ EB).length (cells3 (EA ++ EB)) * (Asn.vec 44 3 (.slice A13 EA.length c13) EA.length (cells3 EA) * (Asn.vec 44 3 (.slice A18 EB.length c18) EB.length (cells3 EB) * D))) → Src Try.prog 3 27 (.slice A13 EA.length c13) EA.length (cells3 EA) W ∧ Src Try.prog 3 27 (.slice A18 EB.length c18) EB.length (cells3 EB) W :=
    fun W D h => ⟨src_vecW Try.underlying27 h.right.vec (ents_one _), src_vecW Try.underlying27 h.right.right.vec (ents_one _)⟩
  have CX := Lib.hid (hw1 _ _ Sd.out.right).1
  have HW1 := Lib.hid hw1
  clear Sc hw1
  go_wp2_with (with_reducible refine wpList_append_yes ?d0 (.tmp 107) (.tmp 108) 27 27 rfl 44 _ 3 40 Try.underlying27 info_entry ?d1 ?d2 (.slice (some ⟨wc.heap.size, 0, none⟩) 0 0) 0 [] ?d7 Sd.out.vec (.slice A13 EA.length c13) ?d8 EA.length _ CX.out ?d3 ?d4 ?_)
  try (case d0 => rfl)
  case d1 => rfl
  case d2 => decide
  case d3 => unfold maxLen; omega
  case d4 => omega
  case d7 => rfl
  case d8 => rfl
  intro v' w8 hv8 hc8 hf8
  have Se := Lib.hid (Sd.out.app hv8 hc8 hf8)
  obtain ⟨A8, c8, rfl⟩ := hv8.slice
  clear Sd CX hv8 hc8 hf8
  have CX := Lib.hid (HW1.out _ _ Se.out.right).2
  go_wp2_with (at_builtin; refine (fun (h : True → _) => h trivial) ?_)
  intro _
  apply wpList_append_yes (s := .tmp 109) (x := .tmp 110) (t := 27) (tx := 27) (e := 44) (z := .agg #[.string ⟨#[]⟩, .string ⟨#[]⟩, .bool false]) (size := 3) (bytes := 40) (v := .slice A8 EA.length c8) (n := EA.length) (xs := cells3 EA) (xv := .slice A18 EB.length c18) (m := EB.length) (news := cells3 EB)
  case hw => rfl
  case ho => rfl
  case ht => exact Try.underlying27
  case hinfo => exact info_entry
  case hzs => rfl
  case hsz => decide
  case hs => rfl
  case hown => exact Se.out.vec
  case hx => rfl
  case hsrc => exact CX.out
  case h63 => unfold maxLen; omega
  case hbytes => omega
  intro v' w9 hv9 hc9 hf9
  have hv10 : Vec w9 44 3 v' (EA ++ EB).length (cells3 (EA ++ EB)) := by rw [cells3_app, List.length_append]; exact hv9
  have Sf := Lib.hid (Se.out.app hv10 hc9 hf9)
  obtain ⟨A9, c9, rfl⟩ := hv10.slice
  clear Se CX HW1 hv9 hv10 hc9 hf9
  have HSm := Lib.hid (same10_any (EA ++ EB) (.slice A9 (EA ++ EB).length c9) (.slice A21 (EA ++ EB).length c21) w9 (Row3.of_vec Sf.out.vec) (Row3.of_vec Sf.out.right.vec))
  rw [List.length_append] at HSm ⊢
  go_wp2_with fail
  refine HSm.out.mono ?_
  rintro e wz ⟨rfl, hX⟩
  have Sz := Lib.hid (own_join Sf.out hX)
  clear hX Sf HSm
  go_wp2_with fail
  go_returns
  exact ⟨by simp, Sz.out.bel⟩
end Go.Proofs.Ytfahgejiclgbfaa.Wk
