/- Texts of ours, joined. -/
import Derived.Test.YtfahgejiclgbfaaBkVd
import Derived.Test.YtfahgejiclgbfaaWkT
import Derived.Test.YtfahgejiclgbfaaBkAw
import Derived.Test.YtfahgejiclgbfaaBkDr
import Derived.Test.YtfahgejiclgbfaaWkB
import Derived.Test.YtfahgejiclgbfaaBkPu
import Derived.Test.YtfahgejiclgbfaaWkH
import Derived.Test.YtfahgejiclgbfaaMnB

-- joined
section
namespace Go.Proofs.Ytfahgejiclgbfaa.Wk
open Aid Nt Nd Bk
open Ky (keyZ)
set_option linter.unusedVariables false
set_option linter.unusedSimpArgs false
set_option linter.unusedSectionVars false
def Md (n : Nod) : Prop := n.list.length ≤ 99999 ∧ Low63 n
section
variable {S : Sf} (hs : Sm S) (hv : LvOk S)
include hs hv
theorem so_md (r lv : Int) (key : By) : Md (so S r lv key).nd :=
  so_P (Pr := Md) ⟨by decide, show (0 : Int) ≤ 9223372036854775807 by decide⟩ (fun p hp => ⟨hs p hp, hv p hp⟩) r lv key
theorem put_md (r : Int) (e : Ent) : (putR S r e).2.length ≤ 3 ∧ ∀ x, x ∈ (putR S r e).2 → Md x.2 := by
  have h2 := (so_md hs hv r 0 e.key).2
  unfold putR
  split
  · split
    · split
      · rename_i hf
        refine ⟨by simp, fun x hx => ?_⟩
        obtain rfl := List.mem_singleton.1 hx
        exact ⟨Nat.le_trans (fits_len hf) (by decide), h2⟩
      · exact ⟨by simp, fun x hx => by cases hx⟩
    · exact ⟨by simp, fun x hx => by cases hx⟩
  · exact ⟨by simp, fun x hx => by cases hx⟩
theorem hang_md (r lv : Int) (key : By) (page : Int) : (hangR S r lv key page).2.length ≤ 3 ∧ ∀ x, x ∈ (hangR S r lv key page).2 → Md x.2 := by
  have h2 := (so_md hs hv r lv key).2
  unfold hangR
  split
  · split
    · exact ⟨by simp, fun x hx => by cases hx⟩
    · split
      · rename_i hf
        refine ⟨by simp, fun x hx => ?_⟩
        obtain rfl := List.mem_singleton.1 hx
        exact ⟨Nat.le_trans (fits_len hf) (by decide), h2⟩
      · exact ⟨by simp, fun x hx => by cases hx⟩
  · exact ⟨by simp, fun x hx => by cases hx⟩
theorem drop_md (r : Int) (key : By) : (dropR S r key).2.length ≤ 3 ∧ ∀ x, x ∈ (dropR S r key).2 → Md x.2 := by
  have h2 := so_md hs hv r 0 key
  unfold dropR
  split
  · split
    · refine ⟨by simp, fun x hx => ?_⟩
      obtain rfl := List.mem_singleton.1 hx
      exact ⟨Nat.le_trans (List.length_eraseIdx_le _ _) h2.1, h2.2⟩
    · exact ⟨by simp, fun x hx => by cases hx⟩
  · exact ⟨by simp, fun x hx => by cases hx⟩
theorem split_md (r lv : Int) (key : By) (f0 f1 : Int) : (splitR S r lv key f0 f1).2.1.length ≤ 3 ∧ ∀ x, x ∈ (splitR S r lv key f0 f1).2.1 → Md x.2 := by
  have h2 := so_md hs hv r lv key
  unfold splitR
  generalize so S r lv key = v at *
  have ht : ∀ k, (v.nd.list.take k).length ≤ 99999 := fun k => by rw [List.length_take]; have := h2.1; omega
  have hd : ∀ k, (v.nd.list.drop k).length ≤ 99999 := fun k => by rw [List.length_drop]; have := h2.1; omega
  split
  · split
    · exact ⟨by simp, fun x hx => by cases hx⟩
    · split
      · refine ⟨by simp, fun x hx => ?_⟩
        rcases List.mem_cons.1 hx with rfl | hx
        · exact ⟨ht _, h2.2⟩
        · obtain rfl := List.mem_singleton.1 hx
          exact ⟨hd _, h2.2⟩
      · split
        · exact ⟨by simp, fun x hx => by cases hx⟩
        · refine ⟨by simp [grw], fun x hx => ?_⟩
          unfold grw at hx
          rcases List.mem_cons.1 hx with rfl | hx
          · refine ⟨by simp, ?_⟩
            show Go.RowKit.wrap64 (v.nd.level + 1) ≤ 9223372036854775807
            unfold Go.RowKit.wrap64
            omega
          · rcases List.mem_cons.1 hx with rfl | hx
            · exact ⟨ht _, h2.2⟩
            · obtain rfl := List.mem_singleton.1 hx
              exact ⟨hd _, h2.2⟩
  · exact ⟨by simp, fun x hx => by cases hx⟩
end
theorem puts_md {S : Sf} (hs : Sm S) (hv : LvOk S) {L : List (Int × Nod)} (h : ∀ x, x ∈ L → Md x.2) : Sm (puts S L) ∧ LvOk (puts S L) :=
  ⟨hs.puts fun x hx => (h x hx).1, hv.puts fun x hx => (h x hx).2⟩
/-! A number's key. -/
theorem key_len (n : Int) : (keyZ n).length = 9 := rfl
theorem key_good (n : Int) : Sg.goodB 1 n ⟨#[]⟩ = true := by unfold Sg.goodB; exact decide_eq_true (Or.inl ⟨rfl, rfl⟩)
theorem key_lt {n m : Int} (h : n < m) (h1 : -9223372036854775808 ≤ n) (h2 : m ≤ 9223372036854775807) : lt (keyZ n) (keyZ m) = true := by
  have e := Sg.code_order 1 n ⟨#[]⟩ 1 m ⟨#[]⟩ (key_good n) (key_good m) ⟨h1, by omega⟩ ⟨by omega, h2⟩
  have c : Sg.cmpV 1 n ⟨#[]⟩ 1 m ⟨#[]⟩ = -1 := by
    have c1 : Lib.compareInt n m = -1 := by unfold Lib.compareInt; rw [if_pos h]
    unfold Sg.cmpV
    rw [c1]
    rfl
  rw [c] at e
  have e2 := cmp_lt (keyZ n) (keyZ m)
  unfold keyZ at e2 ⊢
  rw [e] at e2
  split at e2
  · assumption
  · split at e2 <;> cases e2
theorem key_le {n m : Int} (h : n ≤ m) (h1 : -9223372036854775808 ≤ n) (h2 : m ≤ 9223372036854775807) : le (keyZ n) (keyZ m) = true := by
  rcases Int.lt_or_eq_of_le h with h | rfl
  · exact le_of_lt (key_lt h h1 h2)
  · exact le_refl _
theorem key_end (n : Int) : lt (keyZ n) (List.replicate 9 255) = true := rfl
theorem key_low (n : Int) : le low (keyZ n) = true := low_le _ (key_len n)
/-! A tree behind Drops. -/
structure Dn (S : Sf) (l : List Ent) (top : Nat) (ch : Nat → List Nat) : Prop where
  tree : Tree S 3 0 top ch
  one : top ≤ 1
  row : lists S (ch 0) = l
theorem Gn.dn {S : Sf} {l : List Ent} {next top : Nat} {ch : Nat → List Nat} (h : Gn S l next top ch) : Dn S l top ch := ⟨h.tree, h.one, h.row⟩
section
variable {S : Sf} {l : List Ent} {top : Nat} {ch : Nat → List Nat} (h : Dn S l top ch)
include h
theorem Dn.drop (key : By) (hk : key.length = 9) :
    ((dropR S 3 key).1 = 0 ∧ Dn (puts S (dropR S 3 key).2) (dropE l key).1 top ch) ∨ (dropR S 3 key).1 = 7 := by
  rcases tree_drop h.tree key hk (by have := h.one; omega) with ⟨h1, h2, h3, h4⟩ | ⟨h1, h2⟩
  · refine Or.inl ⟨h1, h3, h.one, ?_⟩
    rw [dropE_eq]
    show _ = del key l
    rw [← h.row]
    exact h4
  · exact Or.inr (by show (dropR S ((3 : Nat) : Int) key).1 = 7; rw [h1])
theorem Dn.srt : Srt l := by rw [← h.row]; exact tree_srt h.tree
theorem Dn.len : ∀ e, e ∈ l → e.key.length = 9 := by rw [← h.row]; exact tree_len h.tree
theorem Dn.range (lo hi : By) (h1 : le low lo = true) (h2 : le low hi = true) : ranR S 3 lo hi = (0, btw lo hi l, ofL (gapK l hi)) := by
  rw [← h.row]; exact tree_range h.tree lo hi h1 h2 (by have := h.one; omega)
theorem Dn.gap (key : By) (h1 : le low key = true) : gapR S 3 key = (0, ofL (gapK l key)) := by
  rw [← h.row]; exact tree_gap h.tree key h1 (by have := h.one; omega)
theorem Dn.next (key : By) (h1 : le low key = true) : firR S 3 key (nxtQ key) = (0, l.find? (nxtQ key)) := by
  rw [← h.row]; exact tree_next h.tree key h1 (by have := h.one; omega)
theorem Dn.after (key : By) (h1 : le low key = true) : firR S 3 key (aftQ key) = (0, l.find? (aftQ key)) := by
  rw [← h.row]; exact tree_after h.tree key h1 (by have := h.one; omega)
end
end Go.Proofs.Ytfahgejiclgbfaa.Wk
end

-- joined
section
namespace Go.Proofs.Ytfahgejiclgbfaa.Wk
open Go.ChangeShapes Go.WideShapes Go.ChangeAt Go.RowKit Go.PlainAid Aid Nt Nd Tr Bk
set_option linter.unusedVariables false
set_option linter.unusedSimpArgs false
set_option linter.unusedSectionVars false
def fQ (key : By) (above : Bool) : Ent → Bool := if above then aftQ key else nxtQ key
theorem fQ_cmp (key : By) (above : Bool) (e : Ent) : fQ key above e = (lt key e.key || (decide (e.key = key) && !above)) := by
  unfold fQ aftQ nxtQ Nd.le
  cases above with
  | true =>
    rw [if_pos rfl]
    cases h1 : lt e.key key with
    | true =>
      have h2 : lt key e.key = false := not_lt.2 (le_of_lt h1)
      simp [h2]
    | false =>
      by_cases h3 : e.key = key
      · rw [h3, lt_irrefl]; simp
      · cases h4 : lt key e.key with
        | true => simp [h3]
        | false => exact absurd (lt_conn _ _ h1 h4) h3
  | false =>
    rw [if_neg (by decide)]
    cases h1 : lt e.key key with
    | true =>
      have h2 : lt key e.key = false := not_lt.2 (le_of_lt h1)
      have h3 : e.key ≠ key := lt_ne h1
      simp [h2, h3]
    | false =>
      by_cases h3 : e.key = key
      · simp [h3]
      · cases h4 : lt key e.key with
        | true => simp
        | false => exact absurd (lt_conn _ _ h1 h4) h3
theorem resE2 {fn : Func} {x y : Nat} {tm : Array Value} {w : World} {g : Nat} {a0 a1 a2 v1 : Value} (hf : fn.results = #[.cell x 44, .tmp y]) (hx : tm[x]?.getD undef = .pointer (some ⟨g, 0, none⟩)) (hy : tm[y]?.getD undef = v1)
    (hB : Blk w g 44 #[a0, a1, a2]) : (results fn tm).run Try.prog w = .ok (.tuple #[.agg #[a0, a1, a2], v1]) w := by
  have c0 := hB.cell 0
  have c1 := hB.cell 1
  have c2 := hB.cell 2
  clear hB
  unfold results
  rw [hf]
  simp only [List.getElem?_toArray, List.getElem?_cons_zero, List.getElem?_cons_succ] at c0 c1 c2
  simp [go_sem, hx, hy, c0, c1, c2]
theorem find_take (q : Ent → Bool) (l : List Ent) (k : Nat) (x : Ent) (hx : l[k]? = some x) (h : (l.take k).find? q = none) : (q x = true → l.find? q = some x) ∧ (q x = false → (l.take (k + 1)).find? q = none) := by
  constructor
  · intro hq
    obtain ⟨hk, he⟩ := List.getElem?_eq_some_iff.1 hx
    have h1 : l = l.take k ++ x :: l.drop (k + 1) := by
      rw [← he, ← List.drop_eq_getElem_cons hk, List.take_append_drop]
    rw [h1, List.find?_append, h, List.find?_cons, hq]
    rfl
  · intro hq
    rw [List.take_add_one, hx, Option.toList_some, List.find?_append, h, List.find?_cons, hq]
    rfl
set_option maxRecDepth 100000 in
set_option maxHeartbeats 16000000 in
theorem refFirst_any (l : List Ent) (key : By) (above : Bool) (v : Value) (w : World) (hl : l.length ≤ 100000) (hv : Row3 w v l) (hK : ∀ x, x ∈ l → x.key.length ≤ 100) (hE : key.length ≤ 100) :
    Calls Try.prog 35 #[v, .string (ofL key), .bool above] w fun r w' => r = .returned (.tuple #[.agg (entCells (fE (l.find? (fQ key above)))), .bool (l.find? (fQ key above)).isSome]) ∧ Own w No w' Asn.emp := by
  obtain ⟨A, c, rfl⟩ := hv.slice
  have HK := Lib.hid hK
  have HT := Lib.hid (fun (x : Ent) (hx : x.key.length ≤ 100) w => Texts_q (ofL x.key) (ofL key) w (by show x.key.length ≤ _; unfold maxLen; omega) (by show key.length ≤ _; unfold maxLen; omega))
  have S0 := Lib.hid ((Own.none w).alloc #[.string ⟨#[]⟩, .string ⟨#[]⟩, .bool false] 44)
  have HV := Lib.hid hv
  clear hv hK hE
  go_enter Try.func35, Try.ntmps35
  go_upto_region 1 with fail
  obtain ⟨g6, hgz⟩ : ∃ g, g = w.heap.size := ⟨_, rfl⟩
  rw [← hgz] at S0 ⊢
  clear hgz
  generalize World.alloc w _ = w1 at *
  go_wp2_with fail
  go_loopw [8] (fun i wr => ∃ k : Nat, k ≤ l.length ∧ i = .int .i64 k ∧ (l.take k).find? (fQ key above) = none ∧ Hid (Own w No wr (Asn.blk g6 44 #[.string ⟨#[]⟩, .string ⟨#[]⟩, .bool false] * Asn.emp))) (fun i _ => l.length - (intOf i).toNat)
  case atStart => exact ⟨0, Nat.zero_le _, rfl, rfl, S0⟩
  case round =>
    clear S0
    obtain ⟨k, hk, rfl, hnone, S1⟩ := hrel
    by_cases hlt : k < l.length
    · obtain ⟨x, hx⟩ : ∃ x, l[k]? = some x := ⟨l[k]'(by omega), List.getElem?_eq_getElem _⟩
      obtain ⟨b, o, rfl, hbl, a0, a1, a2⟩ := (HV.out.keep S1.out.bel).at hx
      have T := Lib.hid (HT.out x (HK.out x (List.mem_of_getElem? hx)))
      have HST := Lib.hid (find_take (fQ key above) l k x hx hnone)
      have hce : Lib.compareBytes (ofL x.key).data.toList (ofL key).data.toList = if lt x.key key = true then -1 else if x.key = key then 0 else 1 := cmp_lt x.key key
      rw [hce] at T
      have HX := Lib.hid hx
      have HQ := Lib.hid (fQ_cmp key above x)
      clear hce hx hnone
      go_wp2_with fail
      refine (T.out _).mono ?_
      rintro r w2 ⟨rfl, nq, hw2⟩
      have S2 : Hid (Own w No w2 (Asn.blk g6 44 #[.string ⟨#[]⟩, .string ⟨#[]⟩, .bool false] * Asn.emp)) := Lib.hid (by rw [hw2]; exact S1.out.drewN nq)
      clear S1 a0 a1 a2 T hw2
      obtain ⟨a0, a1, a2⟩ := (HV.out.keep S2.out.bel).at' HX.out
      obtain ⟨⟨d0, d1, d2⟩, f0, f1, f2⟩ := three_of (S2.out.has (Has.l (has_blk g6 _ _)))
      have S3 := Lib.hid (own_3 S2.out (.string (ofL x.key)) (.string (ofL x.val)) (.bool x.ghost))
      cases h1 : lt x.key key with
      | true =>
        have hq : fQ key above x = false := by
          have h2 : lt key x.key = false := Bk.not_lt.2 (Bk.le_of_lt h1)
          have h3 : x.key ≠ key := Bk.lt_ne h1
          rw [HQ.out, h2, decide_eq_false h3]
          rfl
        clear S3 d0 d1 d2 f0 f1 f2
        go_wp2_with fail
        go_round
        case rel => exact ⟨k + 1, by omega, by go_num, HST.out.2 hq, S2⟩
        case measure => simp only [intOf]; omega
      | false =>
        by_cases h2 : x.key = key
        · cases above with
          | true =>
            have hq : fQ key true x = false := by
              rw [HQ.out, h2, Bk.lt_irrefl]
              simp
            clear S3 d0 d1 d2 f0 f1 f2
            go_wp2_with fail
            go_round
            case rel => exact ⟨k + 1, by omega, by go_num, HST.out.2 hq, S2⟩
            case measure => simp only [intOf]; omega
          | false =>
            have hq : fQ key false x = true := by
              rw [HQ.out, h2, Bk.lt_irrefl]
              simp
            rw [h2] at S3
            go_wp2_with fail
            rw [HST.out.1 hq]
            refine bodyPost_ret (resE2 (x := 6) (y := 7) (v1 := .bool true) rfl rfl rfl (S3.out.has (Has.l (has_blk g6 _ _)))) rfl ?_
            exact ⟨by simp only [fE, entCells, h2, Option.isSome_some], S3.out.right⟩
        · have hq : fQ key above x = true := by
            rw [HQ.out]
            cases h4 : lt key x.key with
            | true => rfl
            | false => exact absurd (Bk.lt_conn _ _ h1 h4) h2
          go_wp2_with fail
          rw [HST.out.1 hq]
          refine bodyPost_ret (resE2 (x := 6) (y := 7) (v1 := .bool true) rfl rfl rfl (S3.out.has (Has.l (has_blk g6 _ _)))) rfl ?_
          exact ⟨rfl, S3.out.right⟩
    · obtain rfl : k = l.length := by omega
      rw [List.take_length] at hnone
      obtain ⟨⟨d0, d1, d2⟩, f0, f1, f2⟩ := three_of (S1.out.has (Has.l (has_blk g6 _ _)))
      have S3 := Lib.hid (own_3 S1.out (.string ⟨#[]⟩) (.string ⟨#[]⟩) (.bool false))
      go_wp2_with fail
      rw [hnone]
      refine bodyPost_ret (resE2 (x := 6) (y := 7) (v1 := .bool false) rfl rfl rfl (S3.out.has (Has.l (has_blk g6 _ _)))) rfl ?_
      exact ⟨rfl, S3.out.right⟩
end Go.Proofs.Ytfahgejiclgbfaa.Wk
end

-- joined
section
namespace Go.Proofs.Ytfahgejiclgbfaa.Wk
open Go.ChangeShapes Go.WideShapes Go.ChangeAt Go.RowKit Go.PlainAid Aid Nt Nd Tr Bk
set_option linter.unusedVariables false
set_option linter.unusedSimpArgs false
set_option linter.unusedSectionVars false
/-- The key of the first one above, or the end. -/
def endO (o : Option Ent) (en : ByteArray) : ByteArray := match o with
  | some e => ofL e.key
  | none => en
theorem btw_take (lo hi : By) (l : List Ent) (k : Nat) (x : Ent) (h : l[k]? = some x) : btw lo hi (l.take (k + 1)) = btw lo hi (l.take k) ++ (if !lt x.key lo && Nd.le x.key hi then [x] else []) := by
  unfold btw
  rw [List.take_add_one, h, Option.toList_some, List.filter_append]
  congr 1
  rw [List.filter_cons]
  rfl
theorem own_joinW {w0 w w' : World} {O0 : Nat → Prop} {A B : Asn} (h : Own w0 O0 w A) (k : Own w No w' B) : Own w0 O0 w' (B * A) :=
  h.then fun O hO => k.frame hO (fun _ h => h.elim) (fun _ => ⟨Or.inr, fun h => h.elim (fun x => x.elim) id⟩)
set_option maxRecDepth 100000 in
theorem btw_len (lo hi : By) (l : List Ent) : (btw lo hi l).length ≤ l.length := List.length_filter_le _ _
set_option maxRecDepth 100000 in
set_option maxHeartbeats 16000000 in
theorem refRange_any (l : List Ent) (lo hi : By) (en : ByteArray) (v : Value) (w : World) (hl : l.length ≤ 100000) (hv : Row3 w v l) (hK : ∀ x, x ∈ l → x.key.length ≤ 100) (hL : lo.length ≤ 100) (hH : hi.length ≤ 100) :
    Calls Try.prog 39 #[v, .string (ofL lo), .string (ofL hi), .string en] w fun r w' => ∃ v', r = .returned (.tuple #[v', .string (endO (l.find? (aftQ hi)) en)]) ∧ Own w No w' (Asn.vec 44 3 v' (btw lo hi l).length (cells3 (btw lo hi l))) := by
  obtain ⟨A, c, rfl⟩ := hv.slice
  have HK := Lib.hid hK
  have HT1 := Lib.hid (fun (x : Ent) (hx : x.key.length ≤ 100) w => Texts_q (ofL x.key) (ofL lo) w (by show x.key.length ≤ _; unfold maxLen; omega) (by show lo.length ≤ _; unfold maxLen; omega))
  have HT2 := Lib.hid (fun (x : Ent) (hx : x.key.length ≤ 100) w => Texts_q (ofL x.key) (ofL hi) w (by show x.key.length ≤ _; unfold maxLen; omega) (by show hi.length ≤ _; unfold maxLen; omega))
  have S0 := Lib.hid (((Own.none w).alloc #[] 44).imp (Imp.l (blk_vec (cs := []) 0 3 rfl (by decide))))
  have HV := Lib.hid hv
  have HF := Lib.hid (fun (W : World) (hb : Below w.heap.size w W) => refFirst_any l hi true (.slice A l.length c) W hl (hv.keep hb) hK hH)
  clear hv hK
  go_enter Try.func39, Try.ntmps39
  go_upto_region 2 with fail
  generalize World.alloc w _ = w1 at *
  go_wp2_with fail
  go_loopw [10, 11] (fun out i wr => ∃ k : Nat, k ≤ l.length ∧ i = .int .i64 k ∧ Hid (Own w No wr (Asn.vec 44 3 out (btw lo hi (l.take k)).length (cells3 (btw lo hi (l.take k))) * Asn.emp))) (fun _ i _ => l.length - (intOf i).toNat)
  case atStart => exact ⟨0, Nat.zero_le _, rfl, S0⟩
  case round =>
    clear S0
    obtain ⟨k, hk, rfl, S1⟩ := hrel
    by_cases hlt : k < l.length
    · obtain ⟨x, hx⟩ : ∃ x, l[k]? = some x := ⟨l[k]'(by omega), List.getElem?_eq_getElem _⟩
      obtain ⟨b, o, rfl, hbl, a0, a1, a2⟩ := (HV.out.keep S1.out.bel).at hx
      have T1 := Lib.hid (HT1.out x (HK.out x (List.mem_of_getElem? hx)))
      have T2 := Lib.hid (HT2.out x (HK.out x (List.mem_of_getElem? hx)))
      have HST := Lib.hid (btw_take lo hi l k x hx)
      have hlen : (btw lo hi (l.take k)).length ≤ k := Nat.le_trans (btw_len lo hi _) (by rw [List.length_take]; omega)
      have hge : decide (0 ≤ Lib.compareBytes (ofL x.key).data.toList (ofL lo).data.toList) = !lt x.key lo := cmp_ge x.key lo
      have hle : decide (Lib.compareBytes (ofL x.key).data.toList (ofL hi).data.toList ≤ 0) = Nd.le x.key hi := cmp_le x.key hi
      generalize Lib.compareBytes (ofL x.key).data.toList (ofL lo).data.toList = c1 at *
      generalize Lib.compareBytes (ofL x.key).data.toList (ofL hi).data.toList = c2 at *
      generalize btw lo hi (l.take k) = acc at *
      have HX := Lib.hid hx
      clear hx
      go_wp2_with fail
      refine (T1.out _).mono ?_
      rintro r w2 ⟨rfl, nq, hw2⟩
      have S2 : Hid (Own w No w2 (Asn.vec 44 3 u10 acc.length (cells3 acc) * Asn.emp)) := Lib.hid (by rw [hw2]; exact S1.out.drewN nq)
      clear S1 a0 a1 a2 T1 hw2
      obtain ⟨a0, a1, a2⟩ := (HV.out.keep S2.out.bel).at' HX.out
      cases h1 : lt x.key lo with
      | true =>
        rw [h1] at hge
        have hn : ¬ 0 ≤ c1 := of_decide_eq_false hge
        go_wp2_with fail
        go_round
        case rel => exact ⟨k + 1, by omega, by go_num, Lib.hid (by rw [HST.out, h1, Bool.not_true, Bool.false_and, if_neg (by decide), List.append_nil]; exact S2.out)⟩
        case measure => simp only [intOf]; omega
      | false =>
        rw [h1] at hge
        have hn : 0 ≤ c1 := of_decide_eq_true hge
        go_wp2_with fail
        refine (T2.out _).mono ?_
        rintro r w3 ⟨rfl, nq2, hw3⟩
        have S3 : Hid (Own w No w3 (Asn.vec 44 3 u10 acc.length (cells3 acc) * Asn.emp)) := Lib.hid (by rw [hw3]; exact S2.out.drewN nq2)
        clear S2 a0 a1 a2 T2 hw3
        obtain ⟨a0, a1, a2⟩ := (HV.out.keep S3.out.bel).at' HX.out
        cases h2 : Nd.le x.key hi with
        | false =>
          rw [h2] at hle
          have hm : ¬ c2 ≤ 0 := of_decide_eq_false hle
          go_wp2_with fail
          go_round
          case rel => exact ⟨k + 1, by omega, by go_num, Lib.hid (by rw [HST.out, h1, h2, Bool.and_false, if_neg (by decide), List.append_nil]; exact S3.out)⟩
          case measure => simp only [intOf]; omega
        | true =>
          rw [h2] at hle
          have hm : c2 ≤ 0 := of_decide_eq_true hle
          have S4q := Lib.hid ((S3.out.alloc #[.string (ofL x.key), .string (ofL x.val), .bool x.ghost] 44).re (show _ = Asn.vec 44 3 u10 acc.length (cells3 acc) * (Asn.blk w3.heap.size 44 #[.string (ofL x.key), .string (ofL x.val), .bool x.ghost] * Asn.emp) by ac_rfl))
          have S4x : Hid (Src Try.prog 3 27 (.slice (some ⟨w3.heap.size, 0, none⟩) 1 1) 1 [.string (ofL x.key), .string (ofL x.val), .bool x.ghost] (w3.alloc (.cells #[.string (ofL x.key), .string (ofL x.val), .bool x.ghost] 44))) := Lib.hid (src_blk Try.underlying27 (S4q.out.has (Has.r (Has.l (has_blk _ _ _)))) rfl (by intro u hu; simp at hu; rcases hu with rfl | rfl | rfl <;> rfl))
          go_wp2_with (with_reducible refine wpList_append_vec rfl (.tmp 39) (.tmp 44) 27 27 rfl 44 _ 3 40 Try.underlying27 info_entry ?ap1a ?ap1b u10 acc.length (cells3 acc) ?ap1c S4q.out.vec (.slice (some ⟨w3.heap.size, 0, none⟩) 1 1) ?ap1d 1 _ S4x.out ?ap1e ?ap1f ?_)
          case ap1a => rfl
          case ap1b => decide
          try (case ap1c => rfl)
          try (case ap1d => rfl)
          case ap1e => unfold maxLen; omega
          case ap1f => omega
          intro v3 w4 hvap1 hcap1 hfap1
          have S5 := Lib.hid (((S4q.out.app hvap1 hcap1 hfap1).re (show _ = Asn.blk w3.heap.size 44 #[.string (ofL x.key), .string (ofL x.val), .bool x.ghost] * (Asn.vec 44 3 v3 (acc.length + 1) ((cells3 acc) ++ [.string (ofL x.key), .string (ofL x.val), .bool x.ghost]) * Asn.emp) by ac_rfl)).right)
          clear S3 S4q S4x hvap1 hcap1 hfap1
          have S6 := Lib.hid (vec_snoc S5.out)
          clear S5
          clear a0 a1 a2
          go_wp2_with fail
          go_round
          case rel => exact ⟨k + 1, by omega, by go_num, Lib.hid (by rw [HST.out, h1, h2, Bool.not_false, Bool.and_true, if_pos rfl]; exact S6.out)⟩
          case measure => simp only [intOf]; omega
    · obtain rfl : k = l.length := by omega
      rw [List.take_length] at S1
      have HFW := Lib.hid (HF.out wr S1.out.bel)
      have e1 : fQ hi true = aftQ hi := rfl
      rw [e1] at HFW
      cases hff : l.find? (aftQ hi) with
      | some e =>
        rw [hff] at HFW
        have HFF := Lib.hid hff
        clear hff
        go_wp2_with fail
        refine (HFW.out).mono ?_
        rintro r w2 ⟨rfl, hF⟩
        have S3 := Lib.hid ((own_joinW S1.out hF).alloc #[.string (ofL e.key), .string (ofL e.val), .bool e.ghost] 44)
        clear S1 hF
        dsimp only [fE, entCells, Option.isSome_some]
        go_upto_region 9 with fail
        generalize World.alloc w2 _ = w3 at *
        have c0 := (S3.out.has (Has.l (has_blk w2.heap.size _ _))).cell 0
        go_quiet (fail)
        go_wp2_with fail
        go_returns
        rw [HFF.out]
        exact ⟨_, rfl, ((S3.out.drewN _).re (show _ = (Asn.blk w2.heap.size 44 #[.string (ofL e.key), .string (ofL e.val), .bool e.ghost] * Asn.emp * Asn.emp) * Asn.vec 44 3 u10 (btw lo hi l).length (cells3 (btw lo hi l)) by ac_rfl)).right⟩
      | none =>
        rw [hff] at HFW
        have HFF := Lib.hid hff
        clear hff
        go_wp2_with fail
        refine (HFW.out).mono ?_
        rintro r w2 ⟨rfl, hF⟩
        have S3 := Lib.hid ((own_joinW S1.out hF).alloc #[.string ⟨#[]⟩, .string ⟨#[]⟩, .bool false] 44)
        clear S1 hF
        dsimp only [fE, entCells, Option.isSome_none]
        rw [show ofL ([] : By) = (⟨#[]⟩ : ByteArray) from rfl]
        go_wp2_with fail
        go_returns
        rw [HFF.out]
        exact ⟨_, rfl, (S3.out.re (show _ = (Asn.blk w2.heap.size 44 #[.string ⟨#[]⟩, .string ⟨#[]⟩, .bool false] * Asn.emp * Asn.emp) * Asn.vec 44 3 u10 (btw lo hi l).length (cells3 (btw lo hi l)) by ac_rfl)).right⟩
end Go.Proofs.Ytfahgejiclgbfaa.Wk
end

-- joined
section
namespace Go.Proofs.Ytfahgejiclgbfaa.Wk
open Go.ChangeShapes Go.WideShapes Go.ChangeAt Go.RowKit Go.PlainAid Aid Nt Nd Tr Bk
open Ky (keyZ)
set_option linter.unusedVariables false
set_option linter.unusedSimpArgs false
set_option linter.unusedSectionVars false
/-- A slice of numbers that came in. -/
def IntRow (w : World) (A : Option Addr) (m : Nat) (z : Nat → Int) : Prop :=
  m = 0 ∨ ∃ b o, A = some ⟨b, o, none⟩ ∧ b < w.heap.size ∧ (∀ i, i < m → w.cell? ⟨b, o + i, none⟩ = some (.int .i64 (z i))) ∧ ∀ i, i < m → I64 (z i)
theorem IntRow.at {w : World} {A : Option Addr} {m : Nat} {z : Nat → Int} (h : IntRow w A m z) (k : Nat) (hk : k < m) :
    ∃ b o, A = some ⟨b, o, none⟩ ∧ (∀ W D, Own w No W D → W.cell? ⟨b, o + k, none⟩ = some (.int .i64 (z k))) ∧ I64 (z k) := by
  rcases h with h | ⟨b, o, rfl, hl, hc, hz⟩
  · omega
  · exact ⟨b, o, rfl, fun W D h => by rw [(bcell h.bel).1 _ _ hl]; exact hc k hk, hz k hk⟩
/-- Which key a number asks for. -/
def km (v : Int) : Int := wrap64 ((IntKind.u64.wrap v).tmod 100)
theorem km_bd (v : Int) : 0 ≤ km v ∧ km v < 100 := by
  obtain ⟨K, h1, h2⟩ := mod_u v 100 (by decide) (by decide)
  unfold km
  rw [h1]
  omega
set_option maxRecDepth 100000 in
set_option maxHeartbeats 16000000 in
theorem same10_any (l : List Ent) (va vb : Value) (w : World) (ha : Row3 w va l) (hb : Row3 w vb l) :
    Calls Try.prog 16 #[va, vb] w fun e w' => e = .returned (.bool true) ∧ Own w No w' Asn.emp := by
  obtain ⟨A, c, rfl⟩ := ha.slice
  obtain ⟨B, d, rfl⟩ := hb.slice
  have hml := ha.len.2
  unfold maxLen at hml
  have HA := Lib.hid ha
  have HB := Lib.hid hb
  have S0 := Lib.hid (Own.none w)
  clear ha hb
  go_enter Try.func16, Try.ntmps16
  go_wp2_with fail
  go_loopw [5] (fun i wr => ∃ k : Nat, k ≤ l.length ∧ i = .int .i64 k ∧ Hid (Own w No wr Asn.emp)) (fun i _ => l.length - (intOf i).toNat)
  case atStart => exact ⟨0, Nat.zero_le _, rfl, S0⟩
  case round =>
    clear S0
    obtain ⟨k, hk, rfl, S1⟩ := hrel
    by_cases hlt : k < l.length
    · obtain ⟨x, hx⟩ : ∃ x, l[k]? = some x := ⟨l[k]'(by omega), List.getElem?_eq_getElem _⟩
      obtain ⟨b1, o1, rfl, hb1, a0, a1, a2⟩ := (HA.out.keep S1.out.bel).at hx
      obtain ⟨b2, o2, rfl, hb2, d0, d1, d2⟩ := (HB.out.keep S1.out.bel).at hx
      clear hx
      go_wp2_with fail
      go_quiet (fail)
      have S2 := Lib.hid (S1.out.drewN nq)
      clear S1 a0 a1 a2 d0 d1 d2
      generalize wr.drewN nq = w2 at *
      go_wp2_with fail
      go_round
      case rel => exact ⟨k + 1, by omega, by go_num, S2⟩
      case measure => simp only [intOf]; omega
    · obtain rfl : k = l.length := by omega
      go_wp2_with fail
      go_returns
      exact ⟨rfl, S1.out⟩
end Go.Proofs.Ytfahgejiclgbfaa.Wk
end
