/- Texts of ours, joined. -/
import Derived.Test.YtfahgejiclgbfaaBkO

-- joined
section
namespace Go.Proofs.Ytfahgejiclgbfaa.Bk
open Go.ChangeShapes Go.WideShapes Go.ChangeAt Go.RowKit Go.PlainAid Aid Nt Nd Tr
set_option linter.unusedVariables false
set_option linter.unusedSimpArgs false
set_option linter.unusedSectionVars false
/-- The pages that Seek answers. -/
def pagesR (S : Sf) (root level : Int) (key : By) : List Int := (seek S 256 root level key).2.2.map fun x => x.1
theorem sk_bad (S : Sf) (level : Int) (key : By) : ∀ (f : Nat) (v : Vi) (P : List (Int × Nod)), (sk S level key f v P).2.1 ≠ 0 → (sk S level key f v P).2.2 = []
  | 0, v, P, h => rfl
  | f + 1, v, P, h => by
    unfold sk at h ⊢
    split
    · rename_i h1
      rw [if_pos h1] at h
      dsimp only at h ⊢
      split
      · rename_i h2
        rw [if_pos h2] at h
        split
        · rename_i h3; rw [if_pos h3] at h; exact absurd rfl h
        · rename_i h3
          rw [if_neg h3] at h
          split
          · rfl
          · rename_i h4
            rw [if_neg h4] at h
            exact sk_bad S level key f _ _ h
      · rfl
    · rfl
theorem sk_len (S : Sf) (level : Int) (key : By) : ∀ (f : Nat) (v : Vi) (P : List (Int × Nod)), (sk S level key f v P).2.2.length ≤ P.length + v.left + 1
  | 0, v, P => by show 0 ≤ _; omega
  | f + 1, v, P => by
    unfold sk
    split
    · dsimp only
      have h1 := rgt_left S key v.left v.pg v.nd
      split
      · split
        · simp
        · split
          · show 0 ≤ _; omega
          · generalize lastLe (rgt S key v.left v.pg v.nd).nd.list key (rgt S key v.left v.pg v.nd).nd.list.length = i
            by_cases hb : (blw S (rgt S key v.left v.pg v.nd).left (rgt S key v.left v.pg v.nd).nd i).err = 0
            · have h2 := blw_less S _ (rgt S key v.left v.pg v.nd).nd i hb
              have h3 := sk_len S level key f (blw S (rgt S key v.left v.pg v.nd).left (rgt S key v.left v.pg v.nd).nd i) (P ++ [((rgt S key v.left v.pg v.nd).pg, (rgt S key v.left v.pg v.nd).nd)])
              rw [List.length_append, List.length_singleton] at h3
              omega
            · cases f with
              | zero => show 0 ≤ _; omega
              | succ f => rw [sk_err S level key f _ _ hb]; show 0 ≤ _; omega
      · show 0 ≤ _; omega
    · show 0 ≤ _; omega
theorem seek_len (S : Sf) (root level : Int) (key : By) : (seek S 256 root level key).2.2.length ≤ 257 := by
  have h1 := sk_len S level key 300 (vis S 256 root) []
  have h2 := vis_left S 256 root
  unfold seek
  simp only [List.length_nil] at h1
  omega
def ints (l : List Int) : List Value := l.map fun p => .int .i64 p
theorem aLs_slice {w0 w : World} {O0 : Nat → Prop} : ∀ (L : List Sp) {C : Asn}, Own w0 O0 w (aLs L * C) → ∀ x, x ∈ L → ∃ A c, x.v = .slice A x.nd.list.length c
  | [], _, _, x, hx => by cases hx
  | y :: L, C, h, x, hx => by
    have h1 : Own w0 O0 w (aEnts y.nd y.v * (aLs L * C)) := by
      have h2 : Own w0 O0 w ((aEnts y.nd y.v * aLs L) * C) := h
      exact h2.re (by ac_rfl)
    rcases List.mem_cons.1 hx with rfl | hx
    · exact (show Own w0 O0 w (Asn.vec 44 3 x.v x.nd.list.length (cells3 x.nd.list) * _) from h1).vec.slice
    · exact aLs_slice L h1.right x hx
theorem infoInt : (Try.prog.info? 3).map (fun i => (i.zero, i.size, i.bytes)) = some (some (.int .i64 0), 1, 8) := by kernel_rfl
section
variable (gs : Nat) (S : Sf) (V : Nat → Value)
set_option maxRecDepth 100000 in
set_option maxHeartbeats 16000000 in
theorem Seek_any (hs : Sm S) (hv : LvOk S) (root level : Int) (key : By) (w0 w : World) (C : Asn) (hS : Own w0 No w (aSf gs S V * C)) :
    Calls Try.prog 23 #[pgs gs, .int .i64 root, .int .i64 level, .string (ofL key)] w fun e w' => ∃ v, e = .returned (.tuple #[v, .int .i64 (seek S 256 root level key).2.1]) ∧
      Own w0 No w' (Asn.vec 3 1 v (pagesR S root level key).length (ints (pagesR S root level key)) * (aSf gs S V * C)) := by
  have S0 := Lib.hid ((hS.alloc #[pgs gs, .int .i64 0] 105).re (show _ = aG w.heap.size gs 256 * (aSf gs S V * C) by unfold aG; rw [show (256 : Int) - ((256 : Nat) : Int) = 0 from rfl]))
  have HSk := Lib.hid (fun gg W (h : Own w0 No W (aG gg gs 256 * (aSf gs S V * C))) => seek_any gs S V hs.small hv gg 256 (Nat.le_refl _) root level key w0 W C h)
  have HB : Hid ((seek S 256 root level key).2.1 ≠ 0 → (seek S 256 root level key).2.2 = []) := Lib.hid (sk_bad S level key 300 (vis S 256 root) [])
  have hsl257 := seek_len S root level key
  unfold pagesR
  generalize seek S 256 root level key = r at *
  obtain ⟨r1, err, path⟩ := r
  dsimp only at *
  clear hS
  unfold pgs sPtr at *
  go_enter Try.func23, Try.ntmps23
  go_upto_region 2 with fail
  obtain ⟨g10, hgz⟩ : ∃ g, g = w.heap.size := ⟨_, rfl⟩
  rw [← hgz] at S0 ⊢
  clear hgz
  generalize World.alloc _ _ = w1 at *
  go_wp2_with fail
  refine (HSk.out _ _ S0.out).mono ?_
  rintro rr w2 ⟨pv, L, rfl, hpl, hX⟩
  clear HSk S0
  by_cases he : err = 0
  · subst he
    subst hpl
    have hsl := aLs_slice L (hX.re (show _ = aLs L * (Asn.vec 110 8 pv L.length (spL L) * (aG g10 gs r1 * (aSf gs S V * C))) by ac_rfl))
    have hlen : ((plain L).map fun x => x.1).length = L.length := by simp [plain]
    have hge : ∀ i x, L[i]? = some x → ((plain L).map fun x => x.1).take (i + 1) = ((plain L).map fun x => x.1).take i ++ [x.pg] := fun i x h => by
      have : ((plain L).map fun x => x.1)[i]? = some x.pg := by simp [plain, h]
      rw [List.take_add_one, this]; rfl
    have HSL := Lib.hid hsl
    have HGE := Lib.hid hge
    have hpv := hX.vec.slice
    obtain ⟨Ap, cp, rfl⟩ := hpv
    have S1 := Lib.hid ((hX.nilVec 3 1).re (show _ = Asn.vec 3 1 (.slice none 0 0) 0 (ints (((plain L).map fun x => x.1).take 0)) * (Asn.vec 110 8 (.slice Ap L.length cp) L.length (spL L) * (aLs L * (aG g10 gs r1 * (aSf gs S V * C)))) by rfl))
    have HLN := Lib.hid hlen
    obtain ⟨P, hP⟩ : ∃ P, P = ((plain L).map fun x => x.1) := ⟨_, rfl⟩
    rw [← hP] at HLN HGE S1
    have HPP := Lib.hid hP
    clear hP
    have hm2 : L.length ≤ 257 := by have := hsl257; unfold plain at this; rw [List.length_map] at this; exact this
    clear hsl257
    have hm : L.length ≤ 9223372036854775807 := by
      rcases hX.vec.forms with ⟨-, hz⟩ | ⟨g, cap, h, -, h1, h2⟩
      · omega
      · unfold maxLen at h2; omega
    clear hX hsl hge hlen
    obtain ⟨N, hN⟩ : ∃ N, N = L.length := ⟨_, rfl⟩
    rw [← hN] at S1 hm hm2 ⊢
    have HNN := Lib.hid hN
    clear hN
    go_wp2_with fail
    go_loopw [13, 30] (fun p13 p30 wr => ∃ i : Nat, p30 = .int .i64 i ∧ i ≤ N ∧ Hid (Own w0 No wr (Asn.vec 3 1 p13 i (ints (P.take i)) * (Asn.vec 110 8 (.slice Ap N cp) N (spL L) * (aLs L * (aG g10 gs r1 * (aSf gs S V * C))))))) (fun _ p30 _ => N + 1 - (intOf p30).toNat)
    case atStart => exact ⟨0, rfl, Nat.zero_le _, S1⟩
    case round =>
      clear S1
      obtain ⟨i, rfl, hi, S1⟩ := hrel
      by_cases hlt : i < N
      · obtain ⟨x, hx⟩ : ∃ x, L[i]? = some x := ⟨L[i]'(by rw [← HNN.out]; exact hlt), List.getElem?_eq_getElem _⟩
        obtain ⟨A, c, hxv⟩ := HSL.out x (List.mem_of_getElem? hx)
        have hpg := HGE.out i x hx
        have hiN : (i : Int) < (N : Int) := by omega
        obtain ⟨ba, rfl⟩ : ∃ b, Ap = some ⟨b, 0, none⟩ := by
          rcases S1.out.right.vec.forms with ⟨-, hz⟩ | ⟨g, cap, h, -⟩
          · omega
          · cases h; exact ⟨_, rfl⟩
        have hc := fun j (hj : j < 8) u hu => S1.out.right.vec.cell (j := i * 8 + j) (u := u) ((spL_at L i j x hx hj).trans hu)
        unfold spotC at hc
        rw [hxv] at hc
        have c0 : wr.cell? ⟨ba, i * 8, none⟩ = some (.int .i64 x.pg) := hc 0 (by decide) _ rfl
        have c1 := hc 1 (by decide) _ rfl
        have c2 := hc 2 (by decide) _ rfl
        have c3 := hc 3 (by decide) _ rfl
        have c4 := hc 4 (by decide) _ rfl
        have c5 := hc 5 (by decide) _ rfl
        have c6 := hc 6 (by decide) _ rfl
        have c7 := hc 7 (by decide) _ rfl
        obtain ⟨pvv, hpvv⟩ : ∃ q, q = u13 := ⟨_, rfl⟩
        rw [← hpvv] at S1 ⊢
        clear hpvv
        have S2 := Lib.hid (S1.out.alloc #[.int .i64 x.pg, .int .i64 x.nd.tree, .int .i64 x.nd.level, .int .i64 x.nd.stamp, .bool x.nd.has, .string (ofL x.nd.high), .int .i64 x.nd.right, .slice A x.nd.list.length c] 110)
        clear hc S1 hx hxv
        go_upto_region 9 with fail
        obtain ⟨g15, hgz⟩ : ∃ g, g = wr.heap.size := ⟨_, rfl⟩
        rw [← hgz] at S2 ⊢
        clear hgz c0 c1 c2 c3 c4 c5 c6 c7
        generalize World.alloc _ _ = w3 at *
        have k0 := (S2.out.has (Has.l (has_blk _ _ _))).cell 0
        have S3 := Lib.hid ((S2.out.right.alloc #[.int .i64 x.pg] 3).right)
        have CX : Hid (Src Try.prog 1 50 (.slice (some ⟨w3.heap.size, 0, none⟩) 1 1) 1 [.int .i64 x.pg] (w3.alloc (.cells #[.int .i64 x.pg] 3))) := Lib.hid (src_blk Try.underlying50 (Blk.new w3 #[.int .i64 x.pg] 3) rfl (by intro u hu; simp at hu; subst hu; rfl))
        have HG := Lib.hid hpg
        clear S2 hpg
        go_wp2_with (with_reducible refine wpList_append_vec rfl (.tmp 34) (.tmp 37) 50 50 rfl 3 _ 1 8 Try.underlying50 infoInt ?c1 ?c2 pvv i (ints (P.take i)) ?c7 S3.out.vec (.slice (some ⟨w3.heap.size, 0, none⟩) 1 1) ?c8 1 _ CX.out ?c3 ?c4 ?_)
        case c1 => rfl
        case c2 => decide
        case c3 => unfold maxLen; omega
        case c4 => omega
        case c7 => rfl
        case c8 => rfl
        intro v' w4 hv hc hf
        have S4 := Lib.hid (S3.out.app hv hc hf)
        obtain ⟨A5, c5, rfl⟩ := hv.slice
        clear S3 CX hv hc hf k0
        go_wp2_with fail
        go_roundw
        case rel => exact ⟨i + 1, by go_num, by omega, Lib.hid (by rw [HG.out]; unfold ints; rw [List.map_append]; exact S4.out)⟩
        case measure => simp [intOf]; omega
      · obtain rfl : i = N := by omega
        have S2 := Lib.hid ((S1.out.re (show _ = (Asn.vec 110 8 (.slice Ap i cp) i (spL L) * (aLs L * aG g10 gs r1)) * (Asn.vec 3 1 u13 i (ints (P.take i)) * (aSf gs S V * C)) by ac_rfl)).right)
        have hPt : P.take i = P := List.take_of_length_le (by rw [HLN.out, ← HNN.out]; exact Nat.le_refl _)
        have hPl : P.length = i := by rw [HLN.out, ← HNN.out]
        rw [hPt] at S2
        have HPL := Lib.hid hPl
        clear S1 hPt hPl
        go_wp2_with fail
        go_returns
        exact ⟨_, rfl, by rw [← HPP.out, HPL.out]; exact S2.out⟩
  · have he1 : (((err : Nat) : Int) == 0) = false := beq_eq_false_iff_ne.2 (by omega)
    have hp := HB.out he
    subst hp
    have S1 := Lib.hid ((hX.re (show _ = (Asn.vec 110 8 pv L.length (spL L) * (aLs L * aG g10 gs r1)) * (aSf gs S V * C) by ac_rfl)).right.nilVec 3 1)
    clear hX HB he
    go_wp2_with fail
    go_returns
    exact ⟨_, rfl, S1.out⟩
end
end Go.Proofs.Ytfahgejiclgbfaa.Bk
end

-- joined
section
namespace Go.Proofs.Ytfahgejiclgbfaa.Wk
open Go.ChangeShapes Go.WideShapes Go.ChangeAt Go.RowKit Go.PlainAid Aid Nt Nd Tr Bk
set_option linter.unusedVariables false
set_option linter.unusedSimpArgs false
set_option linter.unusedSectionVars false
/-- The entries of a leaf, from a state on: the state behind them, and whether there is more to see. -/
def scan {σ : Type} (step : σ → Ent → σ × Bool) : σ → List Ent → σ × Bool
  | s, [] => (s, true)
  | s, e :: l => if (step s e).2 then scan step (step s e).1 l else ((step s e).1, false)
def gon (S : Sf) {σ : Type} (step : σ → Ent → σ × Bool) : Nat → Int → σ → Nat × σ
  | 0, _, s => (3, s)
  | l + 1, p, s => match at_ S p with
    | none => (1, s)
    | some n => if n.level ≠ 0 then (3, s) else
      if (scan step s n.list).2 then (if n.right = 0 then (0, (scan step s n.list).1) else gon S step l n.right (scan step s n.list).1) else (0, (scan step s n.list).1)
/-- What goOn comes to. -/
def goR (S : Sf) {σ : Type} (step : σ → Ent → σ × Bool) (root : Int) (key : By) (s : σ) : Nat × σ :=
  if (seek S 256 root 0 key).2.1 = 0 then gon S step (257 - (pagesR S root 0 key).length) ((pagesR S root 0 key).getLastD 0) s else ((seek S 256 root 0 key).2.1, s)
theorem scan_none {σ : Type} (step : σ → Ent → σ × Bool) (s : σ) (l : List Ent) (i : Nat) (h : l[i]? = none) : scan step s (l.drop i) = (s, true) := by
  rw [List.drop_eq_nil_of_le (by simpa using h)]; rfl
theorem scan_some {σ : Type} (step : σ → Ent → σ × Bool) (s : σ) (l : List Ent) (i : Nat) (e : Ent) (h : l[i]? = some e) : scan step s (l.drop i) = if (step s e).2 then scan step (step s e).1 (l.drop (i + 1)) else ((step s e).1, false) := by
  obtain ⟨hi, rfl⟩ := List.getElem?_eq_some_iff.1 h
  rw [List.drop_eq_getElem_cons hi]; rfl
/-- How many entries can have been seen, when so many leaves may still be. -/
def bz (l : Nat) : Nat := (256 - l) * 99999
theorem bz_le (l : Nat) : bz l ≤ 25599744 := by unfold bz; omega
theorem bz_step (l : Nat) (h : l + 1 ≤ 256) : bz (l + 1) + 99999 = bz l := by unfold bz; omega
theorem bz_all {z l j n : Nat} (h : z ≤ bz (l + 1) + j) (hj : j < n) (hn : n ≤ 99999) : z ≤ 26000000 := by have := bz_le (l + 1); omega
theorem bz_next {z l j n : Nat} (h : z ≤ bz (l + 1) + j) (hj : j ≤ n) (hn : n ≤ 99999) (hl : l + 1 ≤ 256) : z ≤ bz l := by have := bz_step l hl; omega
theorem bz_zero {z l : Nat} (h : z ≤ bz (l + 1)) : z ≤ bz (l + 1) + 0 := Nat.le_trans h (Nat.le_add_right _ _)
theorem bz_succ {z z2 l j : Nat} (h : z ≤ bz (l + 1) + j) (h2 : z2 ≤ z + 1) : z2 ≤ bz (l + 1) + (j + 1) := by omega
section
variable (gs : Nat) (S : Sf) (V : Nat → Value)
set_option maxRecDepth 100000 in
set_option maxHeartbeats 16000000 in
theorem goOn_any (hs : Sm S) (hv : LvOk S) {σ : Type} (step : σ → Ent → σ × Bool) (A : σ → Asn) (kf : FuncId) (cap : Array Value) (root : Int) (key : By) (w0 : World) (sz : σ → Nat) (hsz : ∀ s e, sz (step s e).1 ≤ sz s + 1)
    (hkf : ∀ args w, (callFunc kf args).run Try.prog w = .ok (.enter kf args) w)
    (HF : ∀ s e W C, sz s ≤ 26000000 → Own w0 No W (A s * C) → Calls Try.prog kf (#[.agg (entCells e)] ++ cap) W fun r W' => r = .returned (.bool (step s e).2) ∧ Own w0 No W' (A (step s e).1 * C))
    (s0 : σ) (h0 : sz s0 = 0) (w : World) (C : Asn) (hS : Own w0 No w (A s0 * (aSf gs S V * C))) :
    Calls Try.prog 66 #[pgs gs, .int .i64 root, .string (ofL key), .func (.func kf) #[] cap] w fun r w' => r = .returned (.int .i64 (goR S step root key s0).1) ∧ Own w0 No w' (A (goR S step root key s0).2 * (aSf gs S V * C)) := by
  have HSk := Lib.hid (fun W C h => Seek_any gs S V hs hv root 0 key w0 W C h)
  have HNo := Lib.hid (fun p W C h => Node_any gs S V hs.small p w0 W C h)
  have HSm := Lib.hid hs
  have hpos := fun (h : (seek S 256 root 0 key).2.1 = 0) => sk_ok S 0 key 300 (vis S 256 root) [] h
  have HPos : Hid ((seek S 256 root 0 key).2.1 = 0 → 0 < (pagesR S root 0 key).length) := Lib.hid fun h => by
    obtain ⟨Q, p, n, e⟩ := hpos h
    unfold pagesR
    rw [show (seek S 256 root 0 key).2.2 = Q ++ [(p, n)] from e]
    simp
  have hlen := seek_len S root 0 key
  have hpl : (pagesR S root 0 key).length = (seek S 256 root 0 key).2.2.length := by simp [pagesR]
  rw [← hpl] at hlen
  have hm : ∀ w : World, (method 103 26 (.pointer (some ⟨gs, 0, none⟩)) "Node").run Try.prog w = .ok (44, .pointer (some ⟨gs, 0, none⟩)) w := fun _ => by kernel_rfl
  obtain ⟨r, hr⟩ : ∃ r, r = goR S step root key s0 := ⟨_, rfl⟩
  rw [← hr]
  unfold goR at hr
  generalize (seek S 256 root 0 key).2.1 = err at *
  generalize pagesR S root 0 key = L at *
  have HR := Lib.hid hr
  have S0 := Lib.hid hS
  have HFF := Lib.hid HF
  unfold entCells at HFF
  clear hr hS hpos hpl HF hs hv
  unfold pgs at *
  unfold sPtr nodCells at HNo
  go_enter Try.func66, Try.ntmps66
  go_wp2_with fail
  refine (HSk.out _ _ (S0.out.re (show _ = aSf gs S V * (A s0 * C) by ac_rfl))).mono ?_
  rintro e w2 ⟨v9, rfl, hX⟩
  obtain ⟨A9, c9, rfl⟩ := hX.vec.slice
  have S1 := Lib.hid hX
  clear hX S0 HSk
  by_cases he : err = 0
  case neg =>
    have hr := HR.out
    rw [if_neg he] at hr
    subst hr
    have he2 : ((err : Nat) : Int) ≠ 0 := by simpa using he
    go_wp2_with fail
    go_returns
    exact ⟨rfl, (S1.out.re (show _ = Asn.vec 3 1 (.slice A9 L.length c9) L.length (ints L) * (A s0 * (aSf gs S V * C)) by ac_rfl)).right⟩
  subst he
  have hr := HR.out
  rw [if_pos rfl] at hr
  have hp0 := HPos.out rfl
  have HR2 := Lib.hid hr
  clear hr HR HPos
  obtain ⟨b, rfl⟩ : ∃ b, A9 = some ⟨b, 0, none⟩ := by
    rcases S1.out.vec.forms with ⟨-, hz⟩ | ⟨g, cap, h, -, h1, h2⟩
    · omega
    · cases h; exact ⟨_, rfl⟩
  obtain ⟨pl, hpl⟩ : ∃ p, L[L.length - 1]? = some p := ⟨_, List.getElem?_eq_getElem (by omega)⟩
  have hlast : L.getLastD 0 = pl := by
    rw [List.getLastD_eq_getLast?, List.getLast?_eq_getElem?, hpl]; rfl
  have hc : w2.cell? ⟨b, L.length - 1, none⟩ = some (.int .i64 pl) := S1.out.vec.cell (by unfold ints; rw [List.getElem?_map, hpl]; rfl)
  have S2 := Lib.hid (S1.out.re (show _ = Asn.vec 3 1 (.slice (some ⟨b, 0, none⟩) L.length c9) L.length (ints L) * (A s0 * (aSf gs S V * C)) by ac_rfl)).right
  rw [hlast] at HR2
  clear hpl hlast S1
  generalize hN : L.length = N at *
  obtain ⟨M, rfl⟩ : ∃ M, N = M + 1 := ⟨N - 1, by omega⟩
  rw [show M + 1 - 1 = M from rfl] at hc
  go_wp2_with fail
  clear hc
  go_loopw [11, 12] (fun pg seen wr => ∃ (l : Nat) (p : Int) (s : σ), l ≤ 256 ∧ sz s ≤ bz l ∧ pg = .int .i64 p ∧ seen = .int .i64 ((257 : Int) - l) ∧ Hid (gon S step l p s = r) ∧ Hid (Own w0 No wr (A s * (aSf gs S V * C)))) (fun _ seen _ => (257 - intOf seen).toNat)
  case atStart => exact ⟨257 - (M + 1), pl, s0, by omega, by rw [h0]; exact Nat.zero_le _, rfl, by congr 1; omega, HR2.out.symm, S2⟩
  case round =>
    clear S2 HR2
    obtain ⟨l, p, s, hl, hzs, rfl, rfl, HG, S1⟩ := hrel
    cases l with
    | zero =>
      have hr := HG.out
      rw [gon] at hr
      subst hr
      go_wp2_with fail
      go_returns
      exact ⟨rfl, S1.out⟩
    | succ l =>
      have hse : (257 : Int) - ((l + 1 : Nat) : Int) = 256 - (l : Int) := by omega
      rw [hse]
      have hle : (256 : Int) - (l : Int) ≤ 256 := by omega
      have hge : (0 : Int) ≤ (256 : Int) - (l : Int) := by omega
      have HNo2 := Lib.hid (HNo.out p _ _ (S1.out.re (show _ = aSf gs S V * (A s * C) by ac_rfl)))
      cases hat : at_ S p with
      | none =>
        have hr := HG.out
        rw [gon, hat] at hr
        subst hr
        rw [show nodeR S p = (1, Nod.none) by unfold nodeR; rw [hat]] at HNo2
        dsimp only at HNo2
        unfold Nod.none at HNo2
        dsimp only at HNo2
        go_wp2_with fail
        refine HNo2.out.mono ?_
        rintro e w3 ⟨v3, rfl, hX⟩
        obtain ⟨A3, c3, rfl⟩ := (show Own w0 No w3 (Asn.vec 44 3 v3 0 _ * _) from hX).vec.slice
        have S3 := Lib.hid ((hX.right.re (show _ = A s * (aSf gs S V * C) by ac_rfl)).alloc #[.int .i64 0, .int .i64 0, .int .i64 0, .bool false, .string (ofL []), .int .i64 0, .slice A3 0 c3] 52).right
        clear hX HNo2 S1
        go_wp2_with fail
        go_returns
        exact ⟨rfl, S3.out⟩
      | some n =>
        have hn9 : n.list.length ≤ 99999 := by
          unfold Bk.at_ at hat
          split at hat
          · rename_i hh
            cases hat
            exact HSm.out _ (by omega)
          · cases hat
        have hr := HG.out
        rw [gon, hat] at hr
        dsimp only at hr
        have HG2 := Lib.hid hr
        rw [show nodeR S p = (0, n) by unfold nodeR; rw [hat]] at HNo2
        dsimp only at HNo2
        clear hr hat HG
        go_wp2_with fail
        refine HNo2.out.mono ?_
        rintro e w3 ⟨v3, rfl, hX⟩
        obtain ⟨A3, c3, rfl⟩ := (show Own w0 No w3 (Asn.vec 44 3 v3 n.list.length (cells3 n.list) * _) from hX).vec.slice
        have S3 := Lib.hid ((hX.alloc #[.int .i64 n.tree, .int .i64 n.level, .int .i64 n.stamp, .bool n.has, .string (ofL n.high), .int .i64 n.right, .slice A3 n.list.length c3] 52).re (show _ = A s * (Asn.blk w3.heap.size 52 #[.int .i64 n.tree, .int .i64 n.level, .int .i64 n.stamp, .bool n.has, .string (ofL n.high), .int .i64 n.right, .slice A3 n.list.length c3] * (aEnts n (.slice A3 n.list.length c3) * (aSf gs S V * C))) by ac_rfl))
        clear hX HNo2 S1
        go_upto_region 11 with fail
        obtain ⟨g13, hgz⟩ : ∃ g, g = w3.heap.size := ⟨_, rfl⟩
        rw [← hgz] at S3 ⊢
        clear hgz
        generalize World.alloc _ _ = w4 at *
        obtain ⟨⟨k0, k1, k2, k3, k4, k5, k6⟩, -⟩ := seven7 (S3.out.has (Has.r (Has.l (has_blk g13 _ _))))
        by_cases hlv : n.level = 0
        case neg =>
          have hr := HG2.out
          rw [if_pos hlv] at hr
          subst hr
          go_wp2_with fail
          go_returns
          exact ⟨rfl, (S3.out.re (show _ = (Asn.blk g13 52 #[.int .i64 n.tree, .int .i64 n.level, .int .i64 n.stamp, .bool n.has, .string (ofL n.high), .int .i64 n.right, .slice A3 n.list.length c3] * aEnts n (.slice A3 n.list.length c3)) * (A s * (aSf gs S V * C)) by ac_rfl)).right⟩
        have hr := HG2.out
        rw [if_neg (by simpa using hlv)] at hr
        have HG3 := Lib.hid hr
        clear hr HG2
        go_wp2_with fail
        clear k0 k1 k2 k3 k4 k5 k6 hlv
        go_loopw [54] (fun i wr => ∃ (j : Nat) (st : σ), j ≤ n.list.length ∧ sz st ≤ bz (l + 1) + j ∧ i = .int .i64 j ∧ Hid (scan step s n.list = scan step st (n.list.drop j)) ∧ Hid (Own w0 No wr (A st * (Asn.blk g13 52 #[.int .i64 n.tree, .int .i64 n.level, .int .i64 n.stamp, .bool n.has, .string (ofL n.high), .int .i64 n.right, .slice A3 n.list.length c3] * (aEnts n (.slice A3 n.list.length c3) * (aSf gs S V * C)))))) (fun i _ => n.list.length - (intOf i).toNat)
        case atStart => exact ⟨0, s, Nat.zero_le _, bz_zero hzs, rfl, rfl, S3⟩
        case round =>
          clear S3
          obtain ⟨j, st, hj, hzt, rfl, HSc, S1⟩ := hrel
          by_cases hjl : j < n.list.length
          · obtain ⟨e, he⟩ : ∃ e, n.list[j]? = some e := ⟨_, List.getElem?_eq_getElem hjl⟩
            have hvx := (show Own w0 No _ (Asn.vec 44 3 (.slice A3 n.list.length c3) n.list.length (cells3 n.list) * _) from S1.out.re (show _ = aEnts n (.slice A3 n.list.length c3) * (A st * (Asn.blk g13 52 #[.int .i64 n.tree, .int .i64 n.level, .int .i64 n.stamp, .bool n.has, .string (ofL n.high), .int .i64 n.right, .slice A3 n.list.length c3] * (aSf gs S V * C))) by ac_rfl)).vec
            obtain ⟨b3, rfl⟩ : ∃ b, A3 = some ⟨b, 0, none⟩ := by
              rcases hvx.forms with ⟨-, hz⟩ | ⟨g, cap, h, -, h1, h2⟩
              · omega
              · cases h; exact ⟨_, rfl⟩
            have d0 := hvx.cell (j := j * 3 + 0) (cells3_at n.list j 0 e he (by decide))
            have d1 := hvx.cell (cells3_at n.list j 1 e he (by decide))
            have d2 := hvx.cell (cells3_at n.list j 2 e he (by decide))
            rw [Nat.add_zero] at d0
            have hsc := HSc.out
            rw [scan_some step st n.list j e he] at hsc
            have HSc2 := Lib.hid hsc
            have S2 := Lib.hid (S1.out.alloc #[.string (ofL e.key), .string (ofL e.val), .bool e.ghost] 44)
            have HCl := Lib.hid (fun W C h => HFF.out st e W C (bz_all hzt hjl hn9) h)
            have hz2 := hsz st e
            clear hsc HSc hvx S1
            generalize step st e = q at *
            obtain ⟨st2, more⟩ := q
            dsimp only at HSc2 HCl hz2
            go_wp2_with fail
            obtain ⟨g16, hgz⟩ : ∃ g, g = wr.heap.size := ⟨_, rfl⟩
            rw [← hgz] at S2 ⊢
            clear hgz d0 d1 d2
            generalize World.alloc _ _ = w6 at *
            refine (HCl.out _ _ (S2.out.re (show _ = A st * (Asn.blk g16 44 #[.string (ofL e.key), .string (ofL e.val), .bool e.ghost] * (Asn.blk g13 52 #[.int .i64 n.tree, .int .i64 n.level, .int .i64 n.stamp, .bool n.has, .string (ofL n.high), .int .i64 n.right, .slice (some ⟨b3, 0, none⟩) n.list.length c3] * (aEnts n (.slice (some ⟨b3, 0, none⟩) n.list.length c3) * (aSf gs S V * C)))) by ac_rfl))).mono ?_
            rintro e9 w7 ⟨rfl, hX⟩
            have S4 := Lib.hid (hX.re (show _ = Asn.blk g16 44 #[.string (ofL e.key), .string (ofL e.val), .bool e.ghost] * (A st2 * (Asn.blk g13 52 #[.int .i64 n.tree, .int .i64 n.level, .int .i64 n.stamp, .bool n.has, .string (ofL n.high), .int .i64 n.right, .slice (some ⟨b3, 0, none⟩) n.list.length c3] * (aEnts n (.slice (some ⟨b3, 0, none⟩) n.list.length c3) * (aSf gs S V * C)))) by ac_rfl)).right
            clear hX HCl S2
            cases more with
            | true =>
              rw [if_pos rfl] at HSc2
              go_wp2_with fail
              go_round
              case rel => exact ⟨j + 1, st2, by omega, bz_succ hzt hz2, by go_num, HSc2, S4⟩
              case measure => simp only [intOf]; omega
            | false =>
              rw [if_neg (by decide)] at HSc2
              have hr := HG3.out
              rw [HSc2.out] at hr
              dsimp only at hr
              rw [if_neg (by decide)] at hr
              subst hr
              go_wp2_with fail
              go_returns
              exact ⟨rfl, (S4.out.re (show _ = (Asn.blk g13 52 #[.int .i64 n.tree, .int .i64 n.level, .int .i64 n.stamp, .bool n.has, .string (ofL n.high), .int .i64 n.right, .slice (some ⟨b3, 0, none⟩) n.list.length c3] * aEnts n (.slice (some ⟨b3, 0, none⟩) n.list.length c3)) * (A st2 * (aSf gs S V * C)) by ac_rfl)).right⟩
          · obtain rfl : j = n.list.length := by omega
            have hsc := HSc.out
            rw [scan_none step st n.list _ (List.getElem?_eq_none (Nat.le_refl _))] at hsc
            have hr := HG3.out
            rw [hsc] at hr
            dsimp only at hr
            rw [if_pos rfl] at hr
            have HG4 := Lib.hid hr
            clear hr hsc HSc HG3
            obtain ⟨⟨k0, k1, k2, k3, k4, k5, k6⟩, -⟩ := seven7 (S1.out.has (Has.r (Has.l (has_blk g13 _ _))))
            by_cases hrt : n.right = 0
            · have hr := HG4.out
              rw [if_pos hrt] at hr
              subst hr
              go_wp2_with fail
              go_returns
              exact ⟨rfl, (S1.out.re (show _ = (Asn.blk g13 52 #[.int .i64 n.tree, .int .i64 n.level, .int .i64 n.stamp, .bool n.has, .string (ofL n.high), .int .i64 n.right, .slice A3 n.list.length c3] * aEnts n (.slice A3 n.list.length c3)) * (A st * (aSf gs S V * C)) by ac_rfl)).right⟩
            · have hr := HG4.out
              rw [if_neg hrt] at hr
              have HG5 := Lib.hid hr
              clear hr HG4
              go_wp2_with fail
              go_round
              case rel => exact ⟨l, n.right, st, by omega, bz_next hzt (Nat.le_refl _) hn9 hl, rfl, by congr 1; omega, HG5, Lib.hid (S1.out.re (show _ = (Asn.blk g13 52 #[.int .i64 n.tree, .int .i64 n.level, .int .i64 n.stamp, .bool n.has, .string (ofL n.high), .int .i64 n.right, .slice A3 n.list.length c3] * aEnts n (.slice A3 n.list.length c3)) * (A st * (aSf gs S V * C)) by ac_rfl)).right⟩
              case measure => simp only [intOf]; omega
end
end Go.Proofs.Ytfahgejiclgbfaa.Wk
end
