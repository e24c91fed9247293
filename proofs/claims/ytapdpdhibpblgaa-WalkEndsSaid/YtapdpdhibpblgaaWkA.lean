/- From entry to entry: goOn, with any function that owns what it writes. -/
import Derived.Test.YtapdpdhibpblgaaBkR
namespace Go.Proofs.Ytapdpdhibpblgaa.Wk
open Go.ChangeShapes Go.WideShapes Go.ChangeAt Go.RowKit Go.PlainAid Aid Nt Nd Tr Bk
set_option linter.unusedVariables false
set_option linter.unusedSimpArgs false
set_option linter.unusedSectionVars false
/-- The entries of a leaf, from a state on: the state behind them, and whether there is more to see. -/
def scan {σ : Type} (step : σ → Ent → σ × Bool) : σ → List Ent → σ × Bool
  | s, [] => (s, true)
  | s, e :: l => if (step s e).2 then scan step (step s e).1 l else ((step s e).1, false)
def gon (S : Sf) {σ : Type} (step : σ → Ent → σ × Bool) : Nat → Int → σ → Nat × σ
  | 0, _, s => (3, s)
  | l + 1, p, s => match at_ S p with
    | none => (1, s)
    | some n => if n.level ≠ 0 then (3, s) else
      if (scan step s n.list).2 then (if n.right = 0 then (0, (scan step s n.list).1) else gon S step l n.right (scan step s n.list).1) else (0, (scan step s n.list).1)
/-- What goOn comes to. -/
def goR (S : Sf) {σ : Type} (step : σ → Ent → σ × Bool) (root : Int) (key : By) (s : σ) : Nat × σ :=
  if (seek S 256 root 0 key).2.1 = 0 then gon S step (257 - (pagesR S root 0 key).length) ((pagesR S root 0 key).getLastD 0) s else ((seek S 256 root 0 key).2.1, s)
theorem scan_none {σ : Type} (step : σ → Ent → σ × Bool) (s : σ) (l : List Ent) (i : Nat) (h : l[i]? = none) : scan step s (l.drop i) = (s, true) := by
  rw [List.drop_eq_nil_of_le (by simpa using h)]; rfl
theorem scan_some {σ : Type} (step : σ → Ent → σ × Bool) (s : σ) (l : List Ent) (i : Nat) (e : Ent) (h : l[i]? = some e) : scan step s (l.drop i) = if (step s e).2 then scan step (step s e).1 (l.drop (i + 1)) else ((step s e).1, false) := by
  obtain ⟨hi, rfl⟩ := List.getElem?_eq_some_iff.1 h
  rw [List.drop_eq_getElem_cons hi]; rfl
/-- How many entries can have been seen, when so many leaves may still be. -/
def bz (l : Nat) : Nat := (256 - l) * 99999
theorem bz_le (l : Nat) : bz l ≤ 25599744 := by unfold bz; omega
theorem bz_step (l : Nat) (h : l + 1 ≤ 256) : bz (l + 1) + 99999 = bz l := by unfold bz; omega
theorem bz_all {z l j n : Nat} (h : z ≤ bz (l + 1) + j) (hj : j < n) (hn : n ≤ 99999) : z ≤ 26000000 := by have := bz_le (l + 1); omega
theorem bz_next {z l j n : Nat} (h : z ≤ bz (l + 1) + j) (hj : j ≤ n) (hn : n ≤ 99999) (hl : l + 1 ≤ 256) : z ≤ bz l := by have := bz_step l hl; omega
theorem bz_zero {z l : Nat} (h : z ≤ bz (l + 1)) : z ≤ bz (l + 1) + 0 := Nat.le_trans h (Nat.le_add_right _ _)
theorem bz_succ {z z2 l j : Nat} (h : z ≤ bz (l + 1) + j) (h2 : z2 ≤ z + 1) : z2 ≤ bz (l + 1) + (j + 1) := by omega
section
variable (gs : Nat) (S : Sf) (V : Nat → Value)
set_option maxRecDepth 100000 in
set_option maxHeartbeats 16000000 in
theorem goOn_any (hs : Sm S) (hv : LvOk S) {σ : Type} (step : σ → Ent → σ × Bool) (A : σ → Asn) (kf : FuncId) (cap : Array Value) (root : Int) (key : By) (w0 : World) (sz : σ → Nat) (hsz : ∀ s e, sz (step s e).1 ≤ sz s + 1)
    (hkf : ∀ args w, (callFunc kf args).run Try.prog w = .ok (.enter kf args) w)
    (HF : ∀ s e W C, sz s ≤ 26000000 → Own w0 No W (A s * C) → Calls Try.prog kf (#[.agg (entCells e)] ++ cap) W fun r W' => r = .returned (.bool (step s e).2) ∧ Own w0 No W' (A (step s e).1 * C))
    (s0 : σ) (h0 : sz s0 = 0) (w : World) (C : Asn) (hS : Own w0 No w (A s0 * (aSf gs S V * C))) :
    Calls Try.prog 74 #[pgs gs, .int .i64 root, .string (ofL key), .func (.func kf) #[] cap] w fun r w' => r = .returned (.int .i64 (goR S step root key s0).1) ∧ Own w0 No w' (A (goR S step root key s0).2 * (aSf gs S V * C)) := by
  have HSk := Lib.hid (fun W C h => Seek_any gs S V hs hv root 0 key w0 W C h)
  have HNo := Lib.hid (fun p W C h => Node_any gs S V hs.small p w0 W C h)
  have HSm := Lib.hid hs
  have hpos := fun (h : (seek S 256 root 0 key).2.1 = 0) => sk_ok S 0 key 300 (vis S 256 root) [] h
  have HPos : Hid ((seek S 256 root 0 key).2.1 = 0 → 0 < (pagesR S root 0 key).length) := Lib.hid fun h => by
    obtain ⟨Q, p, n, e⟩ := hpos h
    unfold pagesR
    rw [show (seek S 256 root 0 key).2.2 = Q ++ [(p, n)] from e]
    simp
  have hlen := seek_len S root 0 key
  have hpl : (pagesR S root 0 key).length = (seek S 256 root 0 key).2.2.length := by simp [pagesR]
  rw [← hpl] at hlen
  have hm : ∀ w : World, (method 105 26 (.pointer (some ⟨gs, 0, none⟩)) "Node").run Try.prog w = .ok (38, .pointer (some ⟨gs, 0, none⟩)) w := fun _ => by kernel_rfl
  obtain ⟨r, hr⟩ : ∃ r, r = goR S step root key s0 := ⟨_, rfl⟩
  rw [← hr]
  unfold goR at hr
  generalize (seek S 256 root 0 key).2.1 = err at *
  generalize pagesR S root 0 key = L at *
  have HR := Lib.hid hr
  have S0 := Lib.hid hS
  have HFF := Lib.hid HF
  unfold entCells at HFF
  clear hr hS hpos hpl HF hs hv
  unfold pgs at *
  unfold sPtr nodCells at HNo
  go_enter Try.func74, Try.ntmps74
  go_wp2_with fail
  refine (HSk.out _ _ (S0.out.re (show _ = aSf gs S V * (A s0 * C) by ac_rfl))).mono ?_
  rintro e w2 ⟨v9, rfl, hX⟩
  obtain ⟨A9, c9, rfl⟩ := hX.vec.slice
  have S1 := Lib.hid hX
  clear hX S0 HSk
  by_cases he : err = 0
  case neg =>
    have hr := HR.out
    rw [if_neg he] at hr
    subst hr
    have he2 : ((err : Nat) : Int) ≠ 0 := by simpa using he
    go_wp2_with fail
    go_returns
    exact ⟨rfl, (S1.out.re (show _ = Asn.vec 3 1 (.slice A9 L.length c9) L.length (ints L) * (A s0 * (aSf gs S V * C)) by ac_rfl)).right⟩
  subst he
  have hr := HR.out
  rw [if_pos rfl] at hr
  have hp0 := HPos.out rfl
  have HR2 := Lib.hid hr
  clear hr HR HPos
  obtain ⟨b, rfl⟩ : ∃ b, A9 = some ⟨b, 0, none⟩ := by
    rcases S1.out.vec.forms with ⟨-, hz⟩ | ⟨g, cap, h, -, h1, h2⟩
    · omega
    · cases h; exact ⟨_, rfl⟩
  obtain ⟨pl, hpl⟩ : ∃ p, L[L.length - 1]? = some p := ⟨_, List.getElem?_eq_getElem (by omega)⟩
  have hlast : L.getLastD 0 = pl := by
    rw [List.getLastD_eq_getLast?, List.getLast?_eq_getElem?, hpl]; rfl
  have hc : w2.cell? ⟨b, L.length - 1, none⟩ = some (.int .i64 pl) := S1.out.vec.cell (by unfold ints; rw [List.getElem?_map, hpl]; rfl)
  have S2 := Lib.hid (S1.out.re (show _ = Asn.vec 3 1 (.slice (some ⟨b, 0, none⟩) L.length c9) L.length (ints L) * (A s0 * (aSf gs S V * C)) by ac_rfl)).right
  rw [hlast] at HR2
  clear hpl hlast S1
  generalize hN : L.length = N at *
  obtain ⟨M, rfl⟩ : ∃ M, N = M + 1 := ⟨N - 1, by omega⟩
  rw [show M + 1 - 1 = M from rfl] at hc
  go_wp2_with fail
  clear hc
  go_loopw [11, 12] (fun pg seen wr => ∃ (l : Nat) (p : Int) (s : σ), l ≤ 256 ∧ sz s ≤ bz l ∧ pg = .int .i64 p ∧ seen = .int .i64 ((257 : Int) - l) ∧ Hid (gon S step l p s = r) ∧ Hid (Own w0 No wr (A s * (aSf gs S V * C)))) (fun _ seen _ => (257 - intOf seen).toNat)
  case atStart => exact ⟨257 - (M + 1), pl, s0, by omega, by rw [h0]; exact Nat.zero_le _, rfl, by congr 1; omega, HR2.out.symm, S2⟩
  case round =>
    clear S2 HR2
    obtain ⟨l, p, s, hl, hzs, rfl, rfl, HG, S1⟩ := hrel
    cases l with
    | zero =>
      have hr := HG.out
      rw [gon] at hr
      subst hr
      go_wp2_with fail
      go_returns
      exact ⟨rfl, S1.out⟩
    | succ l =>
      have hse : (257 : Int) - ((l + 1 : Nat) : Int) = 256 - (l : Int) := by omega
      rw [hse]
      have hle : (256 : Int) - (l : Int) ≤ 256 := by omega
      have hge : (0 : Int) ≤ (256 : Int) - (l : Int) := by omega
      have HNo2 := Lib.hid (HNo.out p _ _ (S1.out.re (show _ = aSf gs S V * (A s * C) by ac_rfl)))
      cases hat : at_ S p with
      | none =>
        have hr := HG.out
        rw [gon, hat] at hr
        subst hr
        rw [show nodeR S p = (1, Nod.none) by unfold nodeR; rw [hat]] at HNo2
        dsimp only at HNo2
        unfold Nod.none at HNo2
        dsimp only at HNo2
        go_wp2_with fail
        refine HNo2.out.mono ?_
        rintro e w3 ⟨v3, rfl, hX⟩
        obtain ⟨A3, c3, rfl⟩ := (show Own w0 No w3 (Asn.vec 44 3 v3 0 _ * _) from hX).vec.slice
        have S3 := Lib.hid ((hX.right.re (show _ = A s * (aSf gs S V * C) by ac_rfl)).alloc #[.int .i64 0, .int .i64 0, .int .i64 0, .bool false, .string (ofL []), .int .i64 0, .slice A3 0 c3] 52).right
        clear hX HNo2 S1
        go_wp2_with fail
        go_returns
        exact ⟨rfl, S3.out⟩
      | some n =>
        have hn9 : n.list.length ≤ 99999 := by
          unfold Bk.at_ at hat
          split at hat
          · rename_i hh
            cases hat
            exact HSm.out _ (by omega)
          · cases hat
        have hr := HG.out
        rw [gon, hat] at hr
        dsimp only at hr
        have HG2 := Lib.hid hr
        rw [show nodeR S p = (0, n) by unfold nodeR; rw [hat]] at HNo2
        dsimp only at HNo2
        clear hr hat HG
        go_wp2_with fail
        refine HNo2.out.mono ?_
        rintro e w3 ⟨v3, rfl, hX⟩
        obtain ⟨A3, c3, rfl⟩ := (show Own w0 No w3 (Asn.vec 44 3 v3 n.list.length (cells3 n.list) * _) from hX).vec.slice
        have S3 := Lib.hid ((hX.alloc #[.int .i64 n.tree, .int .i64 n.level, .int .i64 n.stamp, .bool n.has, .string (ofL n.high), .int .i64 n.right, .slice A3 n.list.length c3] 52).re (show _ = A s * (Asn.blk w3.heap.size 52 #[.int .i64 n.tree, .int .i64 n.level, .int .i64 n.stamp, .bool n.has, .string (ofL n.high), .int .i64 n.right, .slice A3 n.list.length c3] * (aEnts n (.slice A3 n.list.length c3) * (aSf gs S V * C))) by ac_rfl))
        clear hX HNo2 S1
        go_upto_region 11 with fail
        obtain ⟨g13, hgz⟩ : ∃ g, g = w3.heap.size := ⟨_, rfl⟩
        rw [← hgz] at S3 ⊢
        clear hgz
        generalize World.alloc _ _ = w4 at *
        obtain ⟨⟨k0, k1, k2, k3, k4, k5, k6⟩, -⟩ := seven7 (S3.out.has (Has.r (Has.l (has_blk g13 _ _))))
        by_cases hlv : n.level = 0
        case neg =>
          have hr := HG2.out
          rw [if_pos hlv] at hr
          subst hr
          go_wp2_with fail
          go_returns
          exact ⟨rfl, (S3.out.re (show _ = (Asn.blk g13 52 #[.int .i64 n.tree, .int .i64 n.level, .int .i64 n.stamp, .bool n.has, .string (ofL n.high), .int .i64 n.right, .slice A3 n.list.length c3] * aEnts n (.slice A3 n.list.length c3)) * (A s * (aSf gs S V * C)) by ac_rfl)).right⟩
        have hr := HG2.out
        rw [if_neg (by simpa using hlv)] at hr
        have HG3 := Lib.hid hr
        clear hr HG2
        go_wp2_with fail
        clear k0 k1 k2 k3 k4 k5 k6 hlv
        go_loopw [54] (fun i wr => ∃ (j : Nat) (st : σ), j ≤ n.list.length ∧ sz st ≤ bz (l + 1) + j ∧ i = .int .i64 j ∧ Hid (scan step s n.list = scan step st (n.list.drop j)) ∧ Hid (Own w0 No wr (A st * (Asn.blk g13 52 #[.int .i64 n.tree, .int .i64 n.level, .int .i64 n.stamp, .bool n.has, .string (ofL n.high), .int .i64 n.right, .slice A3 n.list.length c3] * (aEnts n (.slice A3 n.list.length c3) * (aSf gs S V * C)))))) (fun i _ => n.list.length - (intOf i).toNat)
        case atStart => exact ⟨0, s, Nat.zero_le _, bz_zero hzs, rfl, rfl, S3⟩
        case round =>
          clear S3
          obtain ⟨j, st, hj, hzt, rfl, HSc, S1⟩ := hrel
          by_cases hjl : j < n.list.length
          · obtain ⟨e, he⟩ : ∃ e, n.list[j]? = some e := ⟨_, List.getElem?_eq_getElem hjl⟩
            have hvx := (show Own w0 No _ (Asn.vec 44 3 (.slice A3 n.list.length c3) n.list.length (cells3 n.list) * _) from S1.out.re (show _ = aEnts n (.slice A3 n.list.length c3) * (A st * (Asn.blk g13 52 #[.int .i64 n.tree, .int .i64 n.level, .int .i64 n.stamp, .bool n.has, .string (ofL n.high), .int .i64 n.right, .slice A3 n.list.length c3] * (aSf gs S V * C))) by ac_rfl)).vec
            obtain ⟨b3, rfl⟩ : ∃ b, A3 = some ⟨b, 0, none⟩ := by
              rcases hvx.forms with ⟨-, hz⟩ | ⟨g, cap, h, -, h1, h2⟩
              · omega
              · cases h; exact ⟨_, rfl⟩
            have d0 := hvx.cell (j := j * 3 + 0) (cells3_at n.list j 0 e he (by decide))
            have d1 := hvx.cell (cells3_at n.list j 1 e he (by decide))
            have d2 := hvx.cell (cells3_at n.list j 2 e he (by decide))
            rw [Nat.add_zero] at d0
            have hsc := HSc.out
            rw [scan_some step st n.list j e he] at hsc
            have HSc2 := Lib.hid hsc
            have S2 := Lib.hid (S1.out.alloc #[.string (ofL e.key), .string (ofL e.val), .bool e.ghost] 44)
            have HCl := Lib.hid (fun W C h => HFF.out st e W C (bz_all hzt hjl hn9) h)
            have hz2 := hsz st e
            clear hsc HSc hvx S1
            generalize step st e = q at *
            obtain ⟨st2, more⟩ := q
            dsimp only at HSc2 HCl hz2
            go_wp2_with fail
            obtain ⟨g16, hgz⟩ : ∃ g, g = wr.heap.size := ⟨_, rfl⟩
            rw [← hgz] at S2 ⊢
            clear hgz d0 d1 d2
            generalize World.alloc _ _ = w6 at *
            refine (HCl.out _ _ (S2.out.re (show _ = A st * (Asn.blk g16 44 #[.string (ofL e.key), .string (ofL e.val), .bool e.ghost] * (Asn.blk g13 52 #[.int .i64 n.tree, .int .i64 n.level, .int .i64 n.stamp, .bool n.has, .string (ofL n.high), .int .i64 n.right, .slice (some ⟨b3, 0, none⟩) n.list.length c3] * (aEnts n (.slice (some ⟨b3, 0, none⟩) n.list.length c3) * (aSf gs S V * C)))) by ac_rfl))).mono ?_
            rintro e9 w7 ⟨rfl, hX⟩
            have S4 := Lib.hid (hX.re (show _ = Asn.blk g16 44 #[.string (ofL e.key), .string (ofL e.val), .bool e.ghost] * (A st2 * (Asn.blk g13 52 #[.int .i64 n.tree, .int .i64 n.level, .int .i64 n.stamp, .bool n.has, .string (ofL n.high), .int .i64 n.right, .slice (some ⟨b3, 0, none⟩) n.list.length c3] * (aEnts n (.slice (some ⟨b3, 0, none⟩) n.list.length c3) * (aSf gs S V * C)))) by ac_rfl)).right
            clear hX HCl S2
            cases more with
            | true =>
              rw [if_pos rfl] at HSc2
              go_wp2_with fail
              go_round
              case rel => exact ⟨j + 1, st2, by omega, bz_succ hzt hz2, by go_num, HSc2, S4⟩
              case measure => simp only [intOf]; omega
            | false =>
              rw [if_neg (by decide)] at HSc2
              have hr := HG3.out
              rw [HSc2.out] at hr
              dsimp only at hr
              rw [if_neg (by decide)] at hr
              subst hr
              go_wp2_with fail
              go_returns
              exact ⟨rfl, (S4.out.re (show _ = (Asn.blk g13 52 #[.int .i64 n.tree, .int .i64 n.level, .int .i64 n.stamp, .bool n.has, .string (ofL n.high), .int .i64 n.right, .slice (some ⟨b3, 0, none⟩) n.list.length c3] * aEnts n (.slice (some ⟨b3, 0, none⟩) n.list.length c3)) * (A st2 * (aSf gs S V * C)) by ac_rfl)).right⟩
          · obtain rfl : j = n.list.length := by omega
            have hsc := HSc.out
            rw [scan_none step st n.list _ (List.getElem?_eq_none (Nat.le_refl _))] at hsc
            have hr := HG3.out
            rw [hsc] at hr
            dsimp only at hr
            rw [if_pos rfl] at hr
            have HG4 := Lib.hid hr
            clear hr hsc HSc HG3
            obtain ⟨⟨k0, k1, k2, k3, k4, k5, k6⟩, -⟩ := seven7 (S1.out.has (Has.r (Has.l (has_blk g13 _ _))))
            by_cases hrt : n.right = 0
            · have hr := HG4.out
              rw [if_pos hrt] at hr
              subst hr
              go_wp2_with fail
              go_returns
              exact ⟨rfl, (S1.out.re (show _ = (Asn.blk g13 52 #[.int .i64 n.tree, .int .i64 n.level, .int .i64 n.stamp, .bool n.has, .string (ofL n.high), .int .i64 n.right, .slice A3 n.list.length c3] * aEnts n (.slice A3 n.list.length c3)) * (A st * (aSf gs S V * C)) by ac_rfl)).right⟩
            · have hr := HG4.out
              rw [if_neg hrt] at hr
              have HG5 := Lib.hid hr
              clear hr HG4
              go_wp2_with fail
              go_round
              case rel => exact ⟨l, n.right, st, by omega, bz_next hzt (Nat.le_refl _) hn9 hl, rfl, by congr 1; omega, HG5, Lib.hid (S1.out.re (show _ = (Asn.blk g13 52 #[.int .i64 n.tree, .int .i64 n.level, .int .i64 n.stamp, .bool n.has, .string (ofL n.high), .int .i64 n.right, .slice A3 n.list.length c3] * aEnts n (.slice A3 n.list.length c3)) * (A st * (aSf gs S V * C)) by ac_rfl)).right⟩
              case measure => simp only [intOf]; omega
end
end Go.Proofs.Ytapdpdhibpblgaa.Wk
