/- Scan, the document's; DiaryOpens, walked. -/
import Derived.Test.YtciamgggblajoaaDoorDyQ
import Derived.Test.YtciamgggblajoaaDoorNtQ
import Derived.Test.YtciamgggblajoaaDoorNtF
namespace Go.Proofs.YtciamgggblajoaaDoor.Nt
open Go.ChangeShapes Go.WideShapes Go.ChangeAt Go.RowKit Go.PlainAid Aid Cr
set_option linter.unusedVariables false
set_option linter.unusedSimpArgs false
/-- Records that were read. -/
def plainR : List (Rec × Q3) → List Value
  | [] => []
  | (r, q) :: t => (recCells r q.1 q.2.1 q.2.2).toList ++ plainR t
theorem plainR_snoc (M : List (Rec × Q3)) (r : Rec) (q : Q3) : plainR (M ++ [(r, q)]) = plainR M ++ (recCells r q.1 q.2.1 q.2.2).toList := by
  induction M with
  | nil => simp [plainR]
  | cons x t ih =>
    obtain ⟨a, b⟩ := x
    simp only [List.cons_append, plainR, ih, List.append_assoc]
theorem plainR_at (M : List (Rec × Q3)) (i : Nat) (r : Rec) (q : Q3) (h : M[i]? = some (r, q)) (j : Nat) (v : Value) (hj : (recCells r q.1 q.2.1 q.2.2)[j]? = some v) : (plainR M)[i * 11 + j]? = some v := by
  have hj11 : j < 11 := (Array.getElem?_eq_some_iff.1 hj).1
  induction M generalizing i with
  | nil => cases h
  | cons x t ih =>
    obtain ⟨a, b⟩ := x
    have hl : (recCells a b.1 b.2.1 b.2.2).toList.length = 11 := rfl
    cases i with
    | zero =>
      simp only [List.getElem?_cons_zero, Option.some.injEq, Prod.mk.injEq] at h
      obtain ⟨rfl, rfl⟩ := h
      rw [Nat.zero_mul, Nat.zero_add]
      simp only [plainR]
      rw [List.getElem?_append_left (by rw [hl]; exact hj11), Array.getElem?_toList]
      exact hj
    | succ i =>
      simp only [List.getElem?_cons_succ] at h
      have h2 := ih i h
      rw [show (i + 1) * 11 + j = 11 + (i * 11 + j) by omega]
      simp only [plainR]
      rw [List.getElem?_append_right (by rw [hl]; omega), hl, show 11 + (i * 11 + j) - 11 = i * 11 + j by omega]
      exact h2
theorem infoRec : (Tryd.prog.info? 28).map (fun i => (i.zero, i.size, i.bytes)) = some (some (.agg #[.int .i64 0, .int .i64 0, .int .i64 0, .int .i64 0, .slice none 0 0, .int .i64 0, .int .i64 0, .string ⟨#[]⟩, .string ⟨#[]⟩, .slice none 0 0, .slice none 0 0]), 11, 152) := by kernel_rfl
theorem vec_blk {w0 w : World} {O0 : Nat → Prop} {A : Asn} {g : Nat} {e : TypeId} (size : Nat) (h : Own w0 O0 w (Asn.blk g e #[] * A)) : Own w0 O0 w (Asn.vec e size (.slice (some ⟨g, 0, none⟩) 0 0) 0 [] * A) :=
  h.imp (Imp.l fun w O hb => ⟨⟨by simp, Or.inr ⟨g, 0, #[], rfl, Nat.zero_le _, hb.1, Nat.le_refl _, Nat.zero_le _, by simp, by simp⟩⟩, fun k => (hb.2 k).trans ⟨fun e => by simp [VB, Value.ownBlock, e], fun e => by simp [VB, Value.ownBlock] at e; exact e.symm⟩⟩)
set_option maxRecDepth 100000 in
set_option maxHeartbeats 4000000 in
theorem scan_any (L : List Rec) (t : By) (hL : ∀ r, r ∈ L → goodB r = true) (ht0 : readR t = none) (hz : (flat L ++ t).length ≤ 1099511627776) (w0 w : World) (C : Asn) (hS : Own w0 No w C) :
    Calls Tryd.prog 36 #[.string (ofL (flat L ++ t))] w fun e w' => ∃ p : Value × List (Rec × Q3), (recsOf p.2 = L ∧ e = .returned (.tuple #[p.1, .int .i64 (flat L).length])) ∧
      Own w0 No w' (Asn.vec 28 11 p.1 L.length (plainR p.2) * (aRecs p.2 * C)) := by
  have HG := Lib.hid hL
  have HN := Lib.hid ht0
  have hzL := hz
  rw [List.length_append] at hzL
  have S := Lib.hid (vec_blk 11 (hS.addEmp.comm.alloc #[] 28))
  have hxz : (ofL (flat L ++ t)).size = (flat L).length + t.length := by rw [ofL_sz, List.length_append]
  clear hS ht0 hL
  go_enter Tryd.func36, Tryd.ntmps36
  go_upto_region 3 with fail
  obtain ⟨g0, hgz⟩ : ∃ g, g = w.heap.size := ⟨_, rfl⟩
  rw [← hgz] at S ⊢
  clear hgz
  generalize w.alloc _ = w1 at *
  go_wp2_with fail
  go_loopw [4, 5, 6, 7, 8] (fun a i _ _ _ wr => ∃ (k : Nat) (M : List (Rec × Q3)), k ≤ L.length ∧ i = .int .i64 (flat (L.take k)).length ∧ Hid (recsOf M = L.take k) ∧ Hid (Own w0 No wr (Asn.vec 28 11 a k (plainR M) * (aRecs M * C)))) (fun _ i _ _ _ _ => (flat L).length + 8 - (intOf i).toNat)
  case atStart => exact ⟨0, [], Nat.zero_le _, rfl, rfl, S⟩
  case round =>
    clear S
    obtain ⟨k, M, hk, rfl, hM, hS⟩ := hrel
    obtain ⟨A1, c1, rfl⟩ := hS.out.vec.slice
    have hcut : flat L ++ t = flat (L.take k) ++ (flat (L.drop k) ++ t) := by rw [← List.append_assoc, ← flat_app, List.take_append_drop]
    have hatk : (flat (L.take k)).length ≤ (flat L).length := by have := congrArg List.length hcut; simp only [List.length_append] at this; omega
    have hsl := slice_from (P := Tryd.prog) Tryd.underlying9 (ofL (flat L ++ t)) (flat (L.take k)).length (flat (L.take k)).length rfl (by rw [ofL_sz, List.length_append]; omega)
    rw [ofL_drop, hcut, List.drop_left, ← hcut] at hsl
    have HR := Lib.hid (fun w => refRead_own (flat (L.drop k) ++ t) w (by have := congrArg List.length hcut; simp only [List.length_append] at this ⊢; omega))
    generalize hy : ofL (flat (L.drop k) ++ t) = y at *
    obtain ⟨e, he⟩ : ∃ e, e = (flat (L.take k)).length := ⟨_, rfl⟩
    rw [← he] at hsl hatk ⊢
    by_cases hlt : k < L.length
    · obtain ⟨r, hr⟩ : ∃ r, L[k]? = some r := ⟨L[k]'hlt, List.getElem?_eq_getElem _⟩
      have hg : goodB r = true := HG.out r (List.mem_of_getElem? hr)
      have hdr : L.drop k = r :: L.drop (k + 1) := by
        rw [List.drop_eq_getElem_cons hlt]
        rw [List.getElem?_eq_getElem hlt] at hr
        rw [Option.some.inj hr]
      have htk : L.take (k + 1) = L.take k ++ [r] := by rw [List.take_add_one, hr]; rfl
      obtain ⟨n, hn⟩ : ∃ n, n = (bytes r).length := ⟨_, rfl⟩
      rw [hdr, flat_cons, List.append_assoc, read_bytes r hg, ← hn] at HR
      have hle : e + n ≤ (flat L).length := by
        have h1 := at_end L k r hr
        unfold at_ at h1
        omega
      have hpos : 8 ≤ n := by have := bytes_pos r; omega
      have hw2 : IntKind.i64.wrap ((e : Int) + n) = ((e : Int) + n) := by rw [IntKind.wrap_i64]; omega
      have hen : e + n = (flat (L.take (k + 1))).length := by rw [htk, flat_snoc, List.length_append, ← he, ← hn]
      have HEN := Lib.hid hen
      have HTO := Lib.hid (plainR_snoc M r)
      have HM2 : Hid (∀ q, recsOf (M ++ [(r, q)]) = L.take (k + 1)) := Lib.hid fun q => by rw [htk, ← hM.out]; simp [recsOf]
      have hfew := few_recs L
      clear hcut hy hr hg hdr htk hen he hn
      generalize ofL (flat L ++ t) = x at *
      have hex : (e : Int) < (x.size : Int) := by omega
      go_wp2_with fail
      refine (HR.out _).mono ?_
      rintro e' w2 ⟨⟨p1, p2, p3⟩, rfl, hX⟩
      have S2 := own_front (own_join hS.out hX)
      unfold rR at hX S2
      dsimp only at hX S2
      obtain ⟨B1, m1, rfl⟩ := hX.vec.slice
      obtain ⟨B2, m2, rfl⟩ := hX.right.vec.slice
      obtain ⟨B3, m3, rfl⟩ := hX.right.vecR.slice
      have S3 := Lib.hid (own_front (S2.alloc (recCells r (.slice B1 r.pages.length m1) (.slice B2 r.opn.length m2) (.slice B3 r.dty.length m3)) 28))
      clear S2 hX hS HR hM
      unfold dV recV rR
      dsimp only
      unfold recCells at *
      go_upto_region 5 with fail
      obtain ⟨g6, hgz⟩ : ∃ g, g = w2.heap.size := ⟨_, rfl⟩
      rw [← hgz] at S3 ⊢
      clear hgz
      generalize w2.alloc _ = w3 at *
      obtain ⟨⟨b0, b1, b2, b3, b4, b5, b6, b7, b8, b9, b10⟩, -⟩ := eleven (S3.out.has (Has.r (Has.l (has_blk _ _ _))))
      have S4 := Lib.hid (S3.out.alloc #[.int .i64 r.kind, .int .i64 r.deal, .int .i64 r.prev, .int .i64 r.next, .slice B1 r.pages.length m1, .int .i64 r.und.kind, .int .i64 r.und.tree, .string (ofL r.und.key), .string (ofL r.und.val), .slice B2 r.opn.length m2, .slice B3 r.dty.length m3] 28).right
      have CX : Hid (Src Tryd.prog 11 53 (.slice (some ⟨w3.heap.size, 0, none⟩) 1 1) 1 [.int .i64 r.kind, .int .i64 r.deal, .int .i64 r.prev, .int .i64 r.next, .slice B1 r.pages.length m1, .int .i64 r.und.kind, .int .i64 r.und.tree, .string (ofL r.und.key), .string (ofL r.und.val), .slice B2 r.opn.length m2, .slice B3 r.dty.length m3] (w3.alloc (.cells #[.int .i64 r.kind, .int .i64 r.deal, .int .i64 r.prev, .int .i64 r.next, .slice B1 r.pages.length m1, .int .i64 r.und.kind, .int .i64 r.und.tree, .string (ofL r.und.key), .string (ofL r.und.val), .slice B2 r.opn.length m2, .slice B3 r.dty.length m3] 28))) := Lib.hid (Src.ofSlice _ Tryd.underlying53 _ 1 1 _ rfl (blk_cells (Blk.new w3 #[.int .i64 r.kind, .int .i64 r.deal, .int .i64 r.prev, .int .i64 r.next, .slice B1 r.pages.length m1, .int .i64 r.und.kind, .int .i64 r.und.tree, .string (ofL r.und.key), .string (ofL r.und.val), .slice B2 r.opn.length m2, .slice B3 r.dty.length m3] 28)) (by intro u hu; simp at hu; rcases hu with rfl | rfl | rfl | rfl | rfl | rfl | rfl | rfl | rfl | rfl | rfl <;> rfl))
      clear S3
      go_wp2_with (with_reducible refine wpList_append_vec rfl (.tmp 26) (.tmp 28) 53 53 rfl 28 _ 11 152 Tryd.underlying53 infoRec ?k1 ?k2 _ k (plainR M) ?k7 S4.out.vec (.slice (some ⟨w3.heap.size, 0, none⟩) 1 1) ?k8 1 _ CX.out ?k3 ?k4 ?_)
      all_goals first | (case k1 => rfl) | (case k2 => decide) | (case k3 => unfold maxLen; omega) | (case k4 => omega) | (case k7 => rfl) | (case k8 => rfl) | skip
      intro v' w5 hv hc hf
      have S8 := S4.out.app hv hc hf
      have hto := HTO.out (.slice B1 r.pages.length m1, .slice B2 r.opn.length m2, .slice B3 r.dty.length m3)
      have S9 := S8.imp (show Imp _ (Asn.vec 28 11 v' (k + 1) (plainR (M ++ [(r, (.slice B1 r.pages.length m1, .slice B2 r.opn.length m2, .slice B3 r.dty.length m3))])) * _) by rw [hto]; exact fun _ _ h => h)
      obtain ⟨A2', c2', rfl⟩ := hv.slice
      have S11 := Lib.hid ((own_front S9).right.imp (Imp.r (recs_snoc M r _)))
      clear S4 CX hv hc hf S8 S9 b0 b1 b2 b3 b4 b5 b6 b7 b8 b9 b10
      go_wp2_with fail
      go_roundw
      case rel => exact ⟨k + 1, M ++ [(r, _)], by omega, by rw [← HEN.out]; first | rfl | go_num, HM2.out _, S11⟩
      case measure => simp [intOf, hw2]; omega
    · obtain rfl : k = L.length := by omega
      rw [List.drop_length, show flat [] ++ t = t from rfl, HN.out] at HR
      clear hcut hy
      rw [List.take_length] at he hM
      have HE := Lib.hid he
      by_cases ht : t.length = 0
      · have hex : ¬ (e : Int) < ((ofL (flat L ++ t)).size : Int) := by omega
        clear he
        generalize ofL (flat L ++ t) = x at *
        go_wp2_with fail
        go_returns
        first | exact ⟨(_, M), ⟨hM.out, by rw [HE.out]; rfl⟩, hS.out⟩ | exact ⟨_, M, ⟨hM.out, by rw [HE.out]; rfl⟩, hS.out⟩ | exact ⟨_, M, ⟨hM.out, by rw [HE.out]⟩, hS.out⟩
      · have hex : (e : Int) < ((ofL (flat L ++ t)).size : Int) := by omega
        clear he
        generalize ofL (flat L ++ t) = x at *
        go_wp2_with fail
        refine (HR.out _).mono ?_
        rintro e' w2 ⟨⟨p1, p2, p3⟩, rfl, hX⟩
        have S2 := hS.out.below hX.bel
        unfold rR at hX
        dsimp only at hX
        obtain ⟨B1, m1, rfl⟩ := hX.vec.slice
        obtain ⟨B2, m2, rfl⟩ := hX.right.vec.slice
        obtain ⟨B3, m3, rfl⟩ := hX.right.vecR.slice
        have S3 := Lib.hid (S2.alloc (recCells Rec.none (.slice B1 Rec.none.pages.length m1) (.slice B2 Rec.none.opn.length m2) (.slice B3 Rec.none.dty.length m3)) 28).right
        clear S2 hX hS HR
        unfold dV recV rR
        dsimp only
        unfold recCells at *
        go_wp2_with fail
        go_returns
        exact ⟨(_, M), ⟨hM.out, by rw [HE.out]; rfl⟩, S3.out⟩
/-- A record of those that Scan told, in memory. -/
theorem plain_cells {w0 w : World} {O0 : Nat → Prop} {b c : Nat} {L : List Rec} {M : List (Rec × Q3)} {C : Asn} (hM : recsOf M = L) (hO : Own w0 O0 w (Asn.vec 28 11 (.slice (some ⟨b, 0, none⟩) L.length c) L.length (plainR M) * (aRecs M * C))) (i : Nat) (r : Rec) (hr : L[i]? = some r) :
    ∃ A1 m1 A2 m2 A3 m3, RecAt w (.agg (recCells r (.slice A1 r.pages.length m1) (.slice A2 r.opn.length m2) (.slice A3 r.dty.length m3))) r ∧
      (w.cell? ⟨b, i * 11, none⟩ = some (.int .i64 r.kind) ∧ w.cell? ⟨b, i * 11 + 1, none⟩ = some (.int .i64 r.deal) ∧ w.cell? ⟨b, i * 11 + 2, none⟩ = some (.int .i64 r.prev) ∧ w.cell? ⟨b, i * 11 + 3, none⟩ = some (.int .i64 r.next) ∧ w.cell? ⟨b, i * 11 + 4, none⟩ = some (.slice A1 r.pages.length m1) ∧
      w.cell? ⟨b, i * 11 + 5, none⟩ = some (.int .i64 r.und.kind) ∧ w.cell? ⟨b, i * 11 + 6, none⟩ = some (.int .i64 r.und.tree) ∧ w.cell? ⟨b, i * 11 + 7, none⟩ = some (.string (ofL r.und.key)) ∧ w.cell? ⟨b, i * 11 + 8, none⟩ = some (.string (ofL r.und.val)) ∧ w.cell? ⟨b, i * 11 + 9, none⟩ = some (.slice A2 r.opn.length m2) ∧ w.cell? ⟨b, i * 11 + 10, none⟩ = some (.slice A3 r.dty.length m3)) := by
  have hi : i < M.length := by have := (List.getElem?_eq_some_iff.1 hr).1; rw [← hM] at this; simpa [recsOf] using this
  obtain ⟨⟨r', q1, q2, q3⟩, hq⟩ : ∃ x, M[i]? = some x := ⟨_, List.getElem?_eq_getElem hi⟩
  have : r' = r := by
    have h1 : (recsOf M)[i]? = some r' := by simp [recsOf, hq]
    rw [hM, hr] at h1
    exact (Option.some.inj h1).symm
  subst this
  have hl := recs_at M i r' _ hq hO.right.left
  obtain ⟨A1, m1, rfl⟩ := hl.vec.slice
  obtain ⟨A2, m2, rfl⟩ := hl.right.vec.slice
  obtain ⟨A3, m3, rfl⟩ := hl.right.vecR.slice
  have hv := hO.vec
  have hc : ∀ j v, (recCells r' (.slice A1 r'.pages.length m1) (.slice A2 r'.opn.length m2) (.slice A3 r'.dty.length m3))[j]? = some v → w.cell? ⟨b, i * 11 + j, none⟩ = some v := fun j v hj => hv.cell (plainR_at M i r' _ hq j v hj)
  exact ⟨A1, m1, A2, m2, A3, m3, lists_at hl, hc 0 _ rfl, hc 1 _ rfl, hc 2 _ rfl, hc 3 _ rfl, hc 4 _ rfl, hc 5 _ rfl, hc 6 _ rfl, hc 7 _ rfl, hc 8 _ rfl, hc 9 _ rfl, hc 10 _ rfl⟩
theorem told_head (n : Nat) (M : List (Rec × Q3)) (i : Nat) (h : i < M.length) : (told n M)[i * 12]? = some (.int .i64 ((n + at_ (recsOf M) i : Nat) : Int)) := by
  induction M generalizing n i with
  | nil => cases h
  | cons x t ih =>
    obtain ⟨a, b⟩ := x
    have hl : (recCells a b.1 b.2.1 b.2.2).toList.length = 11 := rfl
    cases i with
    | zero => rfl
    | succ i =>
      have h2 := ih (n + (bytes a).length) i (by simpa using h)
      rw [show (i + 1) * 12 = (11 + i * 12) + 1 by omega]
      simp only [told, List.getElem?_cons_succ]
      rw [List.getElem?_append_right (by rw [hl]; omega), hl, show 11 + i * 12 - 11 = i * 12 by omega, h2]
      have e : recsOf ((a, b) :: t) = a :: recsOf t := rfl
      rw [e, at_succ, show n + (bytes a).length + at_ (recsOf t) i = n + ((bytes a).length + at_ (recsOf t) i) by omega]
set_option maxRecDepth 100000 in
set_option maxHeartbeats 1000000 in
theorem opens_big (s : ByteArray) (w : World) (ht : Tab w) (hm : 2048 < s.size) (hl : s.size ≤ maxLen) :
    Calls Tryd.prog 5 #[.string s] w fun e w' => e = .returned (.bool true) ∧ Below w.heap.size w w' := by
  unfold maxLen at hl
  have HA := Lib.hid (fun w ht => dawake_any w ht)
  have HT := Lib.hid ht
  clear ht
  go_enter Tryd.func5, Tryd.ntmps5
  go_wp2_with fail
  refine (HA.out _ HT.out).mono ?_
  rintro e w0 ⟨rfl, hb⟩
  have B0 := Lib.hid (hb)
  clear hb 
  go_wp2_with fail
  go_returns
  exact ⟨rfl, B0.out⟩
theorem fold_open {w0 w : World} {O0 : Nat → Prop} {B R T M C : Asn} (h : Own w0 O0 w (((B * R) * T) * (M * C))) : Own w0 O0 w (R * (M * (B * (T * C)))) :=
  ((h.assoc.imp (Imp.l (fun _ _ => sep_comm))).assoc.imp (Imp.r (Imp.r imp_front))).imp (Imp.r imp_front)
theorem want_front {w0 w : World} {O0 : Nat → Prop} {R M B T V Q X : Asn} (h : Own w0 O0 w (R * (M * (B * (T * (V * (Q * X))))))) : Own w0 O0 w (V * (Q * (R * (M * (B * (T * X)))))) := by
  have h1 : Own w0 O0 w (R * (M * (B * (V * (T * (Q * X)))))) := h.imp (Imp.r (Imp.r (Imp.r imp_front)))
  have h2 : Own w0 O0 w (V * (R * (M * (B * (T * (Q * X)))))) := h1.imp out3
  have h3 : Own w0 O0 w (V * (R * (M * (B * (Q * (T * X)))))) := h2.imp (Imp.r (Imp.r (Imp.r (Imp.r imp_front))))
  exact h3.imp (Imp.r out3)
set_option maxRecDepth 100000 in
set_option maxHeartbeats 8000000 in
theorem opens_any (l : By) (w : World) (ht : Tab w) (hm : l.length ≤ 2048) :
    Calls Tryd.prog 5 #[.string (ofL l)] w fun e w' => e = .returned (.bool true) ∧ Below w.heap.size w w' := by
  obtain ⟨L, t, hl, hG, hN⟩ := splits l
  have hll : (flat L).length + t.length ≤ 2048 := by rw [hl, List.length_append] at hm; exact hm
  have HT := Lib.hid ht
  have HA := Lib.hid (fun w ht => dawake_any w ht)
  have HD := Lib.hid (fun m q => Rl.tNew m q 4096)
  rw [show Rl.nearR 4096 = 4096 by decide] at HD
  have hLb : L.length ≤ 2048 := by have := few_recs L; omega
  have hxz : (ofL l).size = (flat L).length + t.length := by rw [hl, ofL_sz, List.length_append]
  have he0 : (⟨#[]⟩ : ByteArray) ++ ofL l = ofL (flat L ++ t) := by rw [← hl]; exact ofL_app [] l
  have HAp := Lib.hid (fun gr m => Rl.tAppend_ok gr m 4096 ⟨#[]⟩ 0 Rl.idle (ofL l) (by rw [hxz]; show _ ≤ ((4096 : Nat) : Int) - 0; omega) rfl)
  rw [he0] at HAp
  have HSc := Lib.hid (fun w1 C h => scan_any L t hG hN (by rw [List.length_append]; omega) w w1 C h)
  rw [← hl] at HSc
  have HJ : Hid (∀ gr m t' safe w1 C, readR t' = none → (t' = [] → t = [] ∨ safe = (flat L).length) → Own w No w1 (Rl.aRl gr m 4096 (ofL (flat L ++ t')) safe * (Mn.aMn m Rl.idle * C)) → Calls Tryd.prog 19 #[lPtr gr] w1 fun e w' => ∃ (p : Nat × Value × Value × List (Rec × Q3)) (s2 : Nat), (recsOf p.2.2.2 = L ∧ e = .returned (.tuple #[lPtr p.1, p.2.2.1, .int .i64 0])) ∧ (t = [] ∨ s2 = (flat L).length) ∧ Own w No w' (aOpen gr m 4096 s2 L p * (Mn.aMn m Rl.idle * C))) := by
    refine Lib.hid fun gr m t' safe w1 C hn' hs' h => ?_
    by_cases ht' : t' = []
    · subst ht'
      rw [List.append_nil] at h
      exact (Open_whole gr m 4096 safe Rl.idle L rfl hG w w1 C ht h).mono fun e w' ⟨p, a, b⟩ => ⟨p, safe, a, hs' rfl, b⟩
    · exact (Open_torn gr m 4096 safe Rl.idle L t' hn' ht' rfl rfl hG w w1 C ht h).mono fun e w' ⟨p, a, b⟩ => ⟨p, _, a, Or.inr rfl, b⟩
  have HGo := Lib.hid (fun r (hr : r ∈ L) => goods (hG r hr))
  have HSm := Lib.hid (fun r (hr : r ∈ L) => small_bytes (hG r hr))
  have HNn := Lib.hid hN
  have HTT : Hid (t = [] → t = [] ∨ (0 : Nat) = (flat L).length) := Lib.hid (fun h => Or.inl h)
  clear ht hl hG hN he0 hm
  generalize ofL l = x at *
  unfold lPtr at *
  go_enter Tryd.func5, Tryd.ntmps5
  go_wp2_with fail
  refine (HA.out _ HT.out).mono ?_
  rintro e w0 ⟨rfl, hb⟩
  have B0 := Lib.hid (hb)
  clear hb 
  have S0 := Lib.hid (Own.of_below B0.out)
  clear B0 HA
  go_wp2_with fail
  refine (S0.out.callE Mn.tNew).mono ?_
  rintro e w1 ⟨m, rfl, h1⟩
  have S1 := Lib.hid h1
  clear h1 S0
  go_wp2_with fail
  refine (S1.out.callE (HD.out _ _)).mono ?_
  rintro e w2 ⟨gr, rfl, h1⟩
  have S2 := Lib.hid (h1.addEmp)
  clear h1 S1 HD
  go_wp2_with fail
  refine (S2.out.call (HAp.out _ _).l).mono ?_
  rintro e w3 ⟨rfl, hX⟩
  have S3 := Lib.hid hX.assoc
  clear hX S2 HAp
  go_wp2_with fail
  refine (HSc.out _ _ S3.out).mono ?_
  rintro e w4 ⟨⟨v5, M⟩, ⟨hM, rfl⟩, hX⟩
  dsimp only at hM hX
  obtain ⟨A5, c5, rfl⟩ := hX.vec.slice
  have S4 : Hid (Own w No w4 (Rl.aRl gr m 4096 (ofL (flat L ++ t)) 0 * (Mn.aMn m Rl.idle * (Asn.vec 28 11 (.slice A5 L.length c5) L.length (plainR M) * (aRecs M * Asn.emp))))) := Lib.hid (((hX.imp (Imp.r imp_front)).imp imp_front).imp (Imp.r (fun w O h => imp_front w O ((Imp.r imp_front) w O ((Imp.r (Imp.r (fun _ _ h => h))) w O h)))))
  clear hX S3 HSc
  dsimp only
  go_wp2_with fail
  go_loopw [7, 8, 9, 10, 11, 12] (fun rd _ _ _ _ _ wr => ∃ (k : Nat) (t' : By) (safe : Nat) (X : Asn), k ≤ 2 ∧ rd = .int .i64 k ∧ Hid (readR t' = none) ∧ Hid (t' = [] → t = [] ∨ safe = (flat L).length) ∧ Hid (Own w No wr (Rl.aRl gr m 4096 (ofL (flat L ++ t')) safe * (Mn.aMn m Rl.idle * (Asn.vec 28 11 (.slice A5 L.length c5) L.length (plainR M) * (aRecs M * X)))))) (fun rd _ _ _ _ _ _ => 2 - (intOf rd).toNat)
  case atStart => exact ⟨0, t, 0, Asn.emp, by omega, rfl, HNn, HTT, S4⟩
  case round =>
    clear S4 HTT HNn
    obtain ⟨k, t', safe, X, hk, rfl, hn, hsf, hS⟩ := hrel
    by_cases hk2 : k < 2
    · have HO := Lib.hid (HJ.out gr m t' safe wr _ hn.out hsf.out hS.out)
      clear hS hsf hn
      go_wp2_with fail
      refine HO.out.mono ?_
      rintro e w5 ⟨⟨g, v3, v4, M2⟩, s2, ⟨hM2, rfl⟩, hs2, hX⟩
      dsimp only at hM2 hX
      obtain ⟨A4, c4, rfl⟩ := hX.left.right.vec.slice
      have hlen := hX.ask (Rl.qLen gr m 4096 (ofL (flat L)) s2).r.l.l
      have hsaf := hX.ask (Rl.qSafe gr m 4096 (ofL (flat L)) s2).r.l.l
      rw [ofL_sz] at hlen
      have HLn := Lib.hid (Rl.qLen gr m 4096 (ofL (flat L)) s2)
      rw [ofL_sz] at HLn
      have HSf := Lib.hid (Rl.qSafe gr m 4096 (ofL (flat L)) s2)
      clear hlen hsaf HO
      have S5 := Lib.hid hX
      clear hX
      unfold aOpen at S5
      dsimp only at S5
      have hcs : (¬ ((flat L).length : Int) < (x.size : Int)) ∨ (s2 = (flat L).length ∧ ((flat L).length : Int) < (x.size : Int)) := by
        rcases Nat.eq_zero_or_pos t.length with h | h
        · exact Or.inl (by omega)
        · rcases hs2 with h2 | h2
          · subst h2; cases h
          · exact Or.inr ⟨h2, by omega⟩
      have HS2 := Lib.hid hs2
      clear hs2
      have HMem : Hid (∀ j, j < L.length → ∃ r, L[j]? = some r ∧ r ∈ L) := Lib.hid (fun j hj => ⟨L[j], List.getElem?_eq_getElem hj, List.getElem_mem hj⟩)
      go_upto_region 14 with fail
      go_cut [76] (fun z wx => z = .bool false ∧ Hid (Own w No wx (((Asn.blk g 120 (lgRow gr v3 0) * Asn.vec 127 2 v3 L.length (rows 0 L)) * Rl.aRl gr m 4096 (ofL (flat L)) s2) * (Asn.vec 73 12 (.slice A4 L.length c4) L.length (told 0 M2) * aRecs M2) * (Mn.aMn m Rl.idle * (Asn.vec 28 11 (.slice A5 L.length c5) L.length (plainR M) * (aRecs M * X))))))
      case first =>
        rcases hcs with hlt | ⟨hs2, hlt⟩
        · go_wp2_with fail
          refine (S5.out.ask HLn.out.r.l.l).mono ?_
          rintro e w6 ⟨rfl, kq, rfl⟩
          have S6 := Lib.hid (S5.out.drewN kq)
          clear S5
          generalize w5.drewN kq = w6 at *
          go_wp2_with fail
          go_meet
          case rel => exact ⟨rfl, S6⟩
        · go_wp2_with fail
          refine (S5.out.ask HLn.out.r.l.l).mono ?_
          rintro e w6 ⟨rfl, kq, rfl⟩
          have S6 := Lib.hid (S5.out.drewN kq)
          clear S5
          generalize w5.drewN kq = w6 at *
          go_wp2_with fail
          refine (S6.out.ask HSf.out.r.l.l).mono ?_
          rintro e w7 ⟨rfl, kq, rfl⟩
          have S7 := Lib.hid (S6.out.drewN kq)
          clear S6
          generalize w6.drewN kq = w7 at *
          have hsI : ((s2 : Int) != ((flat L).length : Int)) = false := by rw [hs2]; simp
          go_wp2_with fail
          go_meet
          case rel => exact ⟨by first | rfl | simp [hsI] | (rw [hsI]; rfl), S7⟩
      case rest =>
        obtain ⟨rfl, S6⟩ := hcut
        clear HLn HSf S5 hcs
        go_wp2_with fail
        go_loopw [11, 12] (fun a i wr => ∃ j : Nat, j ≤ L.length ∧ i = .int .i64 j ∧ a = .int .i64 (at_ L j) ∧ Hid (Own w No wr (((Asn.blk g 120 (lgRow gr v3 0) * Asn.vec 127 2 v3 L.length (rows 0 L)) * Rl.aRl gr m 4096 (ofL (flat L)) s2) * (Asn.vec 73 12 (.slice A4 L.length c4) L.length (told 0 M2) * aRecs M2) * (Mn.aMn m Rl.idle * (Asn.vec 28 11 (.slice A5 L.length c5) L.length (plainR M) * (aRecs M * X)))))) (fun _ i _ => L.length - (intOf i).toNat)
        case atStart => exact ⟨0, Nat.zero_le _, rfl, rfl, S6⟩
        case round =>
          clear S6
          obtain ⟨j, hj, rfl, rfl, hS⟩ := hrel
          by_cases hjl : j < L.length
          · obtain ⟨r, hr, hmem⟩ := HMem.out j hjl
            have HTo := (own_front hS.out.assoc).assoc
            have HPl := (((own_front hS.out).imp (Imp.r imp_front)).imp imp_front).imp (Imp.r (fun w O h => imp_front w O ((Imp.r imp_front) w O h)))
            rcases HTo.vec.forms with ⟨-, hz⟩ | ⟨b4, cap4, hvv, -, -, -⟩
            · omega
            simp only [Value.slice.injEq, true_and] at hvv
            obtain ⟨rfl, rfl⟩ := hvv
            rcases HPl.vec.forms with ⟨-, hz⟩ | ⟨b5, cap5, hvv, -, -, -⟩
            · omega
            simp only [Value.slice.injEq, true_and] at hvv
            obtain ⟨rfl, rfl⟩ := hvv
            have hm2l : j < M2.length := by have := congrArg List.length hM2; simp [recsOf] at this; omega
            have hst := HTo.vec.cell (told_head 0 M2 j hm2l)
            rw [hM2, Nat.zero_add] at hst
            obtain ⟨D1, m1, D2, m2, D3, m3, hrec2, d0, d1, d2, d3, d4, d5, d6, d7, d8, d9, d10⟩ := told_cells hM2 HTo j r hr
            obtain ⟨B1, n1, B2, n2, B3, n3, hrec, b0, b1, b2, b3, b4', b5', b6, b7, b8, b9, b10⟩ := plain_cells hM HPl j r hr
            have hbd : Below wr.heap.size wr wr.drew := ⟨rfl, rfl, rfl, Nat.le_refl _, fun _ _ => rfl⟩
            have HSame := Lib.hid (Same_any r r _ _ wr.drew (hrec2.keep hbd) (hrec.keep hbd))
            rw [decide_eq_true rfl] at HSame
            have hnext := at_next L j r hr
            have hsm := HSm.out r hmem
            have hgr := HGo.out r hmem
            have hjI : (j : Int) < (L.length : Int) := by omega
            have hate : at_ L j ≤ 2049 := by have := at_end L j r hr; omega
            clear HTo HPl hbd hm2l
            unfold recCells at HSame
            generalize hat : at_ L j = aj at *
            have hbe : ((aj : Int) != (aj : Int)) = false := by simp
            go_upto_region 20 with fail
            go_wp2_with fail
            refine wp_region_still_tail 17 (by kernel_rfl) (by kernel_rfl) ?_
            simp only [List.take_succ_cons, List.take_zero, List.drop_succ_cons, List.drop_zero]
            change wpStill _ _ wr.drew _ _ _
            repeat still_step
            refine wpStill_nil ?_
            change wpList _ _ _ _ _ wr.drew
            have S9 := Lib.hid hS.out.drew
            clear hS b0 b1 b2 b3 b4' b5' b6 b7 b8 b9 b10 d0 d1 d2 d3 d4 d5 d6 d7 d8 d9 d10 hst hrec hrec2
            go_wp2_with fail
            refine HSame.out.mono ?_
            rintro e w8 ⟨rfl, hX⟩
            have S10 := Lib.hid (S9.out.below hX)
            clear hX S9 HSame
            have HPl := (((own_front S10.out).imp (Imp.r imp_front)).imp imp_front).imp (Imp.r (fun w O h => imp_front w O ((Imp.r imp_front) w O h)))
            obtain ⟨E1, n1, E2, n2, E3, n3, hrec, b0, b1, b2, b3, b4', b5', b6, b7, b8, b9, b10⟩ := plain_cells hM HPl j r hr
            have HBy := Lib.hid (refBytes_any r hgr _ w8 hrec)
            unfold recCells at HBy
            have hbz : (ofL (bytes r)).size = (bytes r).length := rfl
            have hwn : IntKind.i64.wrap ((aj : Int) + (bytes r).length) = (aj : Int) + (bytes r).length := by rw [IntKind.wrap_i64]; omega
            have HNX : Hid (((at_ L (j + 1) : Nat) : Int) = (aj : Int) + (bytes r).length) := Lib.hid (by rw [hnext]; omega)
            clear HPl hrec hnext hsm
            generalize (bytes r).length = nb at *
            generalize ofL (bytes r) = yb at *
            go_wp2_with fail
            refine HBy.out.mono ?_
            rintro e w9 ⟨rfl, hX⟩
            have S11 := Lib.hid (S10.out.below hX)
            clear hX S10 HBy b0 b1 b2 b3 b4' b5' b6 b7 b8 b9 b10
            go_wp2_with fail
            go_roundw
            case rel => exact ⟨j + 1, by omega, by go_num, by rw [HNX.out], S11⟩
            case measure => simp [intOf]; omega
          · obtain rfl : j = L.length := by omega
            have h9 := (fold_open hS.out).imp (Imp.r (Imp.r (fun w O h => (Imp.r imp_front) w O ((Imp.r (Imp.r imp_front)) w O (imp_front w O ((Imp.r imp_front) w O h))))))
            rw [← List.append_nil (flat L)] at h9
            have S9 := Lib.hid h9
            clear hS h9
            go_wp2_with fail
            go_roundw
            case rel => exact ⟨k + 1, [], s2, _, by omega, by go_num, read_nil, Lib.hid (fun _ => HS2.out), S9⟩
            case measure => simp [intOf]; omega
    · obtain rfl : k = 2 := by omega
      have HOf := Lib.hid (Mn.tOff m Rl.idle)
      go_wp2_with fail
      refine (hS.out.call HOf.out.l.r).mono ?_
      rintro e w5 ⟨rfl, hX⟩
      have S5 := Lib.hid hX
      clear hX hS HOf
      have HOd := Lib.hid (Open_down gr m 4096 safe Rl.idle.off _ rfl w w5 _ S5.out)
      unfold lPtr at HOd
      clear S5
      go_wp2_with fail
      refine HOd.out.mono ?_
      rintro e w6 ⟨rfl, hX⟩
      have S6 := Lib.hid hX.bel
      clear hX HOd
      go_wp2_with fail
      refine (Open_nil _).mono ?_
      rintro e w7 ⟨rfl, rfl⟩
      go_wp2_with fail
      go_returns
      exact ⟨rfl, S6.out⟩
end Go.Proofs.YtciamgggblajoaaDoor.Nt
