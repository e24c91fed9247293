/- A log is opened. -/
import Derived.Test.YtapdpdhibpblgaaGreatDoorDyE
namespace Go.Proofs.YtapdpdhibpblgaaGreatDoor.Nt
open Go.ChangeShapes Go.WideShapes Go.ChangeAt Go.RowKit Go.PlainAid Aid Cr
set_option linter.unusedVariables false
set_option linter.unusedSimpArgs false
abbrev Q3 := Value × Value × Value
/-- Records that were read, each with its stamp. -/
def told : Nat → List (Rec × Q3) → List Value
  | _, [] => []
  | n, (r, q) :: t => .int .i64 ((n + 1 : Nat) : Int) :: ((recCells r q.1 q.2.1 q.2.2).toList ++ told (n + (bytes r).length) t)
def aRecs : List (Rec × Q3) → Asn
  | [] => Asn.emp
  | (r, q) :: t => aLists r q * aRecs t
def recsOf (M : List (Rec × Q3)) : List Rec := M.map Prod.fst
theorem told_snoc (n : Nat) (M : List (Rec × Q3)) (r : Rec) (q : Q3) : told n (M ++ [(r, q)]) = told n M ++ (.int .i64 ((n + (flat (recsOf M)).length + 1 : Nat) : Int) :: (recCells r q.1 q.2.1 q.2.2).toList) := by
  induction M generalizing n with
  | nil => simp [told, recsOf, flat]
  | cons x t ih =>
    obtain ⟨a, b⟩ := x
    have e : recsOf ((a, b) :: t) = a :: recsOf t := rfl
    simp only [List.cons_append, told, ih, e, flat_cons, List.length_append, List.append_assoc]
    rw [show n + (bytes a).length + (flat (recsOf t)).length + 1 = n + ((bytes a).length + (flat (recsOf t)).length) + 1 by omega]
theorem imp_front {A B C : Asn} : Imp (A * (B * C)) (B * (A * C)) := fun w O h => sep_assoc ((Imp.l (fun _ _ => sep_comm)) w O (sep_assoc' h))
theorem recs_snoc (M : List (Rec × Q3)) (r : Rec) (q : Q3) {A : Asn} : Imp (aLists r q * (aRecs M * A)) (aRecs (M ++ [(r, q)]) * A) := by
  have key : ∀ (M : List (Rec × Q3)) w O, (aLists r q * aRecs M).P w O → (aRecs (M ++ [(r, q)])).P w O := by
    intro M
    induction M with
    | nil => exact fun w O h => h
    | cons x t ih =>
      obtain ⟨a, b⟩ := x
      intro w O h
      have h1 : (aLists a b * (aLists r q * aRecs t)).P w O := by
        have h2 := sep_assoc' h
        exact sep_assoc ((Imp.l (fun _ _ => sep_comm)) w O h2)
      exact (Imp.r (ih)) w O h1
  exact fun w O h => (Imp.l (key M)) w O (sep_assoc' h)
theorem blk_cells {w : World} {g : Nat} {T : TypeId} {cs : Array Value} (h : Blk w g T cs) : ∀ j u, cs.toList[j]? = some u → w.cell? ((⟨g, 0, none⟩ : Addr).add j) = some u := by
  intro j u hu
  rw [addr_zero, h.cell j]
  simpa using hu
theorem slice_mid {P : Program} {t : TypeId} (ht : P.underlying t = some .string) (s : ByteArray) (a b : Nat) (x y : Int) (hx : x = a) (hy : y = b) (h1 : a ≤ b) (h2 : b ≤ s.size) (w : World) :
    (Instr.slice t (.string s) (some (.int .i64 x)) (some (.int .i64 y)) none).run P w = .ok (.string (s.extract a b)) w := by
  subst hx hy
  have := run_slice_string (P := P) w t s .i64 .i64 (a : Int) (b : Int) ht (by omega) (by omega) (by omega)
  rw [this, Int.toNat_natCast, Int.toNat_natCast]
theorem ofL_mid (a b c : By) : (ofL (a ++ (b ++ c))).extract a.length (a.length + b.length) = ofL b := by
  apply list_inj
  rw [Lib.extract_data]
  simp [ofL]
theorem infoSt : (Tryz.prog.info? 176).map (fun i => (i.zero, i.size, i.bytes)) = some (some (.agg #[.int .i64 0, .int .i64 0, .int .i64 0, .int .i64 0, .int .i64 0, .slice none 0 0, .int .i64 0, .int .i64 0, .string ⟨#[]⟩, .string ⟨#[]⟩, .slice none 0 0, .slice none 0 0]), 12, 160) := by kernel_rfl
set_option maxRecDepth 100000 in
set_option maxHeartbeats 4000000 in
theorem split_any (L : List Rec) (t : By) (hL : ∀ r, r ∈ L → goodB r = true) (ht0 : readR t = none) (hz : (flat L ++ t).length ≤ 1099511627776) (w0 w : World) (C : Asn) (ht : Tab w0) (hS : Own w0 No w C) :
    Calls Tryz.prog 58 #[.string (ofL (flat L ++ t))] w fun e w' => ∃ p : Value × Value × List (Rec × Q3), (recsOf p.2.2 = L ∧ e = .returned (.tuple #[p.1, p.2.1, .int .i64 (flat L).length])) ∧
      Own w0 No w' (Asn.vec 93 2 p.1 L.length (rows 0 L) * (Asn.vec 176 12 p.2.1 L.length (told 0 p.2.2) * (aRecs p.2.2 * C))) := by
  have HT := Lib.hid ht
  have HG := Lib.hid hL
  have HN := Lib.hid ht0
  have S0 : Hid (Own w0 No w (Asn.vec 93 2 (.slice none 0 0) 0 (rows 0 []) * (Asn.vec 176 12 (.slice none 0 0) 0 (told 0 []) * (aRecs [] * C)))) := Lib.hid (((hS.addEmp.comm).nilVec 176 12).nilVec 93 2)
  have hzL := hz
  rw [List.length_append] at hzL
  clear hS ht ht0 hL
  go_enter Tryz.func58, Tryz.ntmps58
  go_wp2_with fail
  go_loopw [2, 3, 4, 5, 6, 7] (fun a b i _ _ _ wr => ∃ (k : Nat) (M : List (Rec × Q3)), k ≤ L.length ∧ i = .int .i64 (flat (L.take k)).length ∧ Hid (recsOf M = L.take k) ∧ Hid (M.length = k) ∧ Hid (Own w0 No wr (Asn.vec 93 2 a k (rows 0 (L.take k)) * (Asn.vec 176 12 b k (told 0 M) * (aRecs M * C))))) (fun _ _ i _ _ _ _ => (flat L).length + 8 - (intOf i).toNat)
  case atStart => exact ⟨0, [], Nat.zero_le _, rfl, rfl, rfl, S0⟩
  case round =>
    clear S0
    obtain ⟨k, M, hk, rfl, hM, hMl, hS⟩ := hrel
    obtain ⟨A1, c1, rfl⟩ := hS.out.vec.slice
    obtain ⟨A2, c2, rfl⟩ := hS.out.right.vec.slice
    have hcut : flat L ++ t = flat (L.take k) ++ (flat (L.drop k) ++ t) := by rw [← List.append_assoc, ← flat_app, List.take_append_drop]
    have hatk : (flat (L.take k)).length ≤ (flat L).length := by have := congrArg List.length hcut; simp only [List.length_append] at this; omega
    have hsl := slice_from (P := Tryz.prog) Tryz.underlying9 (ofL (flat L ++ t)) (flat (L.take k)).length (flat (L.take k)).length rfl (by rw [ofL_sz, List.length_append]; omega)
    rw [ofL_drop, hcut, List.drop_left, ← hcut] at hsl
    have HR := Lib.hid (fun w ht => Read_own (flat (L.drop k) ++ t) w (by have := congrArg List.length hcut; simp only [List.length_append] at this ⊢; omega) ht)
    generalize hy : ofL (flat (L.drop k) ++ t) = y at *
    obtain ⟨e, he⟩ : ∃ e, e = (flat (L.take k)).length := ⟨_, rfl⟩
    rw [← he] at hsl hatk ⊢
    by_cases hlt : k < L.length
    · obtain ⟨r, hr⟩ : ∃ r, L[k]? = some r := ⟨L[k]'hlt, List.getElem?_eq_getElem _⟩
      have hg : goodB r = true := HG.out r (List.mem_of_getElem? hr)
      have hdr : L.drop k = r :: L.drop (k + 1) := by
        rw [List.drop_eq_getElem_cons hlt]
        rw [List.getElem?_eq_getElem hlt] at hr
        rw [Option.some.inj hr]
      have htk : L.take (k + 1) = L.take k ++ [r] := by rw [List.take_add_one, hr]; rfl
      obtain ⟨n, hn⟩ : ∃ n, n = (bytes r).length := ⟨_, rfl⟩
      rw [hdr, flat_cons, List.append_assoc, read_bytes r hg, ← hn] at HR
      have hmid : flat L ++ t = flat (L.take k) ++ (bytes r ++ (flat (L.drop (k + 1)) ++ t)) := by rw [hcut, hdr, flat_cons, List.append_assoc]
      have hle : e + n ≤ (flat L).length := by
        have h1 := at_end L k r hr
        unfold at_ at h1
        omega
      have hsm := slice_mid (P := Tryz.prog) Tryz.underlying9 (ofL (flat L ++ t)) e (e + n) (e : Int) ((e : Int) + n) rfl (by omega) (by omega) (by rw [ofL_sz, List.length_append]; omega)
      rw [hmid, he, hn, ofL_mid, ← hmid, ← he, ← hn] at hsm
      have hw1 : IntKind.i64.wrap ((e : Int) + 1) = (e : Int) + 1 := by rw [IntKind.wrap_i64]; omega
      have hw2 : IntKind.i64.wrap ((e : Int) + n) = ((e : Int) + n) := by rw [IntKind.wrap_i64]; omega
      have hrw := rows_snoc 0 (L.take k) r
      rw [Nat.zero_add, ← he, ← htk, show ((e + 1 : Nat) : Int) = (e : Int) + 1 by omega] at hrw
      have hto := told_snoc 0 M r
      rw [Nat.zero_add, hM.out, ← he, show ((e + 1 : Nat) : Int) = (e : Int) + 1 by omega] at hto
      have HRW := Lib.hid hrw
      have HTO := Lib.hid hto
      have hen : e + n = (flat (L.take (k + 1))).length := by rw [htk, flat_snoc, List.length_append, ← he, ← hn]
      have HEN := Lib.hid hen
      have HM2 : Hid (∀ q, recsOf (M ++ [(r, q)]) = L.take (k + 1)) := Lib.hid fun q => by rw [htk, ← hM.out]; simp [recsOf]
      have hes : e + n ≤ 1099511627776 := by omega
      have hpos : 8 ≤ n := by have := bytes_pos r; omega
      clear hcut hy hr hg hdr htk hmid hrw hto hen he hn
      generalize ofL (flat L ++ t) = x at *
      generalize ofL (bytes r) = yr at *
      go_wp2_with fail
      refine (HR.out _ (Tab.own HT.out hS.out)).mono ?_
      rintro e' w2 ⟨⟨p1, p2, p3⟩, rfl, hX⟩
      have S2 := (own_front (own_join hS.out hX)).imp (Imp.r imp_front)
      unfold rR at hX S2
      dsimp only at hX S2
      obtain ⟨B1, m1, rfl⟩ := hX.vec.slice
      obtain ⟨B2, m2, rfl⟩ := hX.right.vec.slice
      obtain ⟨B3, m3, rfl⟩ := hX.right.vecR.slice
      have S3 := Lib.hid (own_front (S2.alloc (recCells r (.slice B1 r.pages.length m1) (.slice B2 r.opn.length m2) (.slice B3 r.dty.length m3)) 50))
      clear S2 hX hS HR hM
      rw [rV_some]
      unfold recV rR
      dsimp only
      unfold recCells at *
      go_upto_region 2 with fail
      obtain ⟨g5, hgz⟩ : ∃ g, g = w2.heap.size := ⟨_, rfl⟩
      rw [← hgz] at S3 ⊢
      clear hgz
      generalize w2.alloc _ = w3 at *
      have S4 := Lib.hid (S3.out.alloc #[.int .i64 ((e : Int) + 1), .string yr] 93).right
      have CX : Hid (Src Tryz.prog 2 87 (.slice (some ⟨w3.heap.size, 0, none⟩) 1 1) 1 [.int .i64 ((e : Int) + 1), .string yr] (w3.alloc (.cells #[.int .i64 ((e : Int) + 1), .string yr] 93))) := Lib.hid (Src.ofSlice _ Tryz.underlying87 _ 1 1 _ rfl (blk_cells (Blk.new w3 #[.int .i64 ((e : Int) + 1), .string yr] 93)) (by intro u hu; simp at hu; rcases hu with rfl | rfl <;> rfl))
      have hfew := few_recs L
      clear S3
      go_wp2_with (with_reducible refine wpList_append_vec rfl (.tmp 21) (.tmp 31) 87 87 rfl 93 _ 2 24 Tryz.underlying87 infoWr ?c1 ?c2 _ k (rows 0 (L.take k)) ?c7 S4.out.vec (.slice (some ⟨w3.heap.size, 0, none⟩) 1 1) ?c8 1 _ CX.out ?c3 ?c4 ?_)
      case c3 => unfold maxLen; omega
      case c4 => omega
      intro v' w4 hv hc hf
      have S5 := S4.out.app hv hc hf
      rw [← HRW.out] at S5
      obtain ⟨A1', c1', rfl⟩ := hv.slice
      have S6 := Lib.hid (own_front (S5.imp (Imp.r imp_front)))
      clear S4 CX hv hc hf S5 HRW
      obtain ⟨⟨b0, b1, b2, b3, b4, b5, b6, b7, b8, b9, b10⟩, -⟩ := eleven (S6.out.has (Has.r (Has.r (Has.l (has_blk _ _ _)))))
      have S7 := Lib.hid (S6.out.alloc #[.int .i64 ((e : Int) + 1), .int .i64 r.kind, .int .i64 r.deal, .int .i64 r.prev, .int .i64 r.next, .slice B1 r.pages.length m1, .int .i64 r.und.kind, .int .i64 r.und.tree, .string (ofL r.und.key), .string (ofL r.und.val), .slice B2 r.opn.length m2, .slice B3 r.dty.length m3] 176).right
      have CX : Hid (Src Tryz.prog 12 76 (.slice (some ⟨w4.heap.size, 0, none⟩) 1 1) 1 [.int .i64 ((e : Int) + 1), .int .i64 r.kind, .int .i64 r.deal, .int .i64 r.prev, .int .i64 r.next, .slice B1 r.pages.length m1, .int .i64 r.und.kind, .int .i64 r.und.tree, .string (ofL r.und.key), .string (ofL r.und.val), .slice B2 r.opn.length m2, .slice B3 r.dty.length m3] (w4.alloc (.cells #[.int .i64 ((e : Int) + 1), .int .i64 r.kind, .int .i64 r.deal, .int .i64 r.prev, .int .i64 r.next, .slice B1 r.pages.length m1, .int .i64 r.und.kind, .int .i64 r.und.tree, .string (ofL r.und.key), .string (ofL r.und.val), .slice B2 r.opn.length m2, .slice B3 r.dty.length m3] 176))) := Lib.hid (Src.ofSlice _ Tryz.underlying76 _ 1 1 _ rfl (blk_cells (Blk.new w4 #[.int .i64 ((e : Int) + 1), .int .i64 r.kind, .int .i64 r.deal, .int .i64 r.prev, .int .i64 r.next, .slice B1 r.pages.length m1, .int .i64 r.und.kind, .int .i64 r.und.tree, .string (ofL r.und.key), .string (ofL r.und.val), .slice B2 r.opn.length m2, .slice B3 r.dty.length m3] 176)) (by intro u hu; simp at hu; rcases hu with rfl | rfl | rfl | rfl | rfl | rfl | rfl | rfl | rfl | rfl | rfl | rfl <;> rfl))
      clear S6
      go_wp2_with (with_reducible refine wpList_append_vec rfl (.tmp 33) (.tmp 38) 76 76 rfl 176 _ 12 160 Tryz.underlying76 infoSt ?k1 ?k2 _ k (told 0 M) ?k7 S7.out.vec (.slice (some ⟨w4.heap.size, 0, none⟩) 1 1) ?k8 1 _ CX.out ?k3 ?k4 ?_)
      case k1 => rfl
      case k2 => decide
      case k3 => unfold maxLen; omega
      case k4 => omega
      case k7 => rfl
      case k8 => rfl
      intro v' w5 hv hc hf
      have S8 := S7.out.app hv hc hf
      have hto := HTO.out (.slice B1 r.pages.length m1, .slice B2 r.opn.length m2, .slice B3 r.dty.length m3)
      have S9 := S8.imp (show Imp _ (Asn.vec 176 12 v' (k + 1) (told 0 (M ++ [(r, (.slice B1 r.pages.length m1, .slice B2 r.opn.length m2, .slice B3 r.dty.length m3))])) * _) by rw [hto]; exact fun _ _ h => h)
      obtain ⟨A2', c2', rfl⟩ := hv.slice
      have S10 := (own_front ((own_front S9).imp (Imp.r imp_front))).right
      have S11 := Lib.hid (S10.imp (Imp.r (Imp.r (recs_snoc M r _))))
      clear S7 CX hv hc hf S8 S9 S10 b0 b1 b2 b3 b4 b5 b6 b7 b8 b9 b10
      go_wp2_with fail
      go_roundw
      case rel => exact ⟨k + 1, M ++ [(r, _)], by omega, by rw [← HEN.out]; first | rfl | go_num, HM2.out _, by show _ = _; rw [List.length_append, List.length_singleton, hMl.out], S11⟩
      case measure => simp [intOf, hw2]; omega
    · obtain rfl : k = L.length := by omega
      rw [List.drop_length, show flat [] ++ t = t from rfl, HN.out] at HR
      clear hcut hy
      rw [List.take_length] at he
      have HE := Lib.hid he
      clear he
      generalize ofL (flat L ++ t) = x at *
      go_wp2_with fail
      refine (HR.out _ (Tab.own HT.out hS.out)).mono ?_
      rintro e w2 ⟨⟨p1, p2, p3⟩, rfl, hX⟩
      have S2 := hS.out.below hX.bel
      unfold rR at hX
      dsimp only at hX
      obtain ⟨B1, m1, rfl⟩ := hX.vec.slice
      obtain ⟨B2, m2, rfl⟩ := hX.right.vec.slice
      obtain ⟨B3, m3, rfl⟩ := hX.right.vecR.slice
      have S3 := Lib.hid (S2.alloc (recCells Rec.none (.slice B1 Rec.none.pages.length m1) (.slice B2 Rec.none.opn.length m2) (.slice B3 Rec.none.dty.length m3)) 50).right
      clear S2 hX hS HR
      rw [rV_none]
      unfold recV rR
      dsimp only
      unfold recCells at *
      go_wp2_with fail
      go_returns
      refine ⟨(_, _, M), ⟨by rw [hM.out, List.take_length], by rw [HE.out]; rfl⟩, ?_⟩
      have := S3.out
      rw [List.take_length] at this
      exact this
end Go.Proofs.YtapdpdhibpblgaaGreatDoor.Nt
