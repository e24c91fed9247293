/- Texts of ours, joined. -/
import Derived.Test.YthoaangmekkcmaaShelf
import Derived.Test.YthoaangmekkcmaaNtA
import Derived.Deep.CutBlock
import Derived.Deep.LoopGhost

-- joined
section
namespace Go.Proofs.Ythoaangmekkcmaa.Nd
open Go.ChangeShapes Go.WideShapes Go.ChangeAt Go.RowKit Go.PlainAid Aid Cr Nt
set_option linter.unusedVariables false
set_option linter.unusedSimpArgs false
def aR (g : Nat) (s : St) : Asn := aSt 111 g s
set_option maxRecDepth 100000 in
set_option maxHeartbeats 1000000 in
theorem tTake (g n : Nat) (s : St) :
    Tr Try.prog 59 #[bPtr g, .int .i64 n] (aR g s) (.string (ofL (tk n s).1)) (aR g (tk n s).2) := by
  intro w O hA
  obtain ⟨l, b⟩ := s
  have S := Lib.hid (Own.start hA)
  obtain ⟨c0, c1, f0, f1⟩ := st_cells hA.1
  have hz : (ofL l).size = l.length := rfl
  by_cases h : l.length < n
  · have e : tk n ⟨l, b⟩ = ([], ⟨l, true⟩) := by unfold tk; rw [if_pos h]
    rw [e]
    have hs : Hid (aR g ⟨l, true⟩ = Asn.blk g 111 #[.string (ofL l), .bool true]) := Lib.hid rfl
    have hlt : ((ofL l).size : Int) < n := by omega
    have he : ofL ([] : By) = ⟨#[]⟩ := rfl
    dsimp only
    rw [he]
    unfold aR aSt at S
    dsimp only at S c0 c1
    clear hA e hz
    generalize ofL l = x at *
    unfold bPtr at *
    go_enter Try.func59, Try.ntmps59
    go_wp2_with fail
    go_returns
    rw [hs.out]
    exact ⟨rfl, S.out.set (sets_blk _ _ _ 1 (.bool true))⟩
  · have e : tk n ⟨l, b⟩ = (l.take n, ⟨l.drop n, b⟩) := by unfold tk; rw [if_neg h]
    rw [e]
    have hs : Hid (aR g ⟨l.drop n, b⟩ = Asn.blk g 111 #[.string (ofL (l.drop n)), .bool b]) := Lib.hid rfl
    have hlt : ¬ ((ofL l).size : Int) < n := by omega
    have hs1 := slice_to (P := Try.prog) Try.underlying9 (ofL l) n n rfl (by omega)
    have hs2 := slice_from (P := Try.prog) Try.underlying9 (ofL l) n n rfl (by omega)
    rw [ofL_take] at hs1
    rw [ofL_drop] at hs2
    dsimp only
    unfold aR aSt at S
    dsimp only at S c0 c1
    clear hA e hz
    generalize ofL (l.drop n) = z at *
    generalize ofL (l.take n) = y at *
    generalize ofL l = x at *
    unfold bPtr at *
    go_enter Try.func59, Try.ntmps59
    go_wp2_with fail
    go_returns
    rw [hs.out]
    exact ⟨rfl, S.out.set (sets_blk _ _ _ 0 (.string z))⟩
set_option maxRecDepth 100000 in
set_option maxHeartbeats 4000000 in
theorem tPnum (g k : Nat) (s : St) (hk : k ≤ 4) :
    Tr Try.prog 45 #[bPtr g, .int .i64 k] (aR g s) (.int .i64 ((pnum k s).1 : Nat)) (aR g (pnum k s).2) := by
  intro w O hA
  have S := Lib.hid (Own.start hA)
  have HT := Lib.hid (tTake g k s)
  have hlen : (tk k s).1.length ≤ 4 := by unfold tk; split <;> simp; omega
  unfold pnum
  generalize (tk k s).1 = t at *
  generalize (tk k s).2 = s' at *
  clear hA
  unfold bPtr at *
  go_enter Try.func45, Try.ntmps45
  go_wp2_with fail
  refine (S.out.call (HT.out)).mono ?_
  rintro e w1 ⟨rfl, hX⟩
  have S1 := Lib.hid hX
  clear hX S 
  obtain ⟨cap, w2, hcv, hb, hB⟩ := to_bytes (P := Try.prog) Try.underlying9 Try.underlying63 Try.underlying5 w1 (ofL t)
  have S2 := Lib.hid (S1.out.below hb)
  have hB' : Bytes w2 w1.heap.size t := hB
  have hz : (ofL t).size = t.length := rfl
  rw [hz] at hcv
  have cell : ∀ (i : Nat) (x : UInt8), t[i]? = some x → w2.cell? ⟨w1.heap.size, i, none⟩ = some (.int .u8 x.toNat) := hB'.2.1
  clear hb hB hB' S1 hz HT
  have CELL := Lib.hid cell
  clear cell
  generalize ofL t = x at *
  go_wp2_with fail
  go_loop [5, 6, 7, 13] (fun n _ _ i => ∃ j : Nat, j ≤ t.length ∧ i = .int .i64 j ∧ n = .int .i64 ((unnum (t.take j) : Nat) : Int)) (fun _ _ _ i => t.length - (intOf i).toNat)
  case atStart => exact ⟨0, Nat.zero_le _, rfl, rfl⟩
  case round =>
    clear hcv
    obtain ⟨j, hj, rfl, rfl⟩ := hrel
    by_cases hlt : j < t.length
    · obtain ⟨y, hy⟩ : ∃ y, t[j]? = some y := ⟨t[j]'(by omega), List.getElem?_eq_getElem _⟩
      have c0 := CELL.out j y hy
      have hsn := unnum_snoc t j y hy
      have hlt2 := unnum_lt (t.take j)
      rw [List.length_take, Nat.min_eq_left (by omega)] at hlt2
      have hy2 : y.toNat < 256 := y.toNat_lt
      have HS := Lib.hid hsn
      generalize unnum (t.take j) = n at *
      clear hsn hy
      have hm : j = 0 ∨ j = 1 ∨ j = 2 ∨ j = 3 := by omega
      have hor := or_add n y.toNat (8 * j) (by rw [Nat.pow_mul]; exact hlt2) (by rcases hm with rfl | rfl | rfl | rfl <;> omega)
      generalize y.toNat = z at *
      rcases hm with rfl | rfl | rfl | rfl
      · go_wp2_with fail
        go_round
        case rel => exact ⟨1, by omega, rfl, by rw [HS.out]; simpa using hor⟩
        case measure => simp [intOf]; omega
      · go_wp2_with fail
        go_round
        case rel => exact ⟨2, by omega, rfl, by rw [HS.out]; simpa using hor⟩
        case measure => simp [intOf]; omega
      · go_wp2_with fail
        go_round
        case rel => exact ⟨3, by omega, rfl, by rw [HS.out]; simpa using hor⟩
        case measure => simp [intOf]; omega
      · go_wp2_with fail
        go_round
        case rel => exact ⟨4, by omega, rfl, by rw [HS.out]; simpa using hor⟩
        case measure => simp [intOf]; omega
    · obtain rfl : j = t.length := by omega
      rw [List.take_length]
      go_wp2_with fail
      go_returns
      exact ⟨rfl, S2.out⟩
section
variable {w0 w : World} {O0 : Nat → Prop} {A : Asn} {g : Nat} {T : TypeId} {a0 a1 a2 a3 a4 a5 a6 : Value}
theorem own_three (h : Own w0 O0 w (Asn.blk g T #[a0, a1, a2] * A)) (b0 b1 b2 : Value) :
    Own w0 O0 (((w.setCell ⟨g, 0, none⟩ b0).setCell ⟨g, 1, none⟩ b1).setCell ⟨g, 2, none⟩ b2) (Asn.blk g T #[b0, b1, b2] * A) :=
  set_l (set_l (set_l h 0 b0 #[b0, a1, a2] rfl) 1 b1 #[b0, b1, a2] rfl) 2 b2 #[b0, b1, b2] rfl
/-- A block of seven cells is written, cell for cell. -/
theorem own_seven (h : Own w0 O0 w (Asn.blk g T #[a0, a1, a2, a3, a4, a5, a6] * A)) (b0 b1 b2 b3 b4 b5 b6 : Value) :
    Own w0 O0 (((((((w.setCell ⟨g, 0, none⟩ b0).setCell ⟨g, 1, none⟩ b1).setCell ⟨g, 2, none⟩ b2).setCell ⟨g, 3, none⟩ b3).setCell ⟨g, 4, none⟩ b4).setCell ⟨g, 5, none⟩ b5).setCell ⟨g, 6, none⟩ b6) (Asn.blk g T #[b0, b1, b2, b3, b4, b5, b6] * A) :=
  set_l (set_l (set_l (set_l (set_l (set_l (set_l h 0 b0 #[b0, a1, a2, a3, a4, a5, a6] rfl) 1 b1 #[b0, b1, a2, a3, a4, a5, a6] rfl) 2 b2 #[b0, b1, b2, a3, a4, a5, a6] rfl) 3 b3 #[b0, b1, b2, b3, a4, a5, a6] rfl) 4 b4 #[b0, b1, b2, b3, b4, a5, a6] rfl) 5 b5 #[b0, b1, b2, b3, b4, b5, a6] rfl) 6 b6 #[b0, b1, b2, b3, b4, b5, b6] rfl
theorem seven {w : World} {g : Nat} {T : TypeId} {a0 a1 a2 a3 a4 a5 a6 : Value} (h : Blk w g T #[a0, a1, a2, a3, a4, a5, a6]) :
    (w.cell? ⟨g, 0, none⟩ = some a0 ∧ w.cell? ⟨g, 1, none⟩ = some a1 ∧ w.cell? ⟨g, 2, none⟩ = some a2 ∧ w.cell? ⟨g, 3, none⟩ = some a3 ∧ w.cell? ⟨g, 4, none⟩ = some a4 ∧ w.cell? ⟨g, 5, none⟩ = some a5 ∧ w.cell? ⟨g, 6, none⟩ = some a6) ∧
    (w.frozen? ⟨g, 0, none⟩ = false ∧ w.frozen? ⟨g, 1, none⟩ = false ∧ w.frozen? ⟨g, 2, none⟩ = false ∧ w.frozen? ⟨g, 3, none⟩ = false ∧ w.frozen? ⟨g, 4, none⟩ = false ∧ w.frozen? ⟨g, 5, none⟩ = false ∧ w.frozen? ⟨g, 6, none⟩ = false) :=
  ⟨⟨h.cell 0, h.cell 1, h.cell 2, h.cell 3, h.cell 4, h.cell 5, h.cell 6⟩, ⟨h.free 0, h.free 1, h.free 2, h.free 3, h.free 4, h.free 5, h.free 6⟩⟩
end
def cells3 (l : List Ent) : List Value := l.flatMap fun x => [.string (ofL x.key), .string (ofL x.val), .bool x.ghost]
theorem infoEnt : (Try.prog.info? 44).map (fun i => (i.zero, i.size, i.bytes)) = some (some (.agg #[.string ⟨#[]⟩, .string ⟨#[]⟩, .bool false]), 3, 40) := by kernel_rfl
def zero7 : Array Value := #[.int .i64 0, .int .i64 0, .int .i64 0, .bool false, .string ⟨#[]⟩, .int .i64 0, .slice none 0 0]
/-- The entries of a node, owned. -/
def aEnts (n : Nod) (v : Value) : Asn := Asn.vec 44 3 v n.list.length (cells3 n.list)
end Go.Proofs.Ythoaangmekkcmaa.Nd
end

-- joined
section
namespace Go.Proofs.Ythoaangmekkcmaa.Nd
open Go.ChangeShapes Go.WideShapes Go.ChangeAt Go.RowKit Go.PlainAid Aid Cr Nt
set_option linter.unusedVariables false
set_option linter.unusedSimpArgs false
/-- A number's lowest bytes, any number's. -/
def numZ : Nat → Int → By
  | 0, _ => []
  | k + 1, n => UInt8.ofNat (n % 256).toNat :: numZ k (n / 256)
theorem numZ_length (k : Nat) (n : Int) : (numZ k n).length = k := by
  induction k generalizing n with
  | zero => rfl
  | succ k ih => simp [numZ, ih]
theorem numZ_snoc (k : Nat) (n : Int) : numZ (k + 1) n = numZ k n ++ [UInt8.ofNat (n / 256 ^ k % 256).toNat] := by
  induction k generalizing n with
  | zero => simp [numZ]
  | succ k ih =>
    rw [numZ, ih (n / 256), numZ, List.cons_append, Int.ediv_ediv_of_nonneg (by decide), Int.pow_succ, Int.mul_comm 256]
theorem bldW : BldT 139 := by unfold BldT; kernel_rfl
def aN (g : Nat) (l : By) : Asn := aBld 139 g l
theorem tByte (g : Nat) (l : By) (c : Int) (h0 : 0 ≤ c) (h1 : c < 256) (hl : l.length < 140737488355328) :
    Tr Try.prog 74 #[bPtr g, .int .u8 c] (aN g l) .nilIface (aN g (l ++ [UInt8.ofNat c.toNat])) := by
  have e : (UInt8.ofNat c.toNat).toNat = c.toNat := by simp; omega
  have := bWriteByte 139 bldW g l (UInt8.ofNat c.toNat) hl
  rw [e, Int.toNat_of_nonneg h0] at this
  exact this
set_option maxHeartbeats 1000000 in
theorem tNumZ (g : Nat) (l : By) (n : Int) (k : Nat) (hl : l.length + k < 140737488355328) :
    Tr Try.prog 68 #[bPtr g, .int .i64 n, .int .i64 k] (aN g l) (.tuple #[]) (aN g (l ++ numZ k n)) := by
  intro w O hA
  have S := Lib.hid (Own.start hA)
  have HB := Lib.hid (tByte g)
  clear hA
  unfold bPtr at *
  go_enter Try.func68, Try.ntmps68
  go_wp2_with fail
  go_loopw [1, 7] (fun x i wr => ∃ j : Nat, j ≤ k ∧ i = .int .i64 j ∧ x = .int .i64 (n / 256 ^ j) ∧ Hid (Own w O wr (aN g (l ++ numZ j n)))) (fun _ i _ => k - (intOf i).toNat)
  case atStart => exact ⟨0, Nat.zero_le _, rfl, by simp, by simpa [numZ] using S⟩
  case round =>
    clear S
    obtain ⟨j, hj, rfl, rfl, S⟩ := hrel
    by_cases hlt : j < k
    · have hsn := numZ_snoc j n
      have hnx : n / 256 ^ (j + 1) = n / 256 ^ j / 256 := by rw [Int.pow_succ, Int.ediv_ediv_of_nonneg (Int.le_of_lt (Int.pow_pos (by decide)))]
      have hll : (l ++ numZ j n).length < 140737488355328 := by rw [List.length_append, numZ_length]; omega
      generalize n / 256 ^ j = x at *
      have HC := Lib.hid (HB.out (l ++ numZ j n) (x % 256) (by omega) (by omega) hll)
      have e2 : l ++ numZ j n ++ [UInt8.ofNat (x % 256).toNat] = l ++ numZ (j + 1) n := by
        rw [hsn, List.append_assoc]
      have HNX := Lib.hid hnx
      rw [e2] at HC
      clear hsn hnx e2 hll
      go_wp2_with fail
      refine (S.out.call HC.out).mono ?_
      rintro e w2 ⟨rfl, h2⟩
      have S2 := Lib.hid h2
      clear h2 S HC
      go_wp2_with fail
      go_round
      case rel => exact ⟨j + 1, by omega, by go_num, by rw [HNX.out], S2⟩
      case measure => simp [intOf]; omega
    · obtain rfl : j = k := by omega
      go_wp2_with fail
      go_end0
      exact ⟨rfl, S.out⟩
end Go.Proofs.Ythoaangmekkcmaa.Nd
end

-- joined
section
namespace Go.Proofs.Ythoaangmekkcmaa.Nd
open Go.ChangeShapes Go.WideShapes Go.ChangeAt Go.RowKit Go.PlainAid Aid Cr Nt
set_option linter.unusedVariables false
set_option linter.unusedSimpArgs false
set_option maxRecDepth 100000 in
set_option maxHeartbeats 4000000 in
theorem goodList_any (n : Nod) (v : Value) (w : World) (hv : NodAt w v n) :
    Calls Try.prog 65 #[v] w fun e w' => e = .returned (.bool (gList n)) ∧ Below w.heap.size w w' := by
  obtain ⟨p, rfl, hp⟩ := hv
  obtain ⟨A1, m1, rfl⟩ := hp.slice
  have hm1 := hp.len.2
  unfold maxLen at hm1
  have S := Lib.hid ((Own.none w).alloc (nodCells n (.slice A1 n.list.length m1)) 52).left
  have HP := Lib.hid hp
  have HC := Lib.hid (fun k w => Covers_any n (.slice A1 n.list.length m1) k w)
  have HE := Lib.hid (fun e w => goodEntry_any e n.level w)
  clear hp
  unfold nodCells at *
  unfold entCells at HE
  go_enter Try.func65, Try.ntmps65
  go_upto_region 1 with fail
  obtain ⟨g, hgz⟩ : ∃ g, g = w.heap.size := ⟨_, rfl⟩
  rw [← hgz] at S ⊢
  clear hgz
  generalize w.alloc _ = w1 at *
  obtain ⟨-, -, -, -, -, -, c6⟩ := nod_cells (S.out.has (has_blk _ _ _))
  by_cases h1 : 100 < n.list.length
  · have hr : Hid (gList n = false) := Lib.hid (by unfold gList; rw [decide_eq_false (by omega)]; rfl)
    go_wp2_with fail
    go_returns
    exact ⟨ret_bool hr.out.symm, S.out.bel⟩
  have hr : gTo n n.list.length = gList n := by unfold gList; rw [decide_eq_true (by omega), Bool.true_and]
  have HR := Lib.hid hr
  clear hr
  go_wp2_with fail
  clear c6
  go_loopw [13] (fun i wr => ∃ k : Nat, k ≤ n.list.length ∧ i = .int .i64 k ∧ Hid (gTo n k = true) ∧ Hid (Own w No wr (Asn.blk g 52 (nodCells n (.slice A1 n.list.length m1))))) (fun i _ => n.list.length - (intOf i).toNat)
  case atStart => exact ⟨0, Nat.zero_le _, rfl, Lib.hid rfl, S⟩
  case round =>
    clear S
    obtain ⟨k, hk, rfl, hG, X⟩ := hrel
    by_cases hlt : k < n.list.length
    · obtain ⟨x, hx⟩ : ∃ x, n.list[k]? = some x := ⟨n.list[k]'(by omega), List.getElem?_eq_getElem _⟩
      obtain ⟨b, o, rfl, hbl, a0, a1, a2⟩ := (HP.out.keep X.out.bel).at hx
      have X1 := Lib.hid (X.out.alloc (entCells x) 44)
      have hst := gTo_step n k x hx
      have hf : gAt n k x = false → gList n = false := fun h => by
        rw [← HR.out]; exact gTo_false n (k + 1) _ (by rw [hst, h, Bool.and_false]) (by omega)
      rw [hG.out, Bool.true_and] at hst
      have HST := Lib.hid hst
      have HF := Lib.hid hf
      have HX := Lib.hid hx
      clear hst hf hx X
      unfold entCells at *
      unfold nodCells at *
      have hq : ∃ q, q = rise n.list k x := ⟨_, rfl⟩
      obtain ⟨q, hq⟩ := hq
      have hga : gAt n k x = (q && (cov n x.key && gEnt n.level x)) := by rw [hq]; rfl
      rw [hga] at HST HF
      clear hga
      have E1 := Lib.hid (HC.out x.key)
      have E2 := Lib.hid (HE.out x)
      have rest : Hid (Own w No (wr.alloc (.cells #[.string (ofL x.key), .string (ofL x.val), .bool x.ghost] 44)) (Asn.blk wr.heap.size 44 #[.string (ofL x.key), .string (ofL x.val), .bool x.ghost] * Asn.blk g 52 #[.int .i64 n.tree, .int .i64 n.level, .int .i64 n.stamp, .bool n.has, .string (ofL n.high), .int .i64 n.right, .slice (some ⟨b, o, none⟩) n.list.length m1])) := X1
      clear X1
      go_upto_region 6 with fail
      obtain ⟨ge, hgz⟩ : ∃ g, g = wr.heap.size := ⟨_, rfl⟩
      rw [← hgz] at rest ⊢
      clear hgz
      generalize wr.alloc _ = w2 at *
      obtain ⟨e0, e1, e2⟩ := ent_cells (rest.out.has (Has.l (has_blk _ _ _)))
      obtain ⟨c0, c1, c2, c3, c4, c5, c6⟩ := nod_cells (rest.out.has (Has.r (has_blk _ _ _)))
      cases k with
      | zero =>
        obtain rfl : q = true := hq
        go_wp2_with fail
        go_quiet (fail)
        have Y := Lib.hid (rest.out.drewN nq)
        clear rest e0 e1 e2 c0 c1 c2 c3 c4 c5 c6
        generalize w2.drewN nq = w3 at *
        obtain ⟨e0, e1, e2⟩ := ent_cells (Y.out.has (Has.l (has_blk _ _ _)))
        obtain ⟨c0, c1, c2, c3, c4, c5, c6⟩ := nod_cells (Y.out.has (Has.r (has_blk _ _ _)))
        go_wp2_with fail
        refine (E1.out _).mono ?_
        rintro e w4 ⟨rfl, hX⟩
        have Z := Lib.hid (Y.out.below hX)
        clear hX Y e0 e1 e2 c0 c1 c2 c3 c4 c5 c6
        generalize cov n x.key = q2 at *
        cases q2
        · go_wp2_with fail
          go_returns
          exact ⟨ret_bool (HF.out rfl).symm, Z.out.bel⟩
        obtain ⟨e0, e1, e2⟩ := ent_cells (Z.out.has (Has.l (has_blk _ _ _)))
        obtain ⟨c0, c1, c2, c3, c4, c5, c6⟩ := nod_cells (Z.out.has (Has.r (has_blk _ _ _)))
        go_wp2_with fail
        refine (E2.out _).mono ?_
        rintro e w5 ⟨rfl, hX⟩
        have V := Lib.hid (Z.out.below hX)
        clear hX Z e0 e1 e2 c0 c1 c2 c3 c4 c5 c6
        generalize gEnt n.level x = q3 at *
        cases q3
        · go_wp2_with fail
          go_returns
          exact ⟨ret_bool (HF.out rfl).symm, V.out.bel⟩
        go_wp2_with fail
        go_roundw
        case rel => exact ⟨0 + 1, by omega, by go_num, Lib.hid (by rw [HST.out]; rfl), Lib.hid V.out.right⟩
        case measure => simp [intOf]; omega
      | succ j =>
        obtain ⟨y, hy⟩ : ∃ y, n.list[j]? = some y := ⟨n.list[j]'(by omega), List.getElem?_eq_getElem _⟩
        obtain ⟨d0, d1, d2⟩ := (HP.out.keep rest.out.bel).at' hy
        have hq2 : q = lt y.key x.key := by rw [hq, rise, hy]
        have hl := less y.key x.key
        rw [← hq2] at hl
        have hjj : IntKind.i64.wrap (j : Int) = (j : Int) := by rw [IntKind.wrap_i64]; omega
        have hj0 : (0 : Int) ≤ (j : Int) := by omega
        have hj1 : (j : Int) < (n.list.length : Int) := by omega
        have hj2 : ((j : Int)).toNat = j := rfl
        clear hq hq2 hy
        go_wp2_with fail
        go_quiet (fail)
        have Y := Lib.hid (rest.out.drewN nq)
        clear rest e0 e1 e2 c0 c1 c2 c3 c4 c5 c6 d0 d1 d2
        generalize w2.drewN nq = w3 at *
        clear hl
        cases q
        · go_wp2_with fail
          go_returns
          exact ⟨ret_bool (HF.out rfl).symm, Y.out.bel⟩
        obtain ⟨e0, e1, e2⟩ := ent_cells (Y.out.has (Has.l (has_blk _ _ _)))
        obtain ⟨c0, c1, c2, c3, c4, c5, c6⟩ := nod_cells (Y.out.has (Has.r (has_blk _ _ _)))
        go_wp2_with fail
        refine (E1.out _).mono ?_
        rintro e w4 ⟨rfl, hX⟩
        have Z := Lib.hid (Y.out.below hX)
        clear hX Y e0 e1 e2 c0 c1 c2 c3 c4 c5 c6
        generalize cov n x.key = q2 at *
        cases q2
        · go_wp2_with fail
          go_returns
          exact ⟨ret_bool (HF.out rfl).symm, Z.out.bel⟩
        obtain ⟨e0, e1, e2⟩ := ent_cells (Z.out.has (Has.l (has_blk _ _ _)))
        obtain ⟨c0, c1, c2, c3, c4, c5, c6⟩ := nod_cells (Z.out.has (Has.r (has_blk _ _ _)))
        go_wp2_with fail
        refine (E2.out _).mono ?_
        rintro e w5 ⟨rfl, hX⟩
        have V := Lib.hid (Z.out.below hX)
        clear hX Z e0 e1 e2 c0 c1 c2 c3 c4 c5 c6
        generalize gEnt n.level x = q3 at *
        cases q3
        · go_wp2_with fail
          go_returns
          exact ⟨ret_bool (HF.out rfl).symm, V.out.bel⟩
        go_wp2_with fail
        go_roundw
        case rel => exact ⟨j + 1 + 1, by omega, by go_num, Lib.hid (by rw [HST.out]; rfl), Lib.hid V.out.right⟩
        case measure => simp [intOf]; omega
    · obtain rfl : k = n.list.length := by omega
      have h1 := hG.out
      rw [HR.out] at h1
      have H1 := Lib.hid h1
      clear h1
      go_wp2_with fail
      go_returns
      exact ⟨ret_bool H1.out.symm, X.out.bel⟩
set_option maxRecDepth 100000 in
set_option maxHeartbeats 4000000 in
theorem Good_any (n : Nod) (v : Value) (w : World) (hv : NodAt w v n) :
    Calls Try.prog 53 #[v] w fun e w' => e = .returned (.bool (goodB n)) ∧ Below w.heap.size w w' := by
  have HL : Hid (∀ w', Below w.heap.size w w' → _) := Lib.hid (fun w' (hb : Below w.heap.size w w') => goodList_any n v w' (hv.keep hb))
  obtain ⟨p, rfl, hp⟩ := hv
  have HH := Lib.hid (fun w => goodHigh_any n p w)
  obtain ⟨R, hR⟩ : ∃ R, R = goodB n := ⟨_, rfl⟩
  rw [← hR]
  unfold goodB at hR
  have e1 := fun w => within_any n.tree 255 w
  have e2 := fun w => within_any n.level 12 w
  have e3 := fun w => within_any n.stamp 2147483647 w
  have e4 := fun w => within_any n.right 255 w
  have S := Lib.hid ((Own.none w).alloc (nodCells n p) 52).left
  generalize inN n.tree 255 = b1 at *
  generalize inN n.level 12 = b2 at *
  generalize inN n.stamp 2147483647 = b3 at *
  generalize inN n.right 255 = b4 at *
  generalize gHigh n = b5 at *
  generalize gList n = b6 at *
  obtain ⟨A1, m1, rfl⟩ := hp.slice
  have HR := Lib.hid hR
  clear hR hp
  unfold nodCells at *
  go_enter Try.func53, Try.ntmps53
  go_upto_region 1 with fail
  obtain ⟨g, hgz⟩ : ∃ g, g = w.heap.size := ⟨_, rfl⟩
  rw [← hgz] at S ⊢
  clear hgz
  generalize w.alloc _ = w1 at *
  obtain ⟨c0, c1, c2, c3, c4, c5, c6⟩ := nod_cells (S.out.has (has_blk _ _ _))
  go_wp2_with fail
  refine (e1 _).mono ?_
  rintro e w' ⟨rfl, rfl⟩
  cases b1
  case false =>
    go_wp2_with fail
    go_returns
    exact ⟨ret_bool (by rw [HR.out]; simp), S.out.bel⟩
  go_wp2_with fail
  refine (e2 _).mono ?_
  rintro e w' ⟨rfl, rfl⟩
  cases b2
  case false =>
    go_wp2_with fail
    go_returns
    exact ⟨ret_bool (by rw [HR.out]; simp), S.out.bel⟩
  go_wp2_with fail
  refine (e3 _).mono ?_
  rintro e w' ⟨rfl, rfl⟩
  cases b3
  case false =>
    go_wp2_with fail
    go_returns
    exact ⟨ret_bool (by rw [HR.out]; simp), S.out.bel⟩
  go_wp2_with fail
  refine (e4 _).mono ?_
  rintro e w' ⟨rfl, rfl⟩
  cases b4
  case false =>
    go_wp2_with fail
    go_returns
    exact ⟨ret_bool (by rw [HR.out]; simp), S.out.bel⟩
  go_wp2_with fail
  refine (HH.out _).mono ?_
  rintro e w2 ⟨rfl, hX⟩
  have T := Lib.hid (S.out.below hX)
  clear hX S c0 c1 c2 c3 c4 c5 c6
  cases b5
  case false =>
    go_wp2_with fail
    go_returns
    exact ⟨ret_bool (by rw [HR.out]; simp), T.out.bel⟩
  obtain ⟨c0, c1, c2, c3, c4, c5, c6⟩ := nod_cells (T.out.has (has_blk _ _ _))
  go_wp2_with fail
  refine (HL.out _ T.out.bel).mono ?_
  rintro e w3 ⟨rfl, hX⟩
  have U := Lib.hid (T.out.below hX)
  clear hX T c0 c1 c2 c3 c4 c5 c6
  go_wp2_with fail
  go_returns
  exact ⟨ret_bool (by rw [HR.out]; simp), U.out.bel⟩
set_option maxRecDepth 100000 in
set_option maxHeartbeats 4000000 in
theorem Fits_any (n : Nod) (v : Value) (w : World) (hv : NodAt w v n) :
    Calls Try.prog 54 #[v] w fun e w' => e = .returned (.bool (fitsB n)) ∧ Below w.heap.size w w' := by
  have HG : Hid (∀ w', Below w.heap.size w w' → _) := Lib.hid (fun w' (hb : Below w.heap.size w w') => Good_any n v w' (hv.keep hb))
  have HZ : Hid (goodB n = true → ∀ w', Below w.heap.size w w' → _) := Lib.hid (fun hg w' (hb : Below w.heap.size w w') => Size_any n v w' (hv.keep hb) (by have := size_small (goods hg); omega))
  obtain ⟨p, rfl, hp⟩ := hv
  obtain ⟨A1, m1, rfl⟩ := hp.slice
  have S := Lib.hid ((Own.none w).alloc (nodCells n (.slice A1 n.list.length m1)) 52).left
  clear hp
  unfold fitsB
  generalize goodB n = b1 at *
  unfold nodCells at *
  go_enter Try.func54, Try.ntmps54
  go_upto_region 1 with fail
  obtain ⟨g, hgz⟩ : ∃ g, g = w.heap.size := ⟨_, rfl⟩
  rw [← hgz] at S ⊢
  clear hgz
  generalize w.alloc _ = w1 at *
  obtain ⟨c0, c1, c2, c3, c4, c5, c6⟩ := nod_cells (S.out.has (has_blk _ _ _))
  go_wp2_with fail
  refine (HG.out _ S.out.bel).mono ?_
  rintro e w2 ⟨rfl, hX⟩
  have T := Lib.hid (S.out.below hX)
  clear hX S c0 c1 c2 c3 c4 c5 c6
  cases b1
  · go_wp2_with fail
    go_returns
    exact ⟨rfl, T.out.bel⟩
  obtain ⟨c0, c1, c2, c3, c4, c5, c6⟩ := nod_cells (T.out.has (has_blk _ _ _))
  go_wp2_with fail
  refine (HZ.out (by first | rfl | trivial) _ T.out.bel).mono ?_
  rintro e w3 ⟨rfl, hX⟩
  have U := Lib.hid (T.out.below hX)
  clear hX T c0 c1 c2 c3 c4 c5 c6
  go_wp2_with fail
  go_returns
  exact ⟨ret_bool (by simp <;> omega), U.out.bel⟩
end Go.Proofs.Ythoaangmekkcmaa.Nd
end
