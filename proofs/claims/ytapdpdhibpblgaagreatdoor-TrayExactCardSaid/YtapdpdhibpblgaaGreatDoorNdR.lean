/- The reader of nodes: bytes taken apart. -/
import Derived.Test.YtapdpdhibpblgaaGreatDoorCrC
import Derived.Test.YtapdpdhibpblgaaGreatDoorNtB
import Derived.Deep.CutBlock
namespace Go.Proofs.YtapdpdhibpblgaaGreatDoor.Nd
open Go.ChangeShapes Go.WideShapes Go.ChangeAt Go.RowKit Go.PlainAid Aid Cr Nt
set_option linter.unusedVariables false
set_option linter.unusedSimpArgs false
def aR (g : Nat) (s : St) : Asn := aSt 206 g s
set_option maxRecDepth 100000 in
set_option maxHeartbeats 1000000 in
theorem tTake (g n : Nat) (s : St) :
    Tr Tryz.prog 150 #[bPtr g, .int .i64 n] (aR g s) (.string (ofL (tk n s).1)) (aR g (tk n s).2) := by
  intro w O hA
  obtain ⟨l, b⟩ := s
  have S := Lib.hid (Own.start hA)
  obtain ⟨c0, c1, f0, f1⟩ := st_cells hA.1
  have hz : (ofL l).size = l.length := rfl
  by_cases h : l.length < n
  · have e : tk n ⟨l, b⟩ = ([], ⟨l, true⟩) := by unfold tk; rw [if_pos h]
    rw [e]
    have hs : Hid (aR g ⟨l, true⟩ = Asn.blk g 206 #[.string (ofL l), .bool true]) := Lib.hid rfl
    have hlt : ((ofL l).size : Int) < n := by omega
    have he : ofL ([] : By) = ⟨#[]⟩ := rfl
    dsimp only
    rw [he]
    unfold aR aSt at S
    dsimp only at S c0 c1
    clear hA e hz
    generalize ofL l = x at *
    unfold bPtr at *
    go_enter Tryz.func150, Tryz.ntmps150
    go_wp2_with fail
    go_returns
    rw [hs.out]
    exact ⟨rfl, S.out.set (sets_blk _ _ _ 1 (.bool true))⟩
  · have e : tk n ⟨l, b⟩ = (l.take n, ⟨l.drop n, b⟩) := by unfold tk; rw [if_neg h]
    rw [e]
    have hs : Hid (aR g ⟨l.drop n, b⟩ = Asn.blk g 206 #[.string (ofL (l.drop n)), .bool b]) := Lib.hid rfl
    have hlt : ¬ ((ofL l).size : Int) < n := by omega
    have hs1 := slice_to (P := Tryz.prog) Tryz.underlying9 (ofL l) n n rfl (by omega)
    have hs2 := slice_from (P := Tryz.prog) Tryz.underlying9 (ofL l) n n rfl (by omega)
    rw [ofL_take] at hs1
    rw [ofL_drop] at hs2
    dsimp only
    unfold aR aSt at S
    dsimp only at S c0 c1
    clear hA e hz
    generalize ofL (l.drop n) = z at *
    generalize ofL (l.take n) = y at *
    generalize ofL l = x at *
    unfold bPtr at *
    go_enter Tryz.func150, Tryz.ntmps150
    go_wp2_with fail
    go_returns
    rw [hs.out]
    exact ⟨rfl, S.out.set (sets_blk _ _ _ 0 (.string z))⟩
set_option maxRecDepth 100000 in
set_option maxHeartbeats 4000000 in
theorem tPnum (g k : Nat) (s : St) (hk : k ≤ 4) :
    Tr Tryz.prog 148 #[bPtr g, .int .i64 k] (aR g s) (.int .i64 ((pnum k s).1 : Nat)) (aR g (pnum k s).2) := by
  intro w O hA
  have S := Lib.hid (Own.start hA)
  have HT := Lib.hid (tTake g k s)
  have hlen : (tk k s).1.length ≤ 4 := by unfold tk; split <;> simp; omega
  unfold pnum
  generalize (tk k s).1 = t at *
  generalize (tk k s).2 = s' at *
  clear hA
  unfold bPtr at *
  go_enter Tryz.func148, Tryz.ntmps148
  go_wp2_with fail
  refine (S.out.call (HT.out)).mono ?_
  rintro e w1 ⟨rfl, hX⟩
  have S1 := Lib.hid hX
  clear hX S 
  obtain ⟨cap, w2, hcv, hb, hB⟩ := to_bytes (P := Tryz.prog) Tryz.underlying9 Tryz.underlying138 Tryz.underlying5 w1 (ofL t)
  have S2 := Lib.hid (S1.out.below hb)
  have hB' : Bytes w2 w1.heap.size t := hB
  have hz : (ofL t).size = t.length := rfl
  rw [hz] at hcv
  have cell : ∀ (i : Nat) (x : UInt8), t[i]? = some x → w2.cell? ⟨w1.heap.size, i, none⟩ = some (.int .u8 x.toNat) := hB'.2.1
  clear hb hB hB' S1 hz HT
  have CELL := Lib.hid cell
  clear cell
  generalize ofL t = x at *
  go_wp2_with fail
  go_loop [5, 6, 7, 13] (fun n _ _ i => ∃ j : Nat, j ≤ t.length ∧ i = .int .i64 j ∧ n = .int .i64 ((unnum (t.take j) : Nat) : Int)) (fun _ _ _ i => t.length - (intOf i).toNat)
  case atStart => exact ⟨0, Nat.zero_le _, rfl, rfl⟩
  case round =>
    clear hcv
    obtain ⟨j, hj, rfl, rfl⟩ := hrel
    by_cases hlt : j < t.length
    · obtain ⟨y, hy⟩ : ∃ y, t[j]? = some y := ⟨t[j]'(by omega), List.getElem?_eq_getElem _⟩
      have c0 := CELL.out j y hy
      have hsn := unnum_snoc t j y hy
      have hlt2 := unnum_lt (t.take j)
      rw [List.length_take, Nat.min_eq_left (by omega)] at hlt2
      have hy2 : y.toNat < 256 := y.toNat_lt
      have HS := Lib.hid hsn
      generalize unnum (t.take j) = n at *
      clear hsn hy
      have hm : j = 0 ∨ j = 1 ∨ j = 2 ∨ j = 3 := by omega
      have hor := or_add n y.toNat (8 * j) (by rw [Nat.pow_mul]; exact hlt2) (by rcases hm with rfl | rfl | rfl | rfl <;> omega)
      generalize y.toNat = z at *
      rcases hm with rfl | rfl | rfl | rfl
      · go_wp2_with fail
        go_round
        case rel => exact ⟨1, by omega, rfl, by rw [HS.out]; simpa using hor⟩
        case measure => simp [intOf]; omega
      · go_wp2_with fail
        go_round
        case rel => exact ⟨2, by omega, rfl, by rw [HS.out]; simpa using hor⟩
        case measure => simp [intOf]; omega
      · go_wp2_with fail
        go_round
        case rel => exact ⟨3, by omega, rfl, by rw [HS.out]; simpa using hor⟩
        case measure => simp [intOf]; omega
      · go_wp2_with fail
        go_round
        case rel => exact ⟨4, by omega, rfl, by rw [HS.out]; simpa using hor⟩
        case measure => simp [intOf]; omega
    · obtain rfl : j = t.length := by omega
      rw [List.take_length]
      go_wp2_with fail
      go_returns
      exact ⟨rfl, S2.out⟩
set_option maxRecDepth 100000 in
set_option maxHeartbeats 1000000 in
theorem tFlagR (g : Nat) (s : St) :
    Tr Tryz.prog 149 #[bPtr g] (aR g s) (.bool (pFlag s).1) (aR g (pFlag s).2) := by
  intro w O hA
  have S := Lib.hid (Own.start hA)
  have H1 := Lib.hid (tPnum g 1 s (by omega))
  have e1 : (pFlag s).1 = (((pnum 1 s).1 : Int) == 1) := by unfold pFlag; dsimp only; rw [show (((pnum 1 s).1 : Int) == 1) = decide (((pnum 1 s).1 : Int) = 1) from rfl]; exact decide_eq_decide.2 (by omega)
  have e2 : (pFlag s).2 = (pnum 1 s).2 := rfl
  rw [e1, e2]
  generalize pnum 1 s = n at *
  clear hA e1 e2
  unfold bPtr at *
  go_enter Tryz.func149, Tryz.ntmps149
  go_wp2_with fail
  refine (S.out.call (H1.out)).mono ?_
  rintro e w1 ⟨rfl, hX⟩
  have S1 := Lib.hid hX
  clear hX S 
  go_wp2_with fail
  go_returns
  exact ⟨rfl, S1.out⟩
section
variable {w0 w : World} {O0 : Nat → Prop} {A : Asn} {g : Nat} {T : TypeId} {a0 a1 a2 a3 a4 a5 a6 : Value}
theorem own_three (h : Own w0 O0 w (Asn.blk g T #[a0, a1, a2] * A)) (b0 b1 b2 : Value) :
    Own w0 O0 (((w.setCell ⟨g, 0, none⟩ b0).setCell ⟨g, 1, none⟩ b1).setCell ⟨g, 2, none⟩ b2) (Asn.blk g T #[b0, b1, b2] * A) :=
  set_l (set_l (set_l h 0 b0 #[b0, a1, a2] rfl) 1 b1 #[b0, b1, a2] rfl) 2 b2 #[b0, b1, b2] rfl
/-- A block of seven cells is written, cell for cell. -/
theorem own_seven (h : Own w0 O0 w (Asn.blk g T #[a0, a1, a2, a3, a4, a5, a6] * A)) (b0 b1 b2 b3 b4 b5 b6 : Value) :
    Own w0 O0 (((((((w.setCell ⟨g, 0, none⟩ b0).setCell ⟨g, 1, none⟩ b1).setCell ⟨g, 2, none⟩ b2).setCell ⟨g, 3, none⟩ b3).setCell ⟨g, 4, none⟩ b4).setCell ⟨g, 5, none⟩ b5).setCell ⟨g, 6, none⟩ b6) (Asn.blk g T #[b0, b1, b2, b3, b4, b5, b6] * A) :=
  set_l (set_l (set_l (set_l (set_l (set_l (set_l h 0 b0 #[b0, a1, a2, a3, a4, a5, a6] rfl) 1 b1 #[b0, b1, a2, a3, a4, a5, a6] rfl) 2 b2 #[b0, b1, b2, a3, a4, a5, a6] rfl) 3 b3 #[b0, b1, b2, b3, a4, a5, a6] rfl) 4 b4 #[b0, b1, b2, b3, b4, a5, a6] rfl) 5 b5 #[b0, b1, b2, b3, b4, b5, a6] rfl) 6 b6 #[b0, b1, b2, b3, b4, b5, b6] rfl
theorem seven {w : World} {g : Nat} {T : TypeId} {a0 a1 a2 a3 a4 a5 a6 : Value} (h : Blk w g T #[a0, a1, a2, a3, a4, a5, a6]) :
    (w.cell? ⟨g, 0, none⟩ = some a0 ∧ w.cell? ⟨g, 1, none⟩ = some a1 ∧ w.cell? ⟨g, 2, none⟩ = some a2 ∧ w.cell? ⟨g, 3, none⟩ = some a3 ∧ w.cell? ⟨g, 4, none⟩ = some a4 ∧ w.cell? ⟨g, 5, none⟩ = some a5 ∧ w.cell? ⟨g, 6, none⟩ = some a6) ∧
    (w.frozen? ⟨g, 0, none⟩ = false ∧ w.frozen? ⟨g, 1, none⟩ = false ∧ w.frozen? ⟨g, 2, none⟩ = false ∧ w.frozen? ⟨g, 3, none⟩ = false ∧ w.frozen? ⟨g, 4, none⟩ = false ∧ w.frozen? ⟨g, 5, none⟩ = false ∧ w.frozen? ⟨g, 6, none⟩ = false) :=
  ⟨⟨h.cell 0, h.cell 1, h.cell 2, h.cell 3, h.cell 4, h.cell 5, h.cell 6⟩, ⟨h.free 0, h.free 1, h.free 2, h.free 3, h.free 4, h.free 5, h.free 6⟩⟩
end
set_option maxRecDepth 100000 in
set_option maxHeartbeats 1000000 in
theorem tEnt (g : Nat) (s : St) :
    Tr Tryz.prog 172 #[bPtr g] (aR g s) (.agg (entCells (pEnt s).1)) (aR g (pEnt s).2) := by
  intro w O hA
  have S := Lib.hid ((Own.start hA).alloc #[.string ⟨#[]⟩, .string ⟨#[]⟩, .bool false] 83)
  obtain ⟨a, ea⟩ : ∃ a, a = tk 9 s := ⟨_, rfl⟩
  obtain ⟨b, eb⟩ : ∃ b, b = pFlag a.2 := ⟨_, rfl⟩
  obtain ⟨c, ec⟩ : ∃ c, c = pnum 1 b.2 := ⟨_, rfl⟩
  obtain ⟨d, ed⟩ : ∃ d, d = tk c.1 c.2 := ⟨_, rfl⟩
  have H1 := Lib.hid (tTake g 9 s)
  have H2 := Lib.hid (tFlagR g a.2)
  have H3 := Lib.hid (tPnum g 1 b.2 (by omega))
  have H4 := Lib.hid (tTake g c.1 c.2)
  rw [← ea] at H1; rw [← eb] at H2; rw [← ec] at H3; rw [← ed] at H4
  have he : pEnt s = (⟨a.1, d.1, b.1⟩, d.2) := by rw [ed, ec, eb, ea]; rfl
  rw [he]
  unfold entCells
  dsimp only
  clear hA ea eb ec ed he
  generalize ofL a.1 = x at *
  generalize ofL d.1 = y at *
  unfold bPtr at *
  go_enter Tryz.func172, Tryz.ntmps172
  go_wp2_with fail
  obtain ⟨gx, hgz⟩ : ∃ g, g = w.heap.size := ⟨_, rfl⟩
  rw [← hgz] at S ⊢
  clear hgz
  generalize w.alloc _ = w1 at *
  refine (S.out.call H1.out.r).mono ?_
  rintro e w2 ⟨rfl, hX⟩
  have S1 := Lib.hid hX
  clear hX S
  go_wp2_with fail
  refine (S1.out.call (H2.out.r)).mono ?_
  rintro e w3 ⟨rfl, hX⟩
  have S2 := Lib.hid hX
  clear hX S1 
  go_wp2_with fail
  refine (S2.out.call (H3.out.r)).mono ?_
  rintro e w4 ⟨rfl, hX⟩
  have S3 := Lib.hid hX
  clear hX S2 
  go_wp2_with fail
  refine (S3.out.call (H4.out.r)).mono ?_
  rintro e w5 ⟨rfl, hX⟩
  have S4 := Lib.hid hX
  clear hX S3 
  obtain ⟨c0, c1, c2⟩ := ent_cells (S4.out.has (Has.l (has_blk _ _ _)))
  have f0 := (S4.out.has (Has.l (has_blk _ _ _))).free 0
  have f1 := (S4.out.has (Has.l (has_blk _ _ _))).free 1
  have f2 := (S4.out.has (Has.l (has_blk _ _ _))).free 2
  go_wp2_with fail
  have S5 := Lib.hid (own_three S4.out (.string x) (.string y) (.bool b.1))
  clear S4 c0 c1 c2 f0 f1 f2
  generalize World.setCell (World.setCell (World.setCell w5 _ _) _ _) _ _ = w6 at *
  obtain ⟨c0, c1, c2⟩ := ent_cells (S5.out.has (Has.l (has_blk _ _ _)))
  exact bodyPost_ret (v := .agg #[.string x, .string y, .bool b.1]) (by simp [results, Tryz.results172, go_sem, c0, c1, c2]) rfl ⟨rfl, S5.out.right⟩
def cells3 (l : List Ent) : List Value := l.flatMap fun x => [.string (ofL x.key), .string (ofL x.val), .bool x.ghost]
theorem append3 {w : World} {g0 : Nat} {x y z : Value} {T : TypeId} (h : Blk w g0 T #[x, y, z]) : ∀ j u, [x, y, z][j]? = some u → w.cell? ((⟨g0, 0, none⟩ : Addr).add j) = some u := by
  intro j u hu
  rw [addr_zero, h.cell]
  simpa using hu
theorem infoEnt : (Tryz.prog.info? 83).map (fun i => (i.zero, i.size, i.bytes)) = some (some (.agg #[.string ⟨#[]⟩, .string ⟨#[]⟩, .bool false]), 3, 40) := by kernel_rfl
set_option maxRecDepth 100000 in
set_option maxHeartbeats 2000000 in
theorem tList (g N : Nat) (s : St) (hN : N ≤ 65535) :
    TrE Tryz.prog 151 #[bPtr g, .int .i64 N] (aR g s) (fun v => v) (fun v => Asn.vec 83 3 v (loop pEnt N s).1.length (cells3 (loop pEnt N s).1) * aR g (loop pEnt N s).2) := by
  intro w O hA
  have S := Lib.hid (Own.start hA)
  have HI := Lib.hid (tEnt g)
  have S2 := Lib.hid (S.out.nilVec 83 3)
  clear hA S
  unfold bPtr at *
  go_enter Tryz.func151, Tryz.ntmps151
  go_wp2_with fail
  go_loopw [1, 5] (fun i v wr => ∃ (j : Nat) (xs : List Ent) (st : St), i = .int .i64 j ∧ Hid (xs.length + j = N) ∧ Hid (loop pEnt N s = (xs ++ (loop pEnt j st).1, (loop pEnt j st).2)) ∧ Hid (Own w O wr (Asn.vec 83 3 v xs.length (cells3 xs) * aR g st))) (fun i _ _ => (intOf i).toNat)
  case atStart => exact ⟨N, [], s, rfl, Lib.hid (by simp), Lib.hid (by simp), S2⟩
  case round =>
    clear S2
    obtain ⟨j, xs, st, rfl, hj, hL, S⟩ := hrel
    obtain ⟨A, c, rfl⟩ := S.out.vec.slice
    obtain ⟨c0, c1, f0, f1⟩ := st_cells (S.out.has (Has.r (has_blk _ _ _)))
    by_cases h0 : j = 0
    · subst h0
      go_wp2_with fail
      go_returns
      have := hL.out
      rw [show loop pEnt 0 st = ([], st) from rfl, List.append_nil] at this
      rw [this]
      exact ⟨_, rfl, S.out⟩
    · cases hb : st.bad with
      | true =>
        rw [hb] at c1
        have hj1 : 0 < j := by omega
        obtain ⟨j, rfl⟩ : ∃ i, j = i + 1 := ⟨j - 1, by omega⟩
        go_wp2_with fail
        go_returns
        have := hL.out
        rw [show loop pEnt (j + 1) st = ([], st) by rw [loop, if_pos hb], List.append_nil] at this
        rw [this]
        exact ⟨_, rfl, S.out⟩
      | false =>
        rw [hb] at c1
        obtain ⟨j, rfl⟩ : ∃ i, j = i + 1 := ⟨j - 1, by omega⟩
        have hj2 := hj.out
        have hl2 := hL.out
        rw [loop, if_neg (by rw [hb]; decide)] at hl2
        have HL2 := Lib.hid hl2
        clear hl2 hL
        go_wp2_with fail
        refine (S.out.call (HI.out st).r).mono ?_
        rintro e w2 ⟨rfl, hX⟩
        have S2 := Lib.hid hX
        clear hX S c0 c1 f0 f1
        generalize (pEnt st).1 = x at *
        generalize (pEnt st).2 = st2 at *
        have hc2 : cells3 (xs ++ [x]) = cells3 xs ++ [.string (ofL x.key), .string (ofL x.val), .bool x.ghost] := by simp [cells3]
        have HC2 := Lib.hid hc2
        have HL3 : Hid (loop pEnt N s = ((xs ++ [x]) ++ (loop pEnt j st2).1, (loop pEnt j st2).2)) := Lib.hid (by rw [HL2.out, List.append_assoc]; rfl)
        clear hc2 HL2 hb
        unfold entCells
        generalize ofL x.key = xk at *
        generalize ofL x.val = xv at *
        generalize x.ghost = xg at *
        have S3 := Lib.hid (S2.out.alloc #[.string xk, .string xv, .bool xg] 83).right
        have CX : Hid (Src Tryz.prog 3 29 (.slice (some ⟨w2.heap.size, 0, none⟩) 1 1) 1 [.string xk, .string xv, .bool xg] (w2.alloc (.cells #[.string xk, .string xv, .bool xg] 83))) := Lib.hid (Src.ofSlice _ Tryz.underlying29 _ 1 1 _ rfl (append3 (Blk.new w2 #[.string xk, .string xv, .bool xg] 83)) (by intro u hu; simp at hu; rcases hu with rfl | rfl | rfl <;> rfl))
        clear S2
        go_wp2_with (with_reducible refine wpList_append_vec rfl (.tmp 17) (.tmp 20) 29 29 rfl 83 _ 3 40 Tryz.underlying29 infoEnt ?c1 ?c2 _ xs.length (cells3 xs) ?c7 S3.out.vec (.slice (some ⟨w2.heap.size, 0, none⟩) 1 1) ?c8 1 _ CX.out ?c3 ?c4 ?_)
        case c1 => rfl
        case c2 => decide
        case c3 => unfold maxLen; omega
        case c4 => omega
        case c7 => rfl
        case c8 => rfl
        intro v' w3 hv hc hf
        have S4 := Lib.hid (S3.out.app hv hc hf)
        obtain ⟨A', c', rfl⟩ := hv.slice
        clear S3 CX hv hc hf
        go_wp2_with fail
        go_round
        case rel => exact ⟨j, xs ++ [x], st2, by go_num, Lib.hid (by rw [List.length_append, List.length_singleton]; omega), HL3, by rw [HC2.out, List.length_append]; exact S4⟩
        case measure => simp [intOf]
def zero7 : Array Value := #[.int .i64 0, .int .i64 0, .int .i64 0, .bool false, .string ⟨#[]⟩, .int .i64 0, .slice none 0 0]
/-- The entries of a node, owned. -/
def aEnts (n : Nod) (v : Value) : Asn := Asn.vec 83 3 v n.list.length (cells3 n.list)
set_option maxRecDepth 100000 in
set_option maxHeartbeats 4000000 in
theorem tNod (g : Nat) (s : St) :
    TrE Tryz.prog 123 #[bPtr g] (aR g s) (fun v => .agg (nodCells (pNod s).1 v)) (fun v => aEnts (pNod s).1 v * aR g (pNod s).2) := by
  intro w O hA
  have S := Lib.hid ((Own.start hA).alloc zero7 31)
  obtain ⟨a, ea⟩ : ∃ a, a = pnum 1 s := ⟨_, rfl⟩
  obtain ⟨b, eb⟩ : ∃ b, b = pnum 1 a.2 := ⟨_, rfl⟩
  obtain ⟨c, ec⟩ : ∃ c, c = pnum 4 b.2 := ⟨_, rfl⟩
  obtain ⟨d, ed⟩ : ∃ d, d = pFlag c.2 := ⟨_, rfl⟩
  obtain ⟨e, ee⟩ : ∃ e, e = tk 9 d.2 := ⟨_, rfl⟩
  obtain ⟨f, ef⟩ : ∃ f, f = pnum 2 e.2 := ⟨_, rfl⟩
  obtain ⟨h, eh⟩ : ∃ h, h = pnum 2 f.2 := ⟨_, rfl⟩
  obtain ⟨l, el⟩ : ∃ l, l = loop pEnt h.1 h.2 := ⟨_, rfl⟩
  have T1 := Lib.hid (tPnum g 1 s (by omega))
  have T2 := Lib.hid (tPnum g 1 a.2 (by omega))
  have T3 := Lib.hid (tPnum g 4 b.2 (by omega))
  have T4 := Lib.hid (tFlagR g c.2)
  have T5 := Lib.hid (tTake g 9 d.2)
  have T6 := Lib.hid (tPnum g 2 e.2 (by omega))
  have T7 := Lib.hid (tPnum g 2 f.2 (by omega))
  have T8 := Lib.hid (tList g h.1 h.2 (by rw [eh]; have := pnum_le 2 f.2; omega))
  have hr : pNod s = (⟨a.1, b.1, c.1, d.1, if d.1 then e.1 else [], f.1, l.1⟩, l.2) := by rw [el, eh, ef, ee, ed, ec, eb, ea]; rfl
  rw [hr]
  unfold aEnts nodCells
  dsimp only
  rw [← ea] at T1; rw [← eb] at T2; rw [← ec] at T3; rw [← ed] at T4; rw [← ee] at T5; rw [← ef] at T6; rw [← eh] at T7; rw [← el] at T8
  obtain ⟨hi, ehi⟩ : ∃ x, x = ofL (if d.1 then e.1 else []) := ⟨_, rfl⟩
  rw [← ehi]
  have HI := Lib.hid ehi
  clear hA ea eb ec ed ee ef eh el hr ehi
  unfold bPtr zero7 at *
  go_enter Tryz.func123, Tryz.ntmps123
  go_wp2_with fail
  obtain ⟨gx, hgz⟩ : ∃ g, g = w.heap.size := ⟨_, rfl⟩
  rw [← hgz] at S ⊢
  clear hgz
  generalize w.alloc _ = w1 at *
  refine (S.out.call T1.out.r).mono ?_
  rintro e w2 ⟨rfl, hX⟩
  have S1 := Lib.hid hX
  clear hX S T1
  go_wp2_with fail
  refine (S1.out.call (T2.out.r)).mono ?_
  rintro e w3 ⟨rfl, hX⟩
  have S2 := Lib.hid hX
  clear hX S1 T2
  go_wp2_with fail
  refine (S2.out.call (T3.out.r)).mono ?_
  rintro e w4 ⟨rfl, hX⟩
  have S3 := Lib.hid hX
  clear hX S2 T3
  go_wp2_with fail
  refine (S3.out.call (T4.out.r)).mono ?_
  rintro e w5 ⟨rfl, hX⟩
  have S4 := Lib.hid hX
  clear hX S3 T4
  have S5 := Lib.hid (S4.out.alloc #[.int .i64 a.1, .int .i64 b.1, .int .i64 c.1, .bool d.1, .string ⟨#[]⟩, .int .i64 0, .slice none 0 0] 31)
  clear S4
  go_upto_region 2 with fail
  obtain ⟨gn, hgz⟩ : ∃ g, g = w5.heap.size := ⟨_, rfl⟩
  rw [← hgz] at S5 ⊢
  clear hgz
  generalize w5.alloc _ = w6 at *
  go_wp2_with fail
  refine (S5.out.call (T5.out.r.r)).mono ?_
  rintro e w7 ⟨rfl, hX⟩
  have S6 := Lib.hid hX
  clear hX S5 
  obtain ⟨-, -, -, c3, c4, -, -⟩ := nod_cells (S6.out.has (Has.l (has_blk _ _ _)))
  have f4 := (S6.out.has (Has.l (has_blk _ _ _))).free 4
  cases hd : d.1 with
  | true =>
    rw [hd] at c3 S6
    have hi2 : hi = ofL e.1 := by rw [HI.out, hd]; rfl
    subst hi2
    clear HI
    go_upto_region 5 with fail
    have S7 := Lib.hid (set_l S6.out 4 (.string (ofL e.1)) #[.int .i64 a.1, .int .i64 b.1, .int .i64 c.1, .bool true, .string (ofL e.1), .int .i64 0, .slice none 0 0] rfl)
    clear S6 c3 c4 f4 T5
    generalize w7.setCell _ _ = w7s at *
    go_wp2_with fail
    refine (S7.out.call (T6.out.r.r)).mono ?_
    rintro e w8 ⟨rfl, hX⟩
    have S8 := Lib.hid hX
    clear hX S7 T6
    have f5 := (S8.out.has (Has.l (has_blk _ _ _))).free 5
    obtain ⟨-, -, -, -, -, c5, -⟩ := nod_cells (S8.out.has (Has.l (has_blk _ _ _)))
    go_wp2_with (fail)
    have S9 := Lib.hid (set_l S8.out 5 (.int .i64 f.1) #[.int .i64 a.1, .int .i64 b.1, .int .i64 c.1, .bool true, .string (ofL e.1), .int .i64 f.1, .slice none 0 0] rfl)
    clear S8 f5 c5
    generalize w8.setCell _ _ = w9 at *
    refine (S9.out.call T7.out.r.r).mono ?_
    rintro e w10 ⟨rfl, hX⟩
    have S10 := Lib.hid hX
    clear hX S9 T7
    go_wp2_with fail
    refine (S10.out.callE T8.out.r.r).mono ?_
    rintro e w11 ⟨v, rfl, hX⟩
    have S11 := Lib.hid hX
    clear hX S10 T8
    obtain ⟨A1, m1, rfl⟩ := S11.out.right.right.vec.slice
    have f6 := (S11.out.has (Has.l (has_blk _ _ _))).free 6
    obtain ⟨-, -, -, -, -, -, c6⟩ := nod_cells (S11.out.has (Has.l (has_blk _ _ _)))
    go_upto_region 7 with fail
    have S12 := Lib.hid (set_l S11.out 6 (.slice A1 l.1.length m1) #[.int .i64 a.1, .int .i64 b.1, .int .i64 c.1, .bool true, .string (ofL e.1), .int .i64 f.1, .slice A1 l.1.length m1] rfl)
    clear S11 f6 c6
    generalize w11.setCell _ _ = w12 at *
    obtain ⟨⟨c0, c1, c2, c3, c4, c5, c6⟩, -⟩ := seven (S12.out.has (Has.l (has_blk _ _ _)))
    have S13 := Lib.hid S12.out.right
    clear S12
    obtain ⟨⟨d0, d1, d2, d3, d4, d5, d6⟩, f0, f1, f2, f3, f4, f5, f6⟩ := seven (S13.out.has (Has.l (has_blk _ _ _)))
    go_wp2_with fail
    have S14 := Lib.hid (own_seven S13.out (.int .i64 a.1) (.int .i64 b.1) (.int .i64 c.1) (.bool true) (.string (ofL e.1)) (.int .i64 f.1) (.slice A1 l.1.length m1))
    clear S13 c0 c1 c2 c3 c4 c5 c6 d0 d1 d2 d3 d4 d5 d6 f0 f1 f2 f3 f4 f5 f6
    generalize World.setCell (World.setCell (World.setCell (World.setCell (World.setCell (World.setCell (World.setCell w12 _ _) _ _) _ _) _ _) _ _) _ _) _ _ = w13 at *
    obtain ⟨⟨c0, c1, c2, c3, c4, c5, c6⟩, -⟩ := seven (S14.out.has (Has.l (has_blk _ _ _)))
    exact bodyPost_ret (v := .agg #[.int .i64 a.1, .int .i64 b.1, .int .i64 c.1, .bool true, .string (ofL e.1), .int .i64 f.1, .slice A1 l.1.length m1]) (by simp [results, Tryz.results123, go_sem, c0, c1, c2, c3, c4, c5, c6]) rfl ⟨_, by rw [hd], S14.out.right⟩
  | false =>
    rw [hd] at c3 S6
    have hi2 : hi = ⟨#[]⟩ := by rw [HI.out, hd]; rfl
    subst hi2
    have S7 := Lib.hid S6.out
    clear S6 f4 c4 T5
    go_upto_region 5 with fail
    clear c3
    go_wp2_with fail
    refine (S7.out.call (T6.out.r.r)).mono ?_
    rintro e w8 ⟨rfl, hX⟩
    have S8 := Lib.hid hX
    clear hX S7 T6
    have f5 := (S8.out.has (Has.l (has_blk _ _ _))).free 5
    obtain ⟨-, -, -, -, -, c5, -⟩ := nod_cells (S8.out.has (Has.l (has_blk _ _ _)))
    go_wp2_with (fail)
    have S9 := Lib.hid (set_l S8.out 5 (.int .i64 f.1) #[.int .i64 a.1, .int .i64 b.1, .int .i64 c.1, .bool false, .string ⟨#[]⟩, .int .i64 f.1, .slice none 0 0] rfl)
    clear S8 f5 c5
    generalize w8.setCell _ _ = w9 at *
    refine (S9.out.call T7.out.r.r).mono ?_
    rintro e w10 ⟨rfl, hX⟩
    have S10 := Lib.hid hX
    clear hX S9 T7
    go_wp2_with fail
    refine (S10.out.callE T8.out.r.r).mono ?_
    rintro e w11 ⟨v, rfl, hX⟩
    have S11 := Lib.hid hX
    clear hX S10 T8
    obtain ⟨A1, m1, rfl⟩ := S11.out.right.right.vec.slice
    have f6 := (S11.out.has (Has.l (has_blk _ _ _))).free 6
    obtain ⟨-, -, -, -, -, -, c6⟩ := nod_cells (S11.out.has (Has.l (has_blk _ _ _)))
    go_upto_region 7 with fail
    have S12 := Lib.hid (set_l S11.out 6 (.slice A1 l.1.length m1) #[.int .i64 a.1, .int .i64 b.1, .int .i64 c.1, .bool false, .string ⟨#[]⟩, .int .i64 f.1, .slice A1 l.1.length m1] rfl)
    clear S11 f6 c6
    generalize w11.setCell _ _ = w12 at *
    obtain ⟨⟨c0, c1, c2, c3, c4, c5, c6⟩, -⟩ := seven (S12.out.has (Has.l (has_blk _ _ _)))
    have S13 := Lib.hid S12.out.right
    clear S12
    obtain ⟨⟨d0, d1, d2, d3, d4, d5, d6⟩, f0, f1, f2, f3, f4, f5, f6⟩ := seven (S13.out.has (Has.l (has_blk _ _ _)))
    go_wp2_with fail
    have S14 := Lib.hid (own_seven S13.out (.int .i64 a.1) (.int .i64 b.1) (.int .i64 c.1) (.bool false) (.string ⟨#[]⟩) (.int .i64 f.1) (.slice A1 l.1.length m1))
    clear S13 c0 c1 c2 c3 c4 c5 c6 d0 d1 d2 d3 d4 d5 d6 f0 f1 f2 f3 f4 f5 f6
    generalize World.setCell (World.setCell (World.setCell (World.setCell (World.setCell (World.setCell (World.setCell w12 _ _) _ _) _ _) _ _) _ _) _ _) _ _ = w13 at *
    obtain ⟨⟨c0, c1, c2, c3, c4, c5, c6⟩, -⟩ := seven (S14.out.has (Has.l (has_blk _ _ _)))
    exact bodyPost_ret (v := .agg #[.int .i64 a.1, .int .i64 b.1, .int .i64 c.1, .bool false, .string ⟨#[]⟩, .int .i64 f.1, .slice A1 l.1.length m1]) (by simp [results, Tryz.results123, go_sem, c0, c1, c2, c3, c4, c5, c6]) rfl ⟨_, by rw [hd], S14.out.right⟩
end Go.Proofs.YtapdpdhibpblgaaGreatDoor.Nd
