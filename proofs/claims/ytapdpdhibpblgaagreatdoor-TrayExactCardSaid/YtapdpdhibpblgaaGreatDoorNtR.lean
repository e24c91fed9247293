/- The reader: bytes taken apart. -/
import Derived.Test.YtapdpdhibpblgaaGreatDoorNtA
import Derived.Test.YtapdpdhibpblgaaGreatDoorBld
namespace Go.Proofs.YtapdpdhibpblgaaGreatDoor.Nt
open Go.ChangeShapes Go.WideShapes Go.ChangeAt Go.RowKit Go.PlainAid Aid Cr
set_option linter.unusedVariables false
set_option linter.unusedSimpArgs false
theorem two_cells {w : World} {g : Nat} {T : TypeId} {a b : Value} (h : Blk w g T #[a, b]) : w.cell? ⟨g, 0, none⟩ = some a ∧ w.cell? ⟨g, 1, none⟩ = some b := ⟨h.cell 0, h.cell 1⟩
theorem ofL_take (l : By) (n : Nat) : (ofL l).extract 0 n = ofL (l.take n) := by
  apply list_inj; rw [Lib.extract_data, List.drop_zero, Nat.sub_zero]; rfl
theorem ofL_drop (l : By) (n : Nat) : (ofL l).extract n (ofL l).size = ofL (l.drop n) := by
  apply list_inj
  rw [Lib.extract_data, ofL_list, ofL_list, ofL_size, List.take_of_length_le]
  rw [List.length_drop]; exact Nat.le_refl _
/-- s[k:] of a string. -/
theorem slice_from {P : Program} {t : TypeId} (ht : P.underlying t = some .string) (s : ByteArray) (k : Nat) (j : Int) (hj : j = k) (h : k ≤ s.size) (w : World) : (Instr.slice t (.string s) (some (.int .i64 j)) none none).run P w = .ok (.string (s.extract k s.size)) w := by
  subst hj
  have := Go.run_slice_string_l (P := P) w t s ht .i64 (k : Int) (by omega) (by omega)
  rw [Int.toNat_natCast] at this
  exact this
theorem append2 {w : World} {g0 : Nat} {x y : Value} (hx : w.cell? ⟨g0, 0, none⟩ = some x) (hy : w.cell? ⟨g0, 1, none⟩ = some y) : ∀ j u, [x, y][j]? = some u → w.cell? ((⟨g0, 0, none⟩ : Addr).add j) = some u := by
  intro j u hu
  rw [addr_zero]
  match j, hu with
  | 0, hu => rw [hx]; exact hu
  | 1, hu => rw [hy]; exact hu
  | j + 2, hu => cases hu
def cells2 {α : Type} (f : α → Value × Value) (l : List α) : List Value := l.flatMap fun x => [(f x).1, (f x).2]
theorem pnum_le (k : Nat) (s : St) : (pnum k s).1 < 256 ^ k := by
  unfold pnum tk
  split
  · exact Nat.pow_pos (by decide)
  · have := unnum_lt (s.rest.take k)
    rw [List.length_take, Nat.min_eq_left (by omega)] at this
    exact this
/-- What goes through bytes: of type T, what is left and whether there were too few. -/
def aSt (T : TypeId) (g : Nat) (s : St) : Asn := Asn.blk g T #[.string (ofL s.rest), .bool s.bad]
theorem st_cells {w : World} {T : TypeId} {g : Nat} {a : ByteArray} {b : Bool} (h : Blk w g T #[.string a, .bool b]) : w.cell? ⟨g, 0, none⟩ = some (.string a) ∧ w.cell? ⟨g, 1, none⟩ = some (.bool b) ∧ w.frozen? ⟨g, 0, none⟩ = false ∧ w.frozen? ⟨g, 1, none⟩ = false := ⟨h.cell 0, h.cell 1, h.free 0, h.free 1⟩
def aR (g : Nat) (s : St) : Asn := aSt 210 g s
set_option maxRecDepth 100000 in
set_option maxHeartbeats 1000000 in
theorem tTake (g n : Nat) (s : St) :
    Tr Tryz.prog 173 #[bPtr g, .int .i64 n] (aR g s) (.string (ofL (tk n s).1)) (aR g (tk n s).2) := by
  intro w O hA
  obtain ⟨l, b⟩ := s
  have S := Lib.hid (Own.start hA)
  obtain ⟨c0, c1, f0, f1⟩ := st_cells hA.1
  have hz : (ofL l).size = l.length := rfl
  by_cases h : l.length < n
  · have e : tk n ⟨l, b⟩ = ([], ⟨l, true⟩) := by unfold tk; rw [if_pos h]
    rw [e]
    have hs : Hid (aR g ⟨l, true⟩ = Asn.blk g 210 #[.string (ofL l), .bool true]) := Lib.hid rfl
    have hlt : ((ofL l).size : Int) < n := by omega
    have he : ofL ([] : By) = ⟨#[]⟩ := rfl
    dsimp only
    rw [he]
    unfold aR aSt at S
    dsimp only at S c0 c1
    clear hA e hz
    generalize ofL l = x at *
    unfold bPtr at *
    go_enter Tryz.func173, Tryz.ntmps173
    go_wp2_with fail
    go_returns
    rw [hs.out]
    exact ⟨rfl, S.out.set (sets_blk _ _ _ 1 (.bool true))⟩
  · have e : tk n ⟨l, b⟩ = (l.take n, ⟨l.drop n, b⟩) := by unfold tk; rw [if_neg h]
    rw [e]
    have hs : Hid (aR g ⟨l.drop n, b⟩ = Asn.blk g 210 #[.string (ofL (l.drop n)), .bool b]) := Lib.hid rfl
    have hlt : ¬ ((ofL l).size : Int) < n := by omega
    have hs1 := slice_to (P := Tryz.prog) Tryz.underlying9 (ofL l) n n rfl (by omega)
    have hs2 := slice_from (P := Tryz.prog) Tryz.underlying9 (ofL l) n n rfl (by omega)
    rw [ofL_take] at hs1
    rw [ofL_drop] at hs2
    dsimp only
    unfold aR aSt at S
    dsimp only at S c0 c1
    clear hA e hz
    generalize ofL (l.drop n) = z at *
    generalize ofL (l.take n) = y at *
    generalize ofL l = x at *
    unfold bPtr at *
    go_enter Tryz.func173, Tryz.ntmps173
    go_wp2_with fail
    go_returns
    rw [hs.out]
    exact ⟨rfl, S.out.set (sets_blk _ _ _ 0 (.string z))⟩
theorem unnum_snoc (t : By) (k : Nat) (x : UInt8) (hx : t[k]? = some x) : unnum (t.take (k + 1)) = unnum (t.take k) + x.toNat * 256 ^ k := by
  induction t generalizing k with
  | nil => cases hx
  | cons b t ih =>
    cases k with
    | zero => simp at hx; subst hx; simp [unnum]
    | succ k =>
      simp only [List.getElem?_cons_succ] at hx
      have := ih k hx
      simp only [List.take_succ_cons, unnum, this, Nat.pow_succ, Nat.mul_add]
      rw [← Nat.mul_assoc x.toNat, Nat.mul_comm 256 (x.toNat * 256 ^ k), Nat.add_assoc]
theorem or_add (n b i : Nat) (hn : n < 2 ^ i) (hs : n + b * 2 ^ i < 9223372036854775808) : bits BinOp.or IntKind.i64 (n : Int) ((b * 2 ^ i : Nat) : Int) = ((n + b * 2 ^ i : Nat) : Int) := by
  show IntKind.i64.wrap (((BitVec.ofInt 64 (n : Int)) ||| (BitVec.ofInt 64 ((b * 2 ^ i : Nat) : Int))).toNat : Int) = _
  rw [BitVec.ofInt_natCast, BitVec.ofInt_natCast, BitVec.toNat_or, BitVec.toNat_ofNat, BitVec.toNat_ofNat, Nat.mod_eq_of_lt (by omega), Nat.mod_eq_of_lt (by omega)]
  have e : n ||| b * 2 ^ i = n + b * 2 ^ i := by
    have := Nat.two_pow_add_eq_or_of_lt hn b
    rw [Nat.or_comm, Nat.mul_comm b, ← this, Nat.add_comm]
  rw [e, IntKind.wrap_i64]
  omega
set_option maxRecDepth 100000 in
set_option maxHeartbeats 4000000 in
theorem tPnum (g k : Nat) (s : St) (hk : k ≤ 4) :
    Tr Tryz.prog 153 #[bPtr g, .int .i64 k] (aR g s) (.int .i64 ((pnum k s).1 : Nat)) (aR g (pnum k s).2) := by
  intro w O hA
  have S := Lib.hid (Own.start hA)
  have HT := Lib.hid (tTake g k s)
  have hlen : (tk k s).1.length ≤ 4 := by unfold tk; split <;> simp; omega
  unfold pnum
  generalize (tk k s).1 = t at *
  generalize (tk k s).2 = s' at *
  clear hA
  unfold bPtr at *
  go_enter Tryz.func153, Tryz.ntmps153
  go_wp2_with fail
  refine (S.out.call (HT.out)).mono ?_
  rintro e w1 ⟨rfl, hX⟩
  have S1 := Lib.hid hX
  clear hX S 
  obtain ⟨cap, w2, hcv, hb, hB⟩ := to_bytes (P := Tryz.prog) Tryz.underlying9 Tryz.underlying138 Tryz.underlying5 w1 (ofL t)
  have S2 := Lib.hid (S1.out.below hb)
  have hB' : Bytes w2 w1.heap.size t := hB
  have hz : (ofL t).size = t.length := rfl
  rw [hz] at hcv
  have cell : ∀ (i : Nat) (x : UInt8), t[i]? = some x → w2.cell? ⟨w1.heap.size, i, none⟩ = some (.int .u8 x.toNat) := hB'.2.1
  clear hb hB hB' S1 hz HT
  have CELL := Lib.hid cell
  clear cell
  generalize ofL t = x at *
  go_wp2_with fail
  go_loop [5, 6, 7, 13] (fun n _ _ i => ∃ j : Nat, j ≤ t.length ∧ i = .int .i64 j ∧ n = .int .i64 ((unnum (t.take j) : Nat) : Int)) (fun _ _ _ i => t.length - (intOf i).toNat)
  case atStart => exact ⟨0, Nat.zero_le _, rfl, rfl⟩
  case round =>
    clear hcv
    obtain ⟨j, hj, rfl, rfl⟩ := hrel
    by_cases hlt : j < t.length
    · obtain ⟨y, hy⟩ : ∃ y, t[j]? = some y := ⟨t[j]'(by omega), List.getElem?_eq_getElem _⟩
      have c0 := CELL.out j y hy
      have hsn := unnum_snoc t j y hy
      have hlt2 := unnum_lt (t.take j)
      rw [List.length_take, Nat.min_eq_left (by omega)] at hlt2
      have hy2 : y.toNat < 256 := y.toNat_lt
      have HS := Lib.hid hsn
      generalize unnum (t.take j) = n at *
      clear hsn hy
      have hm : j = 0 ∨ j = 1 ∨ j = 2 ∨ j = 3 := by omega
      have hor := or_add n y.toNat (8 * j) (by rw [Nat.pow_mul]; exact hlt2) (by rcases hm with rfl | rfl | rfl | rfl <;> omega)
      generalize y.toNat = z at *
      rcases hm with rfl | rfl | rfl | rfl
      · go_wp2_with fail
        go_round
        case rel => exact ⟨1, by omega, rfl, by rw [HS.out]; simpa using hor⟩
        case measure => simp [intOf]; omega
      · go_wp2_with fail
        go_round
        case rel => exact ⟨2, by omega, rfl, by rw [HS.out]; simpa using hor⟩
        case measure => simp [intOf]; omega
      · go_wp2_with fail
        go_round
        case rel => exact ⟨3, by omega, rfl, by rw [HS.out]; simpa using hor⟩
        case measure => simp [intOf]; omega
      · go_wp2_with fail
        go_round
        case rel => exact ⟨4, by omega, rfl, by rw [HS.out]; simpa using hor⟩
        case measure => simp [intOf]; omega
    · obtain rfl : j = t.length := by omega
      rw [List.take_length]
      go_wp2_with fail
      go_returns
      exact ⟨rfl, S2.out⟩
set_option maxRecDepth 100000 in
set_option maxHeartbeats 1000000 in
theorem tPtext (g : Nat) (s : St) :
    Tr Tryz.prog 155 #[bPtr g] (aR g s) (.string (ofL (pText s).1)) (aR g (pText s).2) := by
  intro w O hA
  have S := Lib.hid (Own.start hA)
  have H1 := Lib.hid (tPnum g 1 s (by omega))
  have H2 := Lib.hid (tTake g (pnum 1 s).1 (pnum 1 s).2)
  rw [show tk (pnum 1 s).1 (pnum 1 s).2 = pText s from rfl] at H2
  generalize pText s = q at *
  generalize pnum 1 s = n at *
  clear hA
  unfold bPtr at *
  go_enter Tryz.func155, Tryz.ntmps155
  go_wp2_with fail
  refine (S.out.call (H1.out)).mono ?_
  rintro e w1 ⟨rfl, hX⟩
  have S1 := Lib.hid hX
  clear hX S 
  go_wp2_with fail
  refine (S1.out.call (H2.out)).mono ?_
  rintro e w2 ⟨rfl, hX⟩
  have S2 := Lib.hid hX
  clear hX S1 
  go_wp2_with fail
  go_returns
  exact ⟨rfl, S2.out⟩
set_option maxRecDepth 100000 in
set_option maxHeartbeats 1000000 in
theorem tPimg (g : Nat) (s : St) :
    Tr Tryz.prog 157 #[bPtr g] (aR g s) (.agg #[(fImg (pImg s).1).1, (fImg (pImg s).1).2]) (aR g (pImg s).2) := by
  intro w O hA
  have S := Lib.hid ((Own.start hA).alloc #[.int .i64 0, .string ⟨#[]⟩] 181)
  have H1 := Lib.hid (tPnum g 2 s (by omega))
  have H2 := Lib.hid (tTake g 256 (pnum 2 s).2)
  have e1 : (pImg s).2 = (tk 256 (pnum 2 s).2).2 := rfl
  have e2 : fImg (pImg s).1 = (.int .i64 ((pnum 2 s).1 : Nat), .string (ofL (tk 256 (pnum 2 s).2).1)) := rfl
  rw [e1, e2]
  dsimp only
  generalize tk 256 (pnum 2 s).2 = q at *
  generalize pnum 2 s = n at *
  clear hA e1 e2
  unfold bPtr at *
  go_enter Tryz.func157, Tryz.ntmps157
  go_wp2_with fail
  obtain ⟨gx, hgz⟩ : ∃ g, g = w.heap.size := ⟨_, rfl⟩
  rw [← hgz] at S ⊢
  clear hgz
  generalize w.alloc _ = w1 at *
  refine (S.out.call H1.out.r).mono ?_
  rintro e w2 ⟨rfl, hX⟩
  have S2 := Lib.hid hX
  clear hX S
  go_wp2_with fail
  refine (S2.out.call (H2.out.r)).mono ?_
  rintro e w3 ⟨rfl, hX⟩
  have S3 := Lib.hid hX
  clear hX S2 
  obtain ⟨c0, c1⟩ := two_cells (S3.out.has (Has.l (has_blk _ _ _)))
  have f0 := (S3.out.has (Has.l (has_blk _ _ _))).free 0
  have f1 := (S3.out.has (Has.l (has_blk _ _ _))).free 1
  go_wp2_with fail
  have S4 : Hid (Own w O _ (Asn.blk gx 181 #[.int .i64 (n.1 : Nat), .string (ofL q.1)] * aR g q.2)) := Lib.hid ((S3.out.set (Sets.l (sets_blk _ _ _ 0 _))).set (Sets.l (sets_blk _ _ _ 1 _)))
  clear c0 c1 f0 f1 S3
  generalize World.setCell (World.setCell w3 _ _) _ _ = w4 at *
  obtain ⟨c0, c1⟩ := two_cells (S4.out.has (Has.l (has_blk _ _ _)))
  exact bodyPost_ret (v := .agg #[.int .i64 (n.1 : Nat), .string (ofL q.1)]) (by simp [results, Tryz.results157, go_sem, c0, c1]) rfl ⟨rfl, S4.out.right⟩
set_option maxRecDepth 100000 in
set_option maxHeartbeats 1000000 in
theorem tPopn (g : Nat) (s : St) :
    Tr Tryz.prog 159 #[bPtr g] (aR g s) (.agg #[(fNum (pOpn s).1).1, (fNum (pOpn s).1).2]) (aR g (pOpn s).2) := by
  intro w O hA
  have S := Lib.hid ((Own.start hA).alloc #[.int .i64 0, .int .i64 0] 185)
  have H1 := Lib.hid (tPnum g 4 s (by omega))
  have H2 := Lib.hid (tPnum g 4 (pnum 4 s).2 (by omega))
  have e1 : (pOpn s).2 = (pnum 4 (pnum 4 s).2).2 := rfl
  have e2 : fNum (pOpn s).1 = (.int .i64 ((pnum 4 s).1 : Nat), .int .i64 ((pnum 4 (pnum 4 s).2).1 : Nat)) := rfl
  rw [e1, e2]
  dsimp only
  generalize pnum 4 (pnum 4 s).2 = q at *
  generalize pnum 4 s = n at *
  clear hA e1 e2
  unfold bPtr at *
  go_enter Tryz.func159, Tryz.ntmps159
  go_wp2_with fail
  obtain ⟨gx, hgz⟩ : ∃ g, g = w.heap.size := ⟨_, rfl⟩
  rw [← hgz] at S ⊢
  clear hgz
  generalize w.alloc _ = w1 at *
  refine (S.out.call H1.out.r).mono ?_
  rintro e w2 ⟨rfl, hX⟩
  have S2 := Lib.hid hX
  clear hX S
  go_wp2_with fail
  refine (S2.out.call (H2.out.r)).mono ?_
  rintro e w3 ⟨rfl, hX⟩
  have S3 := Lib.hid hX
  clear hX S2 
  obtain ⟨c0, c1⟩ := two_cells (S3.out.has (Has.l (has_blk _ _ _)))
  have f0 := (S3.out.has (Has.l (has_blk _ _ _))).free 0
  have f1 := (S3.out.has (Has.l (has_blk _ _ _))).free 1
  go_wp2_with fail
  have S4 : Hid (Own w O _ (Asn.blk gx 185 #[.int .i64 (n.1 : Nat), .int .i64 (q.1 : Nat)] * aR g q.2)) := Lib.hid ((S3.out.set (Sets.l (sets_blk _ _ _ 0 _))).set (Sets.l (sets_blk _ _ _ 1 _)))
  clear c0 c1 f0 f1 S3
  generalize World.setCell (World.setCell w3 _ _) _ _ = w4 at *
  obtain ⟨c0, c1⟩ := two_cells (S4.out.has (Has.l (has_blk _ _ _)))
  exact bodyPost_ret (v := .agg #[.int .i64 (n.1 : Nat), .int .i64 (q.1 : Nat)]) (by simp [results, Tryz.results159, go_sem, c0, c1]) rfl ⟨rfl, S4.out.right⟩
set_option maxRecDepth 100000 in
set_option maxHeartbeats 1000000 in
theorem tPdty (g : Nat) (s : St) :
    Tr Tryz.prog 161 #[bPtr g] (aR g s) (.agg #[(fNum (pDty s).1).1, (fNum (pDty s).1).2]) (aR g (pDty s).2) := by
  intro w O hA
  have S := Lib.hid ((Own.start hA).alloc #[.int .i64 0, .int .i64 0] 72)
  have H1 := Lib.hid (tPnum g 2 s (by omega))
  have H2 := Lib.hid (tPnum g 4 (pnum 2 s).2 (by omega))
  have e1 : (pDty s).2 = (pnum 4 (pnum 2 s).2).2 := rfl
  have e2 : fNum (pDty s).1 = (.int .i64 ((pnum 2 s).1 : Nat), .int .i64 ((pnum 4 (pnum 2 s).2).1 : Nat)) := rfl
  rw [e1, e2]
  dsimp only
  generalize pnum 4 (pnum 2 s).2 = q at *
  generalize pnum 2 s = n at *
  clear hA e1 e2
  unfold bPtr at *
  go_enter Tryz.func161, Tryz.ntmps161
  go_wp2_with fail
  obtain ⟨gx, hgz⟩ : ∃ g, g = w.heap.size := ⟨_, rfl⟩
  rw [← hgz] at S ⊢
  clear hgz
  generalize w.alloc _ = w1 at *
  refine (S.out.call H1.out.r).mono ?_
  rintro e w2 ⟨rfl, hX⟩
  have S2 := Lib.hid hX
  clear hX S
  go_wp2_with fail
  refine (S2.out.call (H2.out.r)).mono ?_
  rintro e w3 ⟨rfl, hX⟩
  have S3 := Lib.hid hX
  clear hX S2 
  obtain ⟨c0, c1⟩ := two_cells (S3.out.has (Has.l (has_blk _ _ _)))
  have f0 := (S3.out.has (Has.l (has_blk _ _ _))).free 0
  have f1 := (S3.out.has (Has.l (has_blk _ _ _))).free 1
  go_wp2_with fail
  have S4 : Hid (Own w O _ (Asn.blk gx 72 #[.int .i64 (n.1 : Nat), .int .i64 (q.1 : Nat)] * aR g q.2)) := Lib.hid ((S3.out.set (Sets.l (sets_blk _ _ _ 0 _))).set (Sets.l (sets_blk _ _ _ 1 _)))
  clear c0 c1 f0 f1 S3
  generalize World.setCell (World.setCell w3 _ _) _ _ = w4 at *
  obtain ⟨c0, c1⟩ := two_cells (S4.out.has (Has.l (has_blk _ _ _)))
  exact bodyPost_ret (v := .agg #[.int .i64 (n.1 : Nat), .int .i64 (q.1 : Nat)]) (by simp [results, Tryz.results161, go_sem, c0, c1]) rfl ⟨rfl, S4.out.right⟩
theorem infoImage : (Tryz.prog.info? 181).map (fun i => (i.zero, i.size, i.bytes)) = some (some (.agg #[.int .i64 0, .string ⟨#[]⟩]), 2, 24) := by kernel_rfl
set_option maxRecDepth 100000 in
set_option maxHeartbeats 2000000 in
theorem tListImage (g k : Nat) (s : St) (hk : k ≤ 2) :
    TrE Tryz.prog 156 #[bPtr g, .int .i64 k, .func (.func 157) #[bPtr g] #[]] (aR g s) (fun v => v) (fun v => Asn.vec 181 2 v (pList pImg k s).1.length (cells2 fImg (pList pImg k s).1) * aR g (pList pImg k s).2) := by
  intro w O hA
  have S := Lib.hid (Own.start hA)
  have H1 := Lib.hid (tPnum g k s (by omega))
  have HI := Lib.hid (tPimg g)
  have hlt := pnum_le k s
  have hN : (pnum k s).1 ≤ 65535 := by
    have : 256 ^ k ≤ 65536 := by
      have : k = 0 ∨ k = 1 ∨ k = 2 := by omega
      rcases this with rfl | rfl | rfl <;> decide
    omega
  unfold pList
  generalize pnum k s = n0 at *
  obtain ⟨N, s0⟩ := n0
  dsimp only at *
  clear hA hlt
  unfold bPtr at *
  go_enter Tryz.func156, Tryz.ntmps156
  go_wp2_with fail
  refine (S.out.call (H1.out)).mono ?_
  rintro e w1 ⟨rfl, hX⟩
  have S1 := Lib.hid hX
  clear hX S 
  have S2 := Lib.hid (S1.out.nilVec 181 2)
  clear S1 H1
  go_wp2_with fail
  go_loopw [7, 8] (fun v i wr => ∃ (j : Nat) (xs : List (Int × By)) (st : St), i = .int .i64 j ∧ Hid (xs.length + j = N) ∧ Hid (loop pImg N s0 = (xs ++ (loop pImg j st).1, (loop pImg j st).2)) ∧ Hid (Own w O wr (Asn.vec 181 2 v xs.length (cells2 fImg xs) * aR g st))) (fun _ i _ => (intOf i).toNat)
  case atStart => exact ⟨N, [], s0, rfl, Lib.hid (by simp), Lib.hid (by simp), S2⟩
  case round =>
    clear S2
    obtain ⟨j, xs, st, rfl, hj, hL, S⟩ := hrel
    obtain ⟨A, c, rfl⟩ := S.out.vec.slice
    obtain ⟨c0, c1, f0, f1⟩ := st_cells (S.out.has (Has.r (has_blk _ _ _)))
    by_cases h0 : j = 0
    · subst h0
      go_wp2_with fail
      go_returns
      have := hL.out
      rw [show loop pImg 0 st = ([], st) from rfl, List.append_nil] at this
      rw [this]
      exact ⟨_, rfl, S.out⟩
    · cases hb : st.bad with
      | true =>
        rw [hb] at c1
        have hj1 : 0 < j := by omega
        obtain ⟨j, rfl⟩ : ∃ i, j = i + 1 := ⟨j - 1, by omega⟩
        go_wp2_with fail
        go_returns
        have := hL.out
        rw [show loop pImg (j + 1) st = ([], st) by rw [loop, if_pos hb], List.append_nil] at this
        rw [this]
        exact ⟨_, rfl, S.out⟩
      | false =>
        rw [hb] at c1
        obtain ⟨j, rfl⟩ : ∃ i, j = i + 1 := ⟨j - 1, by omega⟩
        have hj2 := hj.out
        have hl2 := hL.out
        rw [loop, if_neg (by rw [hb]; decide)] at hl2
        have HL2 := Lib.hid hl2
        clear hl2 hL
        go_wp2_with fail
        refine (S.out.call (HI.out st).r).mono ?_
        rintro e w2 ⟨rfl, hX⟩
        have S2 := Lib.hid hX
        clear hX S c0 c1 f0 f1
        generalize (pImg st).1 = x at *
        generalize (pImg st).2 = st2 at *
        have S3 := Lib.hid (S2.out.alloc #[(fImg x).1, (fImg x).2] 181).right
        have CX : Hid (Src Tryz.prog 2 44 (.slice (some ⟨w2.heap.size, 0, none⟩) 1 1) 1 [(fImg x).1, (fImg x).2] (w2.alloc (.cells #[(fImg x).1, (fImg x).2] 181))) := Lib.hid (Src.ofSlice _ Tryz.underlying44 _ 1 1 _ rfl (append2 ((Blk.new w2 #[(fImg x).1, (fImg x).2] 181).cell 0) ((Blk.new w2 #[(fImg x).1, (fImg x).2] 181).cell 1)) (by intro u hu; simp at hu; rcases hu with rfl | rfl <;> rfl))
        have hc2 : cells2 fImg (xs ++ [x]) = cells2 fImg xs ++ [(fImg x).1, (fImg x).2] := by simp [cells2]
        have HC2 := Lib.hid hc2
        have HL3 : Hid (loop pImg N s0 = ((xs ++ [x]) ++ (loop pImg j st2).1, (loop pImg j st2).2)) := Lib.hid (by rw [HL2.out, List.append_assoc]; rfl)
        clear hc2 HL2 S2 hb
        go_wp2_with (with_reducible refine wpList_append_vec rfl (.tmp 23) (.tmp 26) 44 44 rfl 181 _ 2 24 Tryz.underlying44 infoImage ?c1 ?c2 _ xs.length (cells2 fImg xs) ?c7 S3.out.vec (.slice (some ⟨w2.heap.size, 0, none⟩) 1 1) ?c8 1 _ CX.out ?c3 ?c4 ?_)
        case c1 => rfl
        case c2 => decide
        case c3 => unfold maxLen; omega
        case c4 => omega
        case c7 => rfl
        case c8 => rfl
        intro v' w3 hv hc hf
        have S4 := Lib.hid (S3.out.app hv hc hf)
        obtain ⟨A', c', rfl⟩ := hv.slice
        clear S3 CX hv hc hf
        go_wp2_with fail
        go_round
        case rel => exact ⟨j, xs ++ [x], st2, by go_num, Lib.hid (by rw [List.length_append, List.length_singleton]; omega), HL3, by rw [HC2.out, List.length_append]; exact S4⟩
        case measure => simp [intOf]
theorem infoOpen : (Tryz.prog.info? 185).map (fun i => (i.zero, i.size, i.bytes)) = some (some (.agg #[.int .i64 0, .int .i64 0]), 2, 16) := by kernel_rfl
set_option maxRecDepth 100000 in
set_option maxHeartbeats 2000000 in
theorem tListOpen (g k : Nat) (s : St) (hk : k ≤ 2) :
    TrE Tryz.prog 158 #[bPtr g, .int .i64 k, .func (.func 159) #[bPtr g] #[]] (aR g s) (fun v => v) (fun v => Asn.vec 185 2 v (pList pOpn k s).1.length (cells2 fNum (pList pOpn k s).1) * aR g (pList pOpn k s).2) := by
  intro w O hA
  have S := Lib.hid (Own.start hA)
  have H1 := Lib.hid (tPnum g k s (by omega))
  have HI := Lib.hid (tPopn g)
  have hlt := pnum_le k s
  have hN : (pnum k s).1 ≤ 65535 := by
    have : 256 ^ k ≤ 65536 := by
      have : k = 0 ∨ k = 1 ∨ k = 2 := by omega
      rcases this with rfl | rfl | rfl <;> decide
    omega
  unfold pList
  generalize pnum k s = n0 at *
  obtain ⟨N, s0⟩ := n0
  dsimp only at *
  clear hA hlt
  unfold bPtr at *
  go_enter Tryz.func158, Tryz.ntmps158
  go_wp2_with fail
  refine (S.out.call (H1.out)).mono ?_
  rintro e w1 ⟨rfl, hX⟩
  have S1 := Lib.hid hX
  clear hX S 
  have S2 := Lib.hid (S1.out.nilVec 185 2)
  clear S1 H1
  go_wp2_with fail
  go_loopw [7, 8] (fun v i wr => ∃ (j : Nat) (xs : List (Int × Int)) (st : St), i = .int .i64 j ∧ Hid (xs.length + j = N) ∧ Hid (loop pOpn N s0 = (xs ++ (loop pOpn j st).1, (loop pOpn j st).2)) ∧ Hid (Own w O wr (Asn.vec 185 2 v xs.length (cells2 fNum xs) * aR g st))) (fun _ i _ => (intOf i).toNat)
  case atStart => exact ⟨N, [], s0, rfl, Lib.hid (by simp), Lib.hid (by simp), S2⟩
  case round =>
    clear S2
    obtain ⟨j, xs, st, rfl, hj, hL, S⟩ := hrel
    obtain ⟨A, c, rfl⟩ := S.out.vec.slice
    obtain ⟨c0, c1, f0, f1⟩ := st_cells (S.out.has (Has.r (has_blk _ _ _)))
    by_cases h0 : j = 0
    · subst h0
      go_wp2_with fail
      go_returns
      have := hL.out
      rw [show loop pOpn 0 st = ([], st) from rfl, List.append_nil] at this
      rw [this]
      exact ⟨_, rfl, S.out⟩
    · cases hb : st.bad with
      | true =>
        rw [hb] at c1
        have hj1 : 0 < j := by omega
        obtain ⟨j, rfl⟩ : ∃ i, j = i + 1 := ⟨j - 1, by omega⟩
        go_wp2_with fail
        go_returns
        have := hL.out
        rw [show loop pOpn (j + 1) st = ([], st) by rw [loop, if_pos hb], List.append_nil] at this
        rw [this]
        exact ⟨_, rfl, S.out⟩
      | false =>
        rw [hb] at c1
        obtain ⟨j, rfl⟩ : ∃ i, j = i + 1 := ⟨j - 1, by omega⟩
        have hj2 := hj.out
        have hl2 := hL.out
        rw [loop, if_neg (by rw [hb]; decide)] at hl2
        have HL2 := Lib.hid hl2
        clear hl2 hL
        go_wp2_with fail
        refine (S.out.call (HI.out st).r).mono ?_
        rintro e w2 ⟨rfl, hX⟩
        have S2 := Lib.hid hX
        clear hX S c0 c1 f0 f1
        generalize (pOpn st).1 = x at *
        generalize (pOpn st).2 = st2 at *
        have S3 := Lib.hid (S2.out.alloc #[(fNum x).1, (fNum x).2] 185).right
        have CX : Hid (Src Tryz.prog 2 47 (.slice (some ⟨w2.heap.size, 0, none⟩) 1 1) 1 [(fNum x).1, (fNum x).2] (w2.alloc (.cells #[(fNum x).1, (fNum x).2] 185))) := Lib.hid (Src.ofSlice _ Tryz.underlying47 _ 1 1 _ rfl (append2 ((Blk.new w2 #[(fNum x).1, (fNum x).2] 185).cell 0) ((Blk.new w2 #[(fNum x).1, (fNum x).2] 185).cell 1)) (by intro u hu; simp at hu; rcases hu with rfl | rfl <;> rfl))
        have hc2 : cells2 fNum (xs ++ [x]) = cells2 fNum xs ++ [(fNum x).1, (fNum x).2] := by simp [cells2]
        have HC2 := Lib.hid hc2
        have HL3 : Hid (loop pOpn N s0 = ((xs ++ [x]) ++ (loop pOpn j st2).1, (loop pOpn j st2).2)) := Lib.hid (by rw [HL2.out, List.append_assoc]; rfl)
        clear hc2 HL2 S2 hb
        go_wp2_with (with_reducible refine wpList_append_vec rfl (.tmp 23) (.tmp 26) 47 47 rfl 185 _ 2 16 Tryz.underlying47 infoOpen ?c1 ?c2 _ xs.length (cells2 fNum xs) ?c7 S3.out.vec (.slice (some ⟨w2.heap.size, 0, none⟩) 1 1) ?c8 1 _ CX.out ?c3 ?c4 ?_)
        case c1 => rfl
        case c2 => decide
        case c3 => unfold maxLen; omega
        case c4 => omega
        case c7 => rfl
        case c8 => rfl
        intro v' w3 hv hc hf
        have S4 := Lib.hid (S3.out.app hv hc hf)
        obtain ⟨A', c', rfl⟩ := hv.slice
        clear S3 CX hv hc hf
        go_wp2_with fail
        go_round
        case rel => exact ⟨j, xs ++ [x], st2, by go_num, Lib.hid (by rw [List.length_append, List.length_singleton]; omega), HL3, by rw [HC2.out, List.length_append]; exact S4⟩
        case measure => simp [intOf]
theorem infoDirty : (Tryz.prog.info? 72).map (fun i => (i.zero, i.size, i.bytes)) = some (some (.agg #[.int .i64 0, .int .i64 0]), 2, 16) := by kernel_rfl
set_option maxRecDepth 100000 in
set_option maxHeartbeats 2000000 in
theorem tListDirty (g k : Nat) (s : St) (hk : k ≤ 2) :
    TrE Tryz.prog 160 #[bPtr g, .int .i64 k, .func (.func 161) #[bPtr g] #[]] (aR g s) (fun v => v) (fun v => Asn.vec 72 2 v (pList pDty k s).1.length (cells2 fNum (pList pDty k s).1) * aR g (pList pDty k s).2) := by
  intro w O hA
  have S := Lib.hid (Own.start hA)
  have H1 := Lib.hid (tPnum g k s (by omega))
  have HI := Lib.hid (tPdty g)
  have hlt := pnum_le k s
  have hN : (pnum k s).1 ≤ 65535 := by
    have : 256 ^ k ≤ 65536 := by
      have : k = 0 ∨ k = 1 ∨ k = 2 := by omega
      rcases this with rfl | rfl | rfl <;> decide
    omega
  unfold pList
  generalize pnum k s = n0 at *
  obtain ⟨N, s0⟩ := n0
  dsimp only at *
  clear hA hlt
  unfold bPtr at *
  go_enter Tryz.func160, Tryz.ntmps160
  go_wp2_with fail
  refine (S.out.call (H1.out)).mono ?_
  rintro e w1 ⟨rfl, hX⟩
  have S1 := Lib.hid hX
  clear hX S 
  have S2 := Lib.hid (S1.out.nilVec 72 2)
  clear S1 H1
  go_wp2_with fail
  go_loopw [7, 8] (fun v i wr => ∃ (j : Nat) (xs : List (Int × Int)) (st : St), i = .int .i64 j ∧ Hid (xs.length + j = N) ∧ Hid (loop pDty N s0 = (xs ++ (loop pDty j st).1, (loop pDty j st).2)) ∧ Hid (Own w O wr (Asn.vec 72 2 v xs.length (cells2 fNum xs) * aR g st))) (fun _ i _ => (intOf i).toNat)
  case atStart => exact ⟨N, [], s0, rfl, Lib.hid (by simp), Lib.hid (by simp), S2⟩
  case round =>
    clear S2
    obtain ⟨j, xs, st, rfl, hj, hL, S⟩ := hrel
    obtain ⟨A, c, rfl⟩ := S.out.vec.slice
    obtain ⟨c0, c1, f0, f1⟩ := st_cells (S.out.has (Has.r (has_blk _ _ _)))
    by_cases h0 : j = 0
    · subst h0
      go_wp2_with fail
      go_returns
      have := hL.out
      rw [show loop pDty 0 st = ([], st) from rfl, List.append_nil] at this
      rw [this]
      exact ⟨_, rfl, S.out⟩
    · cases hb : st.bad with
      | true =>
        rw [hb] at c1
        have hj1 : 0 < j := by omega
        obtain ⟨j, rfl⟩ : ∃ i, j = i + 1 := ⟨j - 1, by omega⟩
        go_wp2_with fail
        go_returns
        have := hL.out
        rw [show loop pDty (j + 1) st = ([], st) by rw [loop, if_pos hb], List.append_nil] at this
        rw [this]
        exact ⟨_, rfl, S.out⟩
      | false =>
        rw [hb] at c1
        obtain ⟨j, rfl⟩ : ∃ i, j = i + 1 := ⟨j - 1, by omega⟩
        have hj2 := hj.out
        have hl2 := hL.out
        rw [loop, if_neg (by rw [hb]; decide)] at hl2
        have HL2 := Lib.hid hl2
        clear hl2 hL
        go_wp2_with fail
        refine (S.out.call (HI.out st).r).mono ?_
        rintro e w2 ⟨rfl, hX⟩
        have S2 := Lib.hid hX
        clear hX S c0 c1 f0 f1
        generalize (pDty st).1 = x at *
        generalize (pDty st).2 = st2 at *
        have S3 := Lib.hid (S2.out.alloc #[(fNum x).1, (fNum x).2] 72).right
        have CX : Hid (Src Tryz.prog 2 48 (.slice (some ⟨w2.heap.size, 0, none⟩) 1 1) 1 [(fNum x).1, (fNum x).2] (w2.alloc (.cells #[(fNum x).1, (fNum x).2] 72))) := Lib.hid (Src.ofSlice _ Tryz.underlying48 _ 1 1 _ rfl (append2 ((Blk.new w2 #[(fNum x).1, (fNum x).2] 72).cell 0) ((Blk.new w2 #[(fNum x).1, (fNum x).2] 72).cell 1)) (by intro u hu; simp at hu; rcases hu with rfl | rfl <;> rfl))
        have hc2 : cells2 fNum (xs ++ [x]) = cells2 fNum xs ++ [(fNum x).1, (fNum x).2] := by simp [cells2]
        have HC2 := Lib.hid hc2
        have HL3 : Hid (loop pDty N s0 = ((xs ++ [x]) ++ (loop pDty j st2).1, (loop pDty j st2).2)) := Lib.hid (by rw [HL2.out, List.append_assoc]; rfl)
        clear hc2 HL2 S2 hb
        go_wp2_with (with_reducible refine wpList_append_vec rfl (.tmp 23) (.tmp 26) 48 48 rfl 72 _ 2 16 Tryz.underlying48 infoDirty ?c1 ?c2 _ xs.length (cells2 fNum xs) ?c7 S3.out.vec (.slice (some ⟨w2.heap.size, 0, none⟩) 1 1) ?c8 1 _ CX.out ?c3 ?c4 ?_)
        case c1 => rfl
        case c2 => decide
        case c3 => unfold maxLen; omega
        case c4 => omega
        case c7 => rfl
        case c8 => rfl
        intro v' w3 hv hc hf
        have S4 := Lib.hid (S3.out.app hv hc hf)
        obtain ⟨A', c', rfl⟩ := hv.slice
        clear S3 CX hv hc hf
        go_wp2_with fail
        go_round
        case rel => exact ⟨j, xs ++ [x], st2, by go_num, Lib.hid (by rw [List.length_append, List.length_singleton]; omega), HL3, by rw [HC2.out, List.length_append]; exact S4⟩
        case measure => simp [intOf]
end Go.Proofs.YtapdpdhibpblgaaGreatDoor.Nt
