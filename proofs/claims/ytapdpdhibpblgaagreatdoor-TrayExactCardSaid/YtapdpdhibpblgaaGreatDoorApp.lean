/- Texts of ours, joined. -/
import Derived.Test.YtapdpdhibpblgaaGreatDoorChg
import Derived.Test.YtapdpdhibpblgaaGreatDoorTab
import Derived.Test.YtapdpdhibpblgaaGreatDoorMnC

-- joined
section
namespace Go.Proofs.YtapdpdhibpblgaaGreatDoor.Aid
open Go.ChangeShapes Go.WideShapes Go.ChangeAt Go.RowKit Go.PlainAid
set_option linter.unusedVariables false

theorem Chg.of_grown {w w' : World} {row : Option Nat} (h : w.grownBy w' row) : Chg (fun k => row = some k) w w' :=
  ⟨h.os, h.tape, h.output, h.size, fun k hk hs => h.block k hk (fun e => hs e.symm)⟩
/-- What is known of an own row's block: it is none of those that were there. -/
theorem own_base {w : World} {base : Nat} {e : TypeId} {size : Nat} {v : Value} {n : Nat} {xs : List Value} (h : w.ownsRow base e size v n xs) : ∀ k, v.ownBlock = some k → base ≤ k := fun k hk => (h.lt k hk).1
theorem ownC {S : Nat → Prop} {w w' : World} {base : Nat} {e : TypeId} {size : Nat} {v : Value} {n : Nat} {xs : List Value} (h : w.ownsRow base e size v n xs) (hb : Chg S w w') (hS : ∀ k, base ≤ k → ¬ S k) : w'.ownsRow base e size v n xs := by
  obtain ⟨h1, ⟨rfl, rfl⟩ | ⟨g, cap, cur, rfl, hg0, hg, hn, hc, hz, ht⟩⟩ := h
  · exact ⟨h1, Or.inl ⟨rfl, rfl⟩⟩
  · refine ⟨h1, Or.inr ⟨g, cap, cur, rfl, hg0, ?_, hn, hc, hz, ht⟩⟩
    have hlt : g < w.heap.size := by
      rcases Nat.lt_or_ge g w.heap.size with h' | h'
      · exact h'
      · simp [Array.getElem?_eq_none h'] at hg
    rw [hb.block g hlt (hS g hg0)]; exact hg
theorem own_open {w : World} {base : Nat} {e : TypeId} {size : Nat} {v : Value} {n : Nat} {xs : List Value} (h : w.ownsRow base e size v n xs) :
    ∃ (A : Option Addr) (cap : Nat), v = .slice A n cap ∧ n ≤ maxLen ∧ (0 < n → ∃ g, A = some ⟨g, 0, none⟩ ∧ base ≤ g ∧ g < w.heap.size) := by
  have hlt := h.lt
  obtain ⟨h1, ⟨rfl, rfl⟩ | ⟨g, cap, cur, rfl, hb, hg, hn, hc, -, -⟩⟩ := h
  · exact ⟨none, 0, rfl, by unfold maxLen; omega, fun h => absurd h (by omega)⟩
  · exact ⟨_, cap, rfl, by omega, fun _ => ⟨g, rfl, hb, (hlt g rfl).2⟩⟩
section
variable {P : Program} {ops : Array Oper} {rest : List Oper} {o : Oper} {a : Act} {Q : Exit → Act → World → Prop}
/-- append(s, u), u behind its own new block (buildSlice): s a row that the call made itself. -/
theorem append1_own (w : World) (hgd : o.guard = none) (s x : Operand) (t : TypeId)
    (ho : o.op = .call { callee := .builtin .append, args := #[s, x], argTypes := #[t, t] })
    (base : Nat) (e : TypeId) (z : Value) (bytes : Nat) (ht : P.underlying t = some (.slice e)) (hinfo : (P.info? e).map (fun i => (i.zero, i.size, i.bytes)) = some (some z, 1, bytes)) (hz1 : z.cells.size = 1)
    (v : Value) (n : Nat) (xs : List Value) (hs : a.eval s = v) (hown : w.ownsRow base e 1 v n xs) (hbase : base ≤ w.heap.size)
    (u : Value) (hu : u.oneCell' = true) (c : Nat) (T : TypeId) (gx : Nat) (hgx : gx = w.heap.size) (hx : a.eval x = .slice (some ⟨gx, 0, none⟩) 1 c) (h63 : n + 1 ≤ maxLen) (hbytes : (n + 1) * bytes ≤ 140737488355328)
    (h : ∀ v' w', w'.ownsRow base e 1 v' (n + 1) (xs ++ [u]) → Chg (fun k => v.ownBlock = some k) w w' → wpList P ops Q rest (a.put o.dst v') w') : wpList P ops Q (o :: rest) a (w.alloc (.cells #[u] T)) := by
  subst hgx
  obtain ⟨i, hi, hzz⟩ := Option.map_eq_some_iff.1 hinfo
  simp only [Prod.mk.injEq] at hzz
  obtain ⟨hz, hsz, hb⟩ := hzz
  refine wpList_append_own _ hgd s x t ho base e i z 1 bytes ht hi hz hsz hb hz1 (by decide) v n xs hs (hown.alloc _) ⟨w.heap.size, 0, none⟩ 1 c [u] hx rfl ?_ ?_ h63 hbytes ?_ ?_
  · refine append1 ?_
    exact (Blk.new w #[u] T).cell 0
  · intro y hy
    simp only [List.mem_cons, List.not_mem_nil, or_false] at hy
    subst hy; exact hu
  · simp; omega
  · intro v' w' h1 h2 _
    refine h v' w' h1 ?_
    exact (Chg.of_below (S := fun k => v.ownBlock = some k) (blA (Below.refl _ _) _)).trans (Chg.of_grown h2) (fun _ _ h => h)
end
end Go.Proofs.YtapdpdhibpblgaaGreatDoor.Aid
end

-- joined
section
namespace Go.Proofs.YtapdpdhibpblgaaGreatDoor.Sl
open Go.ChangeShapes Go.WideShapes Go.ChangeAt Go.RowKit Go.PlainAid Aid Mn
set_option linter.unusedVariables false
set_option linter.unusedSimpArgs false

/-- The numbers below k whose pages aren't safe. -/
def freshL (P : Nat → Pg) (k : Nat) : List Nat := (List.range k).filter fun i => (P i).fresh
def intsV (l : List Nat) : List Value := l.map fun i : Nat => Value.int .i64 (i : Int)
theorem freshL_le (P : Nat → Pg) (k : Nat) : (freshL P k).length ≤ k := by unfold freshL; exact Nat.le_trans (List.length_filter_le _ _) (by simp)
theorem freshL_yes (P : Nat → Pg) (k : Nat) (h : (P k).fresh = true) : freshL P (k + 1) = freshL P k ++ [k] := by simp [freshL, List.range_succ, List.filter_append, h]
theorem freshL_no (P : Nat → Pg) (k : Nat) (h : (P k).fresh = false) : freshL P (k + 1) = freshL P k := by simp [freshL, List.range_succ, List.filter_append, h]
theorem intInfo : (Tryz.prog.info? 3).map (fun i => (i.zero, i.size, i.bytes)) = some (some (.int .i64 0), 1, 8) := by kernel_rfl
def FreshP (w : World) (P : Nat → Pg) (n : Nat) (e : Ending) (w' : World) : Prop := ∃ v, e = .returned v ∧ w'.ownsRow w.heap.size 3 1 v (freshL P n).length (intsV (freshL P n)) ∧ Below w.heap.size w w'
/-! Settle. -/
theorem freshL_mono (P : Nat → Pg) (i j : Nat) (h : i ≤ j) : (freshL P i).length ≤ (freshL P j).length := by
  induction j with
  | zero => obtain rfl : i = 0 := by omega
            exact Nat.le_refl _
  | succ j ih =>
    by_cases he : i = j + 1
    · subst he; exact Nat.le_refl _
    · refine Nat.le_trans (ih (by omega)) ?_
      cases hf : (P j).fresh
      · rw [freshL_no _ _ hf]; exact Nat.le_refl _
      · rw [freshL_yes _ _ hf]; simp
theorem freshL_at (P : Nat → Pg) (n j i : Nat) (h : (freshL P n)[j]? = some i) : i < n ∧ (P i).fresh = true ∧ (freshL P i).length = j := by
  induction n with
  | zero => simp [freshL] at h
  | succ n ih =>
    cases hf : (P n).fresh
    · rw [freshL_no _ _ hf] at h
      have := ih h
      exact ⟨by omega, this.2⟩
    · rw [freshL_yes _ _ hf] at h
      by_cases hj : j < (freshL P n).length
      · rw [List.getElem?_append_left hj] at h
        have := ih h
        exact ⟨by omega, this.2⟩
      · rw [List.getElem?_append_right (by omega)] at h
        have hz : j - (freshL P n).length = 0 := by
          have := (List.getElem?_eq_some_iff.1 h).1
          simp at this; omega
        rw [hz] at h
        simp at h
        subst h
        exact ⟨by omega, hf, by omega⟩
theorem fresh_inj (P : Nat → Pg) (i j : Nat) (hi : (P i).fresh = true) (hj : (P j).fresh = true) (h : (freshL P i).length = (freshL P j).length) : i = j := by
  rcases Nat.lt_trichotomy i j with hl | hl | hl
  · have := freshL_mono P (i + 1) j (by omega); rw [freshL_yes _ _ hi] at this; simp at this; omega
  · exact hl
  · have := freshL_mono P (j + 1) i (by omega); rw [freshL_yes _ _ hj] at this; simp at this; omega
/-- The bit k modulo 62 of keep. -/
def bitK (keep : Int) (k : Nat) : Bool := (keep / 2 ^ (k % 62)) % 2 == 1
def Pg.settle (p : Pg) (stay : Bool) : Pg := if stay then p.secure else ⟨p.safe, p.safe, false⟩
theorem bits_and1 (x : Int) : bits BinOp.and IntKind.i64 x 1 = x % 2 := by
  have e : ((BitVec.ofInt 64 x) &&& (BitVec.ofInt 64 1)).toNat = (x % 2).toNat := by
    rw [BitVec.toNat_and, BitVec.toNat_ofInt, BitVec.toNat_ofInt]
    have h3 : ((1 : Int) % ((2 ^ 64 : Nat) : Int)).toNat = 1 := by decide
    rw [h3, Nat.and_one_is_mod]
    omega
  show IntKind.i64.wrap (((BitVec.ofInt 64 x) &&& (BitVec.ofInt 64 1)).toNat : Int) = _
  rw [e, IntKind.wrap_i64]
  omega
theorem bits_and1u (x : Int) : bits BinOp.and IntKind.u64 x 1 = x % 2 := by
  have e : ((BitVec.ofInt 64 x) &&& (BitVec.ofInt 64 1)).toNat = (x % 2).toNat := by
    rw [BitVec.toNat_and, BitVec.toNat_ofInt, BitVec.toNat_ofInt]
    have h3 : ((1 : Int) % ((2 ^ 64 : Nat) : Int)).toNat = 1 := by decide
    rw [h3, Nat.and_one_is_mod]
    omega
  show IntKind.u64.wrap (((BitVec.ofInt 64 x) &&& (BitVec.ofInt 64 1)).toNat : Int) = _
  rw [e, IntKind.wrap_u64]
  omega
theorem and_bitK (keep : Int) (k : Nat) : (bits BinOp.and IntKind.i64 (keep / 2 ^ (k % 62)) 1 == 0) = !bitK keep k := by
  rw [bits_and1]; unfold bitK
  have : keep / 2 ^ (k % 62) % 2 = 0 ∨ keep / 2 ^ (k % 62) % 2 = 1 := by omega
  rcases this with h | h <;> rw [h] <;> rfl
theorem and_bitKu (keep : Int) (k : Nat) : (bits BinOp.and IntKind.u64 (IntKind.u64.wrap keep / 2 ^ (k % 62)) 1 == 0) = !bitK keep k := by
  rw [bits_and1u, IntKind.wrap_u64]; unfold bitK
  have hj : k % 62 < 62 := by omega
  generalize k % 62 = j at *
  have e : keep / 2 ^ j % 2 = keep % 18446744073709551616 / 2 ^ j % 2 := by
    have h1 : keep = keep % 18446744073709551616 + (keep / 18446744073709551616) * 2 ^ (63 - j) * 2 * 2 ^ j := by
      have : (2 : Int) ^ (63 - j) * 2 * 2 ^ j = 18446744073709551616 := by
        rw [show (2 : Int) ^ (63 - j) * 2 = 2 ^ (63 - j + 1) by rw [Int.pow_succ], ← Int.pow_add, show 63 - j + 1 + j = 64 by omega]; rfl
      rw [Int.mul_assoc, Int.mul_assoc, ← Int.mul_assoc (2 ^ (63 - j)), this]
      omega
    have hp : (2 : Int) ^ j ≠ 0 := Int.ne_of_gt (Int.pow_pos (by decide))
    generalize hr : keep % 18446744073709551616 = r at *
    generalize keep / 18446744073709551616 = t at *
    rw [h1, Int.add_mul_ediv_right _ _ hp, Int.add_mul_emod_self_right]
  rw [← e]
  have : keep / 2 ^ j % 2 = 0 ∨ keep / 2 ^ j % 2 = 1 := by omega
  rcases this with h | h <;> rw [h] <;> rfl
/-- The first j of the pages that aren't safe are settled. -/
def settled (P : Nat → Pg) (keep : Int) (j : Nat) : Nat → Pg := fun i => if (P i).fresh = true ∧ (freshL P i).length < j then (P i).settle (bitK keep (freshL P i).length) else P i
theorem settled_same (P : Nat → Pg) (keep : Int) (j i : Nat) (h : (freshL P i).length = j) : settled P keep j i = P i := by unfold settled; rw [if_neg (by omega)]
theorem settled_step (P : Nat → Pg) (keep : Int) (j i : Nat) (hf : (P i).fresh = true) (h : (freshL P i).length = j) : upd (settled P keep j) i ((P i).settle (bitK keep j)) = settled P keep (j + 1) := by
  funext k
  by_cases hk : k = i
  · subst hk; rw [upd_same]; unfold settled; rw [if_pos ⟨hf, by omega⟩, h]
  · rw [upd_other _ _ _ _ hk]
    unfold settled
    by_cases hfk : (P k).fresh = true
    · have hne : (freshL P k).length ≠ j := fun e => hk (fresh_inj P k i hfk hf (by omega))
      by_cases hl : (freshL P k).length < j
      · rw [if_pos ⟨hfk, hl⟩, if_pos ⟨hfk, by omega⟩]
      · rw [if_neg (by omega), if_neg (by omega)]
    · rw [if_neg (fun h => hfk h.1), if_neg (fun h => hfk h.1)]
theorem settled_zero (P : Nat → Pg) (keep : Int) : settled P keep 0 = P := by funext i; unfold settled; rw [if_neg (by omega)]

end Go.Proofs.YtapdpdhibpblgaaGreatDoor.Sl
end

-- joined
section
namespace Go.Proofs.YtapdpdhibpblgaaGreatDoor.Sl
open Go.ChangeShapes Go.WideShapes Go.ChangeAt Go.RowKit Go.PlainAid Aid Mn
set_option linter.unusedVariables false
set_option linter.unusedSimpArgs false

theorem Write_nil (i : Int) (s : ByteArray) (w : World) : Calls Tryz.prog 81 #[.pointer Option.none, .int .i64 i, .string s] w fun e w' => e = .returned (.int .i64 2) ∧ w = w' := by
  go_enter Tryz.func81, Tryz.ntmps81
  go_wp2_with fail
  go_returns
  exact ⟨rfl, rfl⟩
theorem Sync_nil (w : World) : Calls Tryz.prog 43 #[.pointer Option.none] w fun e w' => e = .returned (.int .i64 2) ∧ w = w' := by
  go_enter Tryz.func43, Tryz.ntmps43
  go_wp2_with fail
  go_returns
  exact ⟨rfl, rfl⟩
theorem Read_nil (i : Int) (w : World) : Calls Tryz.prog 51 #[.pointer Option.none, .int .i64 i] w fun e w' => e = .returned (.tuple #[.string ⟨#[]⟩, .int .i64 2]) ∧ w = w' := by
  go_enter Tryz.func51, Tryz.ntmps51
  go_wp2_with fail
  go_returns
  exact ⟨rfl, rfl⟩
theorem Len_nil (w : World) : Calls Tryz.prog 71 #[.pointer Option.none] w fun e w' => e = .returned (.int .i64 0) ∧ w = w' := by
  go_enter Tryz.func71, Tryz.ntmps71
  go_wp2_with fail
  go_returns
  exact ⟨rfl, rfl⟩

/-- A page's bytes, all of one. -/
def pageS (n : Int) : ByteArray := ofL (List.replicate 256 (UInt8.ofNat (n % 256).toNat))
theorem pageS_size (n : Int) : (pageS n).size = 256 := by unfold pageS; rw [ofL_size, List.length_replicate]
theorem u8_ofNat (n : Int) : ((UInt8.ofNat (n % 256).toNat).toNat : Int) = n % 256 := by
  rw [UInt8.toNat_ofNat']
  omega
section
variable {g m b n : Nat} {P : Nat → Pg} {q : Pw} {w : World}
theorem Read_dk (h : Dk w g m b n P q) (i : Nat) (hi : i < n) (hq : q.on = true) (s : ByteArray) (hs : (P i).now = s) :
    Calls Tryz.prog 51 #[.pointer (some ⟨g, 0, Option.none⟩), .int .i64 i] w fun e w' => e = .returned (.tuple #[.string s, .int .i64 0]) ∧ w = w' := by
  have := Read_yes g m b n P q i w h hi
  unfold readV at this
  rw [if_pos hq, hs] at this
  exact this
theorem Dk.congr {Q : Nat → Pg} (h : Dk w g m b n P q) (e : ∀ i, i < n → P i = Q i) : Dk w g m b n Q q := ⟨h.disk, h.pages.congr e, h.power, h.small, h.gm, h.gb, h.mb⟩
end
theorem near_of (n : Nat) (h : n ≤ 256) : near n = n := by unfold near; omega
theorem ds_base {B m b : Nat} (hm : B ≤ m) (hb : B ≤ b) (W : World) : ∀ i, i < W.heap.size → DS m b i → B ≤ i := fun i _ e => by
  rcases e with rfl | rfl
  · exact hm
  · exact hb
theorem pageS_ne (n m : Int) (h : n % 256 ≠ m % 256) : pageS n ≠ pageS m := by
  intro e
  have h1 := congrArg (fun s : ByteArray => bt s 0) e
  simp only [bt_list, pageS, ofL_list] at h1
  simp only [List.getD, List.getElem?_replicate] at h1
  simp only [Nat.zero_lt_succ, if_true, Option.getD_some, u8_ofNat, Nat.reduceLT] at h1
  exact h h1
end Go.Proofs.YtapdpdhibpblgaaGreatDoor.Sl
end

-- joined
section
namespace Go.Proofs.YtapdpdhibpblgaaGreatDoor.Sl
open Go.ChangeShapes Go.WideShapes Go.ChangeAt Go.RowKit Go.PlainAid Aid Mn
set_option linter.unusedVariables false
set_option linter.unusedSimpArgs false
/-- A disk in block g, its pages in block b; its power, in block m, is no part of it. -/
def aDk (g m b n : Nat) (P : Nat → Pg) : Asn :=
  ⟨fun w O => (Blk w g 134 #[.pointer (some ⟨m, 0, none⟩), .slice (some ⟨b, 0, none⟩) n n] ∧ Pgs w b n P ∧ n ≤ 256 ∧ g ≠ b) ∧ ∀ k, O k ↔ k = g ∨ k = b,
   fun w O h k hk => by
     rcases (h.2 k).1 hk with rfl | rfl
     · exact h.1.1.lt
     · exact h.1.2.1.lt,
   fun w w' O S h hc hS => ⟨⟨h.1.1.keep hc (hS g ((h.2 g).2 (Or.inl rfl))), h.1.2.1.keep hc (hS b ((h.2 b).2 (Or.inr rfl))), h.1.2.2⟩, h.2⟩⟩
section
variable (g m b n : Nat) (P : Nat → Pg) (q : Pw)
variable {g m b n P q}
theorem dk_of {w : World} {X Y : Nat → Prop} (h : (aDk g m b n P).P w X) (hm : (aMn m q).P w Y) (hd : ∀ k, X k → ¬ Y k) : Dk w g m b n P q :=
  ⟨h.1.1, h.1.2.1, hm.1, h.1.2.2.1, fun e => hd g ((h.2 g).2 (Or.inl rfl)) ((hm.2 g).2 e), h.1.2.2.2, fun e => hd b ((h.2 b).2 (Or.inr rfl)) ((hm.2 b).2 e.symm)⟩
theorem dkOwn {w w' : World} {O X Y : Nat → Prop} {P' : Nat → Pg} {q' : Pw} (h : (aDk g m b n P).P w X) (hm : (aMn m q).P w Y) (hd : ∀ k, X k → ¬ Y k) (hO : ∀ k, O k ↔ X k ∨ Y k)
    (hD : Dk w' g m b n P' q') (hc : Chg (DS m b) w w') : Own w O w' (aDk g m b n P' * aMn m q') :=
  ⟨⟨O, ⟨X, Y, ⟨⟨hD.disk, hD.pages, hD.small, hD.gb⟩, h.2⟩, ⟨hD.power, hm.2⟩, hd, hO⟩, Fresh.refl _ _⟩, hc.mono (fun i _ e => (hO i).2 (e.elim (fun e => Or.inr ((hm.2 i).2 e)) (fun e => Or.inl ((h.2 i).2 (Or.inr e)))))⟩
end
section
variable (g m b n : Nat) (P : Nat → Pg) (q : Pw)
theorem tNew (k : Int) : TrE Tryz.prog 24 #[.pointer (some ⟨m, 0, none⟩), .int .i64 k] (aMn m q) (fun x : Nat × Nat => .pointer (some ⟨x.1, 0, none⟩)) (fun x => aDk x.1 m x.2 (near k) (fun _ => Pg.none) * aMn m q) := fun w O h =>
  (New_any m k q w h.1).mono fun e w' ⟨he, hD, hb⟩ => ⟨(w.heap.size + 1, w.heap.size), he,
    ⟨⟨fun k => (k = w.heap.size + 1 ∨ k = w.heap.size) ∨ k = m, ⟨fun k => k = w.heap.size + 1 ∨ k = w.heap.size, (· = m), ⟨⟨hD.disk, hD.pages, hD.small, hD.gb⟩, fun _ => Iff.rfl⟩, ⟨hD.power, fun _ => Iff.rfl⟩, fun k h1 h2 => by
      have := h.1.lt
      rcases h1 with h1 | h1 <;> omega, fun _ => Iff.rfl⟩, fun k hk => by
      rcases hk with (hk | hk) | hk
      · exact Or.inr (by omega)
      · exact Or.inr (by omega)
      · exact Or.inl ((h.2 k).2 hk)⟩, Chg.of_below hb⟩⟩
theorem qLen : Qt Tryz.prog 71 #[.pointer (some ⟨g, 0, none⟩)] (aDk g m b n P * aMn m q) (.int .i64 n) := fun w O ⟨X, Y, h, hm, hd, hO⟩ =>
  (Len_any g m b n P q w (dk_of h hm hd)).mono fun e w' ⟨he, hw⟩ => ⟨he, 0, hw.symm⟩
theorem qRead_no (i : Int) (hi : i < 0 ∨ (n : Int) ≤ i) : Qt Tryz.prog 51 #[.pointer (some ⟨g, 0, none⟩), .int .i64 i] (aDk g m b n P * aMn m q) (.tuple #[.string ⟨#[]⟩, .int .i64 1]) := fun w O ⟨X, Y, h, hm, hd, hO⟩ =>
  (Read_no g m b n P q i w (dk_of h hm hd) hi).mono fun e w' ⟨he, hw⟩ => ⟨he, 0, hw.symm⟩
theorem qRead_on (i : Nat) (hi : i < n) (hq : q.on = true) : Qt Tryz.prog 51 #[.pointer (some ⟨g, 0, none⟩), .int .i64 i] (aDk g m b n P * aMn m q) (.tuple #[.string (P i).now, .int .i64 0]) := fun w O ⟨X, Y, h, hm, hd, hO⟩ =>
  (Read_yes g m b n P q i w (dk_of h hm hd) hi).mono fun e w' ⟨he, hw⟩ => ⟨by rw [he]; unfold readV; rw [if_pos hq], 0, hw.symm⟩
theorem tWrite_ok (i : Nat) (s : ByteArray) (hi : i < n) (hs : s.size = 256) (hq : q.ans = 0) :
    Tr Tryz.prog 81 #[.pointer (some ⟨g, 0, none⟩), .int .i64 i, .string s] (aDk g m b n P * aMn m q) (.int .i64 0) (aDk g m b n (upd P i ((P i).write s)) * aMn m q.use) := fun w O ⟨X, Y, h, hm, hd, hO⟩ =>
  (Write_ok g m b n P q i s w (dk_of h hm hd) hi hs hq).mono fun e w' ⟨he, hD, hc⟩ => ⟨he, dkOwn h hm hd hO hD hc⟩
theorem tSync_ok (hq : q.ans = 0) :
    Tr Tryz.prog 43 #[.pointer (some ⟨g, 0, none⟩)] (aDk g m b n P * aMn m q) (.int .i64 0) (aDk g m b n (fun i => (P i).secure) * aMn m q.use) := fun w O ⟨X, Y, h, hm, hd, hO⟩ =>
  (Sync_ok g m b n P q w (dk_of h hm hd) hq).mono fun e w' ⟨he, hD, hc⟩ => ⟨he, dkOwn h hm hd hO hD hc⟩
end
end Go.Proofs.YtapdpdhibpblgaaGreatDoor.Sl
end

-- joined
section
namespace Go.Proofs.YtapdpdhibpblgaaGreatDoor.Rl
open Go.ChangeShapes Go.WideShapes Go.ChangeAt Go.RowKit Go.PlainAid Aid Mn
set_option linter.unusedVariables false
set_option linter.unusedSimpArgs false

def idle : Pw := ⟨true, -1, 1⟩
theorem idle_use : idle.use = idle := rfl
end Go.Proofs.YtapdpdhibpblgaaGreatDoor.Rl
end
