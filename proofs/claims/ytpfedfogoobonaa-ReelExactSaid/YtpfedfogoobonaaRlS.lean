import Derived.Test.YtpfedfogoobonaaRlD
import Derived.Test.YtpfedfogoobonaaMnS
namespace Go.Proofs.Ytpfedfogoobonaa.Rl
open Go.ChangeShapes Go.WideShapes Go.ChangeAt Go.RowKit Go.PlainAid Aid Mn
set_option linter.unusedVariables false
set_option linter.unusedSimpArgs false
/-! A reel as what is owned; its power apart. -/
def aRl (g m size : Nat) (s : ByteArray) (safe : Nat) : Asn :=
  ⟨fun w O => Rl w g m O size s safe, fun _ _ h k hk => h.lt hk, fun _ _ _ _ h hc hS => h.keep hc hS⟩
section
variable (g m size : Nat) (s : ByteArray) (safe : Nat) (q : Pw)
theorem rlOwn {w w' : World} {O X Y : Nat → Prop} {s' : ByteArray} {safe' : Nat} {q' : Pw} (hO : ∀ k, O k ↔ X k ∨ Y k) (hY : ∀ k, Y k ↔ k = m) {X' : Nat → Prop} (h : Rl w' g m X' size s' safe') (hf : Fresh w X X') (hm : Mn w' m q') (hc : Chg (MO m X) w w') :
    Own w O w' (aRl g m size s' safe' * aMn m q') :=
  ⟨⟨fun k => X' k ∨ k = m, ⟨X', (· = m), h, ⟨hm, fun _ => Iff.rfl⟩, fun k h1 h2 => h.notm (h2 ▸ h1), fun _ => Iff.rfl⟩, fun k hk => by
    rcases hk with hk | hk
    · exact (hf k hk).elim (fun x => Or.inl ((hO k).2 (Or.inl x))) Or.inr
    · exact Or.inl ((hO k).2 (Or.inr ((hY k).2 hk)))⟩, hc.mono (fun i _ hi => by
    rcases hi with hi | hi
    · exact (hO i).2 (Or.inr ((hY i).2 hi))
    · exact (hO i).2 (Or.inl hi))⟩
theorem tNew (n : Int) : TrE Try.prog 8 #[.pointer (some ⟨m, 0, none⟩), .int .i64 n] (aMn m q) (fun g => .pointer (some ⟨g, 0, none⟩)) (fun g => aRl g m (nearR n) ⟨#[]⟩ 0 * aMn m q) := fun w O h =>
  (New_any m n w h.1.lt).mono fun e w' ⟨he, ⟨X, hr, hf⟩, hb⟩ => ⟨w.heap.size, he, rlOwn _ m _ (X := fun _ => False) (fun k => by simp) h.2 hr hf (h.1.keep (S := fun _ => False) (Chg.of_below hb) id) (Chg.of_below hb)⟩
theorem tAppend_ok (x : ByteArray) (hx : (x.size : Int) ≤ (size : Int) - s.size) (hq : q.ans = 0) :
    Tr Try.prog 10 #[.pointer (some ⟨g, 0, none⟩), .string x] (aRl g m size s safe * aMn m q) (.int .i64 0) (aRl g m size (s ++ x) safe * aMn m q.use) := fun w O ⟨X, Y, h, hm, hd, hO⟩ =>
  (Append_ok g m X size s safe q x w h hm.1 hx hq).mono fun e w' ⟨he, ⟨X', hr, hf⟩, hm', hc⟩ => ⟨he, rlOwn _ _ _ hO hm.2 hr hf hm' hc⟩
theorem tAppend_down (x : ByteArray) (hx : (x.size : Int) ≤ (size : Int) - s.size) (hq : q.ans = 4) :
    Tr Try.prog 10 #[.pointer (some ⟨g, 0, none⟩), .string x] (aRl g m size s safe * aMn m q) (.int .i64 4) (aRl g m size s safe * aMn m q.use) := fun w O ⟨X, Y, h, hm, hd, hO⟩ =>
  (Append_down g m X size s safe q x w h hm.1 hx hq).mono fun e w' ⟨he, hm', hc⟩ => ⟨he, rlOwn _ _ _ hO hm.2 (h.pow hc) (Fresh.refl _ _) hm' (hc.mono (fun _ _ e => Or.inl e))⟩
theorem qAppend_full (x : ByteArray) (hx : (size : Int) - s.size < x.size) :
    Qt Try.prog 10 #[.pointer (some ⟨g, 0, none⟩), .string x] (aRl g m size s safe) (.int .i64 5) := fun w O h => Append_full g m O size s safe x w h hx
theorem tSync_ok (hq : q.ans = 0) :
    Tr Try.prog 12 #[.pointer (some ⟨g, 0, none⟩)] (aRl g m size s safe * aMn m q) (.int .i64 0) (aRl g m size s s.size * aMn m q.use) := fun w O ⟨X, Y, h, hm, hd, hO⟩ =>
  (Sync_ok g m X size s safe q w h hm.1 hq).mono fun e w' ⟨he, hr, hm', hc⟩ => ⟨he, rlOwn _ _ _ hO hm.2 hr (Fresh.refl _ _) hm' hc⟩
theorem tSync_down (hq : q.ans = 4) :
    Tr Try.prog 12 #[.pointer (some ⟨g, 0, none⟩)] (aRl g m size s safe * aMn m q) (.int .i64 4) (aRl g m size s safe * aMn m q.use) := fun w O ⟨X, Y, h, hm, hd, hO⟩ =>
  (Sync_down g m X size s safe q w h hm.1 hq).mono fun e w' ⟨he, hm', hc⟩ => ⟨he, rlOwn _ _ _ hO hm.2 (h.pow hc) (Fresh.refl _ _) hm' (hc.mono (fun _ _ e => Or.inl e))⟩
theorem qTrim_arg (n : Int) (hn : trimW s n) :
    Qt Try.prog 13 #[.pointer (some ⟨g, 0, none⟩), .int .i64 n] (aRl g m size s safe) (.int .i64 1) := fun w O h => (Trim_arg g m O size s safe w n h hn).mono fun e w' ⟨he, hw⟩ => ⟨he, 0, hw.symm⟩
theorem tTrim_ok (n : Nat) (hn : n ≤ s.size) (hq : q.ans = 0) :
    Tr Try.prog 13 #[.pointer (some ⟨g, 0, none⟩), .int .i64 n] (aRl g m size s safe * aMn m q) (.int .i64 0) (aRl g m size (s.extract 0 n) n * aMn m q.use) := fun w O ⟨X, Y, h, hm, hd, hO⟩ =>
  (Trim_ok g m X size s safe q w n h hm.1 hn hq).mono fun e w' ⟨he, hr, hm', hc⟩ => ⟨he, rlOwn _ _ _ hO hm.2 hr (Fresh.refl _ _) hm' hc⟩
theorem tTrim_down (n : Nat) (hn : n ≤ s.size) (hq : q.ans = 4) :
    Tr Try.prog 13 #[.pointer (some ⟨g, 0, none⟩), .int .i64 n] (aRl g m size s safe * aMn m q) (.int .i64 4) (aRl g m size s safe * aMn m q.use) := fun w O ⟨X, Y, h, hm, hd, hO⟩ =>
  (Trim_down g m X size s safe q w n h hm.1 hn hq).mono fun e w' ⟨he, hm', hc⟩ => ⟨he, rlOwn _ _ _ hO hm.2 (h.pow hc) (Fresh.refl _ _) hm' (hc.mono (fun _ _ e => Or.inl e))⟩
theorem qSettle_on (n : Int) (hq : q.on = true) :
    Qt Try.prog 14 #[.pointer (some ⟨g, 0, none⟩), .int .i64 n] (aRl g m size s safe * aMn m q) (.int .i64 13) := fun w O ⟨X, Y, h, hm, hd, hO⟩ => (Settle_on g m X size s safe q w n h hm.1 hq).mono fun e w' ⟨he, hw⟩ => ⟨he, 0, hw.symm⟩
theorem tSettle_off (keep : Int) (hq : q.on = false) :
    Tr Try.prog 14 #[.pointer (some ⟨g, 0, none⟩), .int .i64 keep] (aRl g m size s safe * aMn m q) (.int .i64 0) (aRl g m size (s.extract 0 (safe + stayK keep (s.size - safe))) (safe + stayK keep (s.size - safe)) * aMn m q) := fun w O ⟨X, Y, h, hm, hd, hO⟩ =>
  (Settle_off g m X size s safe q w keep h hm.1 hq).mono fun e w' ⟨he, hr, hm', hc⟩ => ⟨he, rlOwn _ _ _ hO hm.2 hr (Fresh.refl _ _) hm' (hc.mono (fun _ _ e => Or.inr e))⟩
theorem qRead : Qt Try.prog 19 #[.pointer (some ⟨g, 0, none⟩)] (aRl g m size s safe * aMn m q) (readV q s) := fun w O ⟨X, Y, h, hm, hd, hO⟩ => (Read_any g m X size s safe q w h hm.1).mono fun e w' ⟨he, hw⟩ => ⟨he, 0, hw.symm⟩
theorem qRead_on (hq : q.on = true) : Qt Try.prog 19 #[.pointer (some ⟨g, 0, none⟩)] (aRl g m size s safe * aMn m q) (.tuple #[.string s, .int .i64 0]) := by
  have := qRead g m size s safe q; unfold readV at this; rw [if_pos hq] at this; exact this
theorem qRead_off (hq : q.on = false) : Qt Try.prog 19 #[.pointer (some ⟨g, 0, none⟩)] (aRl g m size s safe * aMn m q) (.tuple #[.string ⟨#[]⟩, .int .i64 4]) := by
  have := qRead g m size s safe q; unfold readV at this; rw [if_neg (by simp [hq])] at this; exact this
theorem qLen : Qt Try.prog 20 #[.pointer (some ⟨g, 0, none⟩)] (aRl g m size s safe) (.int .i64 s.size) := fun w O h => (Len_any g m O size s safe w h).mono fun e w' ⟨he, hw⟩ => ⟨he, 0, hw.symm⟩
theorem qSafe : Qt Try.prog 21 #[.pointer (some ⟨g, 0, none⟩)] (aRl g m size s safe) (.int .i64 safe) := fun w O h => (Safe_any g m O size s safe w h).mono fun e w' ⟨he, hw⟩ => ⟨he, 0, hw.symm⟩
theorem qLeft : Qt Try.prog 22 #[.pointer (some ⟨g, 0, none⟩)] (aRl g m size s safe) (.int .i64 ((size : Int) - (s.size : Int))) := fun w O h => Left_any g m O size s safe w h
end
/-! The document's reel. -/
def rrRow (s : ByteArray) (safe size : Nat) : Array Value := #[.string s, .int .i64 safe, .int .i64 size]
def aRr (g : Nat) (s : ByteArray) (safe size : Nat) : Asn := Asn.blk g 38 (rrRow s safe size)
theorem rr_cells {w : World} {g safe size : Nat} {s : ByteArray} (h : Blk w g 38 (rrRow s safe size)) :
    w.cell? ⟨g, 0, none⟩ = some (.string s) ∧ w.cell? ⟨g, 1, none⟩ = some (.int .i64 safe) ∧ w.cell? ⟨g, 2, none⟩ = some (.int .i64 size) ∧ w.frozen? ⟨g, 0, none⟩ = false ∧ w.frozen? ⟨g, 1, none⟩ = false :=
  ⟨h.cell 0, h.cell 1, h.cell 2, h.free 0, h.free 1⟩
set_option maxHeartbeats 400000 in
theorem rNew (n : Int) : TrE Try.prog 9 #[.int .i64 n] Asn.emp (fun g => .pointer (some ⟨g, 0, none⟩)) (fun g => aRr g ⟨#[]⟩ 0 (nearR n)) := by
  intro w O _
  have e0 : (nearR n : Int) = if n < 0 then 0 else if 262144 < n then 262144 else n := by unfold nearR; split <;> (try split) <;> omega
  have key : ∀ (x : Int), x = (nearR n : Int) → Own w O (w.alloc (.cells #[.string ⟨#[]⟩, .int .i64 0, .int .i64 x] 38)) (aRr w.heap.size ⟨#[]⟩ 0 (nearR n)) := by
    rintro x rfl
    exact ⟨⟨(· = w.heap.size), ⟨Blk.new _ _ _, fun _ => Iff.rfl⟩, fun k hk => Or.inr (by omega)⟩, (Chg.refl _ _).alloc _⟩
  have KEY := Lib.hid key
  have E0 := Lib.hid e0
  clear key e0
  go_enter Try.func9, Try.ntmps9
  go_wp2_with fail
  all_goals
    go_returns
    exact ⟨_, rfl, KEY.out _ (by rw [E0.out]; split <;> (try split) <;> omega)⟩
set_option maxHeartbeats 1000000 in
theorem rSettle (g : Nat) (s : ByteArray) (safe size : Nat) (keep : Int) (h1 : safe ≤ s.size) (h2 : s.size ≤ 262144) :
    Tr Try.prog 15 #[.pointer (some ⟨g, 0, none⟩), .int .i64 keep] (aRr g s safe size) (.tuple #[]) (aRr g (s.extract 0 (safe + stayK keep (s.size - safe))) (safe + stayK keep (s.size - safe)) size) := by
  intro w O hA
  have hle := stayK_le keep (s.size - safe)
  have heq := stayK_eq keep (s.size - safe)
  have hn : (((s.size - safe : Nat) : Int)) = (s.size : Int) - safe := by omega
  generalize stayK keep (s.size - safe) = K at *
  rw [hn] at heq
  have hw2 : IntKind.u64.wrap ((s.size : Int) - safe + 1) = (s.size : Int) - safe + 1 := by rw [IntKind.wrap_u64]; omega
  have hw3 : IntKind.i64.wrap ((s.size : Int) - safe + 1) = (s.size : Int) - safe + 1 := by rw [IntKind.wrap_i64]; omega
  have hw4 : IntKind.i64.wrap (K : Int) = K := by rw [IntKind.wrap_i64]; omega
  have hw5 : IntKind.i64.wrap ((safe : Int) + K) = (safe : Int) + K := by rw [IntKind.wrap_i64]; omega
  have hsl := slice_to (P := Try.prog) Try.underlying9 s (safe + K) ((safe : Int) + K) (by omega) (by omega)
  have hT : (s.extract 0 (safe + K)).size = safe + K := by simp; omega
  generalize s.extract 0 (safe + K) = T at *
  have hT' : (T.size : Int) = (safe : Int) + K := by omega
  have hz : ¬ ((s.size : Int) - safe + 1 = 0) := by omega
  have hzb : ((s.size : Int) - safe + 1 == 0) = false := by simpa using hz
  have H := Lib.hid (Own.start hA)
  obtain ⟨c0, c1, -, -, -⟩ := rr_cells hA.1
  clear hA hn
  go_enter Try.func15, Try.ntmps15
  go_wp2_with fail
  go_quiet (fail)
  have H1 := Lib.hid (H.out.drewN nq)
  clear c0 c1 H
  generalize w.drewN nq = w1 at *
  obtain ⟨c0, c1, -, f0, -⟩ := rr_cells (H1.out.has (has_blk _ _ _))
  go_wp2_with fail
  go_wp2_with fail
  refine wp_region_still_tail 20 (by kernel_rfl) (by kernel_rfl) ?_
  simp only [List.take_succ_cons, List.take_zero, List.drop_succ_cons, List.drop_zero]
  change wpStill _ _ w1.drew _ _ _
  repeat still_step
  refine wpStill_nil ?_
  change wpList _ _ _ _ _ w1.drew
  have H2 := Lib.hid H1.out.drew
  clear c0 c1 f0 H1
  generalize w1.drew = w2 at *
  obtain ⟨c0, c1, -, f0, f1⟩ := rr_cells (H2.out.has (has_blk _ _ _))
  go_wp2_with fail
  go_returns
  have h3 := (H2.out.set (sets_blk _ _ _ 0 (.string T))).set (sets_blk _ _ _ 1 (.int .i64 ((safe : Int) + K)))
  exact ⟨rfl, h3⟩
end Go.Proofs.Ytpfedfogoobonaa.Rl
