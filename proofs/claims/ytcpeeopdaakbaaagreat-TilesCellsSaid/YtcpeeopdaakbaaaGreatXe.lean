/- The errors of orders and words that are handed over. -/
import Derived.Test.YtcpeeopdaakbaaaGreatXA
import Derived.Test.YtcpeeopdaakbaaaGreatYT
namespace Go.Proofs.YtcpeeopdaakbaaaGreat
open Go.RowKit Go.Shelf Cx
attribute [local go_sem ↓] Go.wp_at_zero Go.wp_at_succ

set_option maxRecDepth 100000 in
set_option maxHeartbeats 2000000 in
theorem fault_bad0  (a : Int) (b : Int) (c : Int)  (hbad : a < 0 ∨ a = 1 ∨ 12 < a) (w : World) :
    Calls Tryz.prog 215 #[.agg #[.int .i64 a, .int .i64 b, .int .i64 c]] w fun e w' => e = .returned (.int .i64 1) ∧ Below w.heap.size w w' := by
  have i0 : ∀ w, (Instr.index 123 (.agg #[.int .i64 a, .int .i64 b, .int .i64 c]) (.int .i64 0)).run Tryz.prog w = .ok (.int .i64 a) w := fun _ => by kernel_rfl
  have i1 : ∀ w, (Instr.index 123 (.agg #[.int .i64 a, .int .i64 b, .int .i64 c]) (.int .i64 1)).run Tryz.prog w = .ok (.int .i64 b) w := fun _ => by kernel_rfl
  have i2 : ∀ w, (Instr.index 123 (.agg #[.int .i64 a, .int .i64 b, .int .i64 c]) (.int .i64 2)).run Tryz.prog w = .ok (.int .i64 c) w := fun _ => by kernel_rfl
  have HZ := Lib.hid (((Below.refl w.heap.size w).alloc (Nat.le_refl _) (.cells #[.int .i64 a, .int .i64 b, .int .i64 c] 23)).alloc (by simp) (.cells #[.int .i64 a, .int .i64 b, .int .i64 c] 123))
  go_enter Tryz.func215, Tryz.ntmps215
  go_wp2_with fail
  go_loop [4, 18] (fun v i => i = .int .i64 0 ∧ v = .int .i64 1) (fun _ i => 3 - (intOf i).toNat)
  case atStart => exact ⟨rfl, rfl⟩
  case round =>
    obtain ⟨rfl, rfl⟩ := hrel
    rcases hbad with h | h | h
    · go_wp2_with fail
      go_ret
      exact ⟨rfl, HZ.out⟩
    · subst h
      go_wp2_with fail
      go_ret
      exact ⟨rfl, HZ.out⟩
    · have n1 : decide (a < 0) = false := decide_eq_false (by omega)
      have n2 : (a == 1) = false := by simp; omega
      go_wp2_with fail
      go_ret
      exact ⟨rfl, HZ.out⟩

set_option maxRecDepth 100000 in
set_option maxHeartbeats 2000000 in
theorem fault_bad1 (a : Nat) (b : Int) (c : Int) (ha : Lim a) (hbad : b < 0 ∨ b = 1 ∨ 12 < b) (w : World) :
    Calls Tryz.prog 215 #[.agg #[.int .i64 a, .int .i64 b, .int .i64 c]] w fun e w' => e = .returned (.int .i64 1) ∧ Below w.heap.size w w' := by
  have i0 : ∀ w, (Instr.index 123 (.agg #[.int .i64 (a : Int), .int .i64 b, .int .i64 c]) (.int .i64 0)).run Tryz.prog w = .ok (.int .i64 (a : Int)) w := fun _ => by kernel_rfl
  have i1 : ∀ w, (Instr.index 123 (.agg #[.int .i64 (a : Int), .int .i64 b, .int .i64 c]) (.int .i64 1)).run Tryz.prog w = .ok (.int .i64 b) w := fun _ => by kernel_rfl
  have i2 : ∀ w, (Instr.index 123 (.agg #[.int .i64 (a : Int), .int .i64 b, .int .i64 c]) (.int .i64 2)).run Tryz.prog w = .ok (.int .i64 c) w := fun _ => by kernel_rfl
  have HZ := Lib.hid (((Below.refl w.heap.size w).alloc (Nat.le_refl _) (.cells #[.int .i64 a, .int .i64 b, .int .i64 c] 23)).alloc (by simp) (.cells #[.int .i64 a, .int .i64 b, .int .i64 c] 123))
  have a1 : a ≤ 12 := by rcases ha with h | h <;> omega
  have a2 : a ≠ 1 := by rcases ha with h | h <;> omega
  have a3 : ((a : Int) == 1) = false := by simp; omega
  have HL := Lib.hid (fun k => lvl_bd (a := a) (b := 0) (c := 0) ha (.inl rfl) (.inl rfl) k)
  clear a2
  go_enter Tryz.func215, Tryz.ntmps215
  go_wp2_with fail
  go_loop [4, 18] (fun v i => ∃ k : Nat, k ≤ 1 ∧ i = .int .i64 (k : Int) ∧ v = .int .i64 ((lvl a 0 0 k : Nat) : Int)) (fun _ i => 3 - (intOf i).toNat)
  case atStart => exact ⟨0, by omega, rfl, rfl⟩
  case round =>
    obtain ⟨k, hk, rfl, rfl⟩ := hrel
    rcases k with _ | k
    · have hlv : lvl a 0 0 0 = 1 := rfl
      have hl1 := HL.out 0
      generalize lvl a 0 0 0 = l at *
      have HP := Lib.hid hlv
      clear hlv
      by_cases h0 : a = 0
      · have hz : ((a : Int) == 0) = true := by simp; omega
        have H0 := Lib.hid h0
        clear h0 hbad
        go_wp2_with fail
        go_round
        case measure => simp [intOf]
        case rel => exact ⟨1, by omega, rfl, by rw [HP.out]; simp [lvl, lcz, H0.out]⟩
      · have hz : ((a : Int) == 0) = false := by simp; omega
        have HM := fun W => Lib.hid (multiple_lim l a W hl1.1 hl1.2 ha h0)
        clear h0 hbad
        go_wp2_with (go_at_call 235; refine (HM _).out.mono ?_; rintro e w' ⟨rfl, rfl⟩)
        go_round
        case measure => simp [intOf]
        case rel => exact ⟨1, by omega, rfl, by rw [HP.out]; rfl⟩
    · obtain rfl : k = 0 := by omega
      generalize lvl a 0 0 (0 + 1) = l at *
      clear HL
      rcases hbad with h | h | h
      · go_wp2_with fail
        go_ret
        exact ⟨rfl, HZ.out⟩
      · subst h
        go_wp2_with fail
        go_ret
        exact ⟨rfl, HZ.out⟩
      · have n1 : decide (b < 0) = false := decide_eq_false (by omega)
        have n2 : (b == 1) = false := by simp; omega
        go_wp2_with fail
        go_ret
        exact ⟨rfl, HZ.out⟩

set_option maxRecDepth 100000 in
set_option maxHeartbeats 2000000 in
theorem fault_bad2 (a : Nat) (b : Nat) (c : Int) (ha : Lim a) (hb : Lim b) (hbad : c < 0 ∨ c = 1 ∨ 12 < c) (w : World) :
    Calls Tryz.prog 215 #[.agg #[.int .i64 a, .int .i64 b, .int .i64 c]] w fun e w' => e = .returned (.int .i64 1) ∧ Below w.heap.size w w' := by
  have i0 : ∀ w, (Instr.index 123 (.agg #[.int .i64 (a : Int), .int .i64 (b : Int), .int .i64 c]) (.int .i64 0)).run Tryz.prog w = .ok (.int .i64 (a : Int)) w := fun _ => by kernel_rfl
  have i1 : ∀ w, (Instr.index 123 (.agg #[.int .i64 (a : Int), .int .i64 (b : Int), .int .i64 c]) (.int .i64 1)).run Tryz.prog w = .ok (.int .i64 (b : Int)) w := fun _ => by kernel_rfl
  have i2 : ∀ w, (Instr.index 123 (.agg #[.int .i64 (a : Int), .int .i64 (b : Int), .int .i64 c]) (.int .i64 2)).run Tryz.prog w = .ok (.int .i64 c) w := fun _ => by kernel_rfl
  have HZ := Lib.hid (((Below.refl w.heap.size w).alloc (Nat.le_refl _) (.cells #[.int .i64 a, .int .i64 b, .int .i64 c] 23)).alloc (by simp) (.cells #[.int .i64 a, .int .i64 b, .int .i64 c] 123))
  have a1 : a ≤ 12 := by rcases ha with h | h <;> omega
  have a2 : a ≠ 1 := by rcases ha with h | h <;> omega
  have a3 : ((a : Int) == 1) = false := by simp; omega
  have b1 : b ≤ 12 := by rcases hb with h | h <;> omega
  have b2 : b ≠ 1 := by rcases hb with h | h <;> omega
  have b3 : ((b : Int) == 1) = false := by simp; omega
  have HL := Lib.hid (fun k => lvl_bd (a := a) (b := b) (c := 0) ha hb (.inl rfl) k)
  clear a2 b2
  go_enter Tryz.func215, Tryz.ntmps215
  go_wp2_with fail
  go_loop [4, 18] (fun v i => ∃ k : Nat, k ≤ 2 ∧ i = .int .i64 (k : Int) ∧ v = .int .i64 ((lvl a b 0 k : Nat) : Int)) (fun _ i => 3 - (intOf i).toNat)
  case atStart => exact ⟨0, by omega, rfl, rfl⟩
  case round =>
    obtain ⟨k, hk, rfl, rfl⟩ := hrel
    rcases k with _ | _ | k
    · have hlv : lvl a b 0 0 = 1 := rfl
      have hl1 := HL.out 0
      generalize lvl a b 0 0 = l at *
      have HP := Lib.hid hlv
      clear hlv
      by_cases h0 : a = 0
      · have hz : ((a : Int) == 0) = true := by simp; omega
        have H0 := Lib.hid h0
        clear h0 hbad
        go_wp2_with fail
        go_round
        case measure => simp [intOf]
        case rel => exact ⟨1, by omega, rfl, by rw [HP.out]; simp [lvl, lcz, H0.out]⟩
      · have hz : ((a : Int) == 0) = false := by simp; omega
        have HM := fun W => Lib.hid (multiple_lim l a W hl1.1 hl1.2 ha h0)
        clear h0 hbad
        go_wp2_with (go_at_call 235; refine (HM _).out.mono ?_; rintro e w' ⟨rfl, rfl⟩)
        go_round
        case measure => simp [intOf]
        case rel => exact ⟨1, by omega, rfl, by rw [HP.out]; rfl⟩
    · have hlv : lvl a b 0 1 = lcz 1 a := rfl
      have hl1 := HL.out 1
      generalize lvl a b 0 1 = l at *
      have HP := Lib.hid hlv
      clear hlv
      by_cases h0 : b = 0
      · have hz : ((b : Int) == 0) = true := by simp; omega
        have H0 := Lib.hid h0
        clear h0 hbad
        go_wp2_with fail
        go_round
        case measure => simp [intOf]
        case rel => exact ⟨2, by omega, rfl, by rw [HP.out]; simp [lvl, lcz, H0.out]⟩
      · have hz : ((b : Int) == 0) = false := by simp; omega
        have HM := fun W => Lib.hid (multiple_lim l b W hl1.1 hl1.2 hb h0)
        clear h0 hbad
        go_wp2_with (go_at_call 235; refine (HM _).out.mono ?_; rintro e w' ⟨rfl, rfl⟩)
        go_round
        case measure => simp [intOf]
        case rel => exact ⟨2, by omega, rfl, by rw [HP.out]; rfl⟩
    · obtain rfl : k = 0 := by omega
      generalize lvl a b 0 (0 + 1 + 1) = l at *
      clear HL
      rcases hbad with h | h | h
      · go_wp2_with fail
        go_ret
        exact ⟨rfl, HZ.out⟩
      · subst h
        go_wp2_with fail
        go_ret
        exact ⟨rfl, HZ.out⟩
      · have n1 : decide (c < 0) = false := decide_eq_false (by omega)
        have n2 : (c == 1) = false := by simp; omega
        go_wp2_with fail
        go_ret
        exact ⟨rfl, HZ.out⟩


theorem not_okA {m : Int} (h : ¬ okA m) : m < 0 ∨ m = 1 ∨ 12 < m := by unfold okA at h; omega

theorem fault_all (a b c : Int) (w : World) :
    Calls Tryz.prog 215 #[.agg #[.int .i64 a, .int .i64 b, .int .i64 c]] w fun e w' => e = .returned (.int .i64 (allowedS a b c)) ∧ Below w.heap.size w w' := by
  by_cases ha : okA a
  · by_cases hb : okA b
    · by_cases hc : okA c
      · obtain ⟨la, ea⟩ := okA_lim ha
        obtain ⟨lb, eb⟩ := okA_lim hb
        obtain ⟨lc, ec⟩ := okA_lim hc
        have e : allowedS a b c = faultS a.toNat b.toNat c.toNat := by
          have b1 : a.toNat < 13 := by rcases la with h | h <;> omega
          have b2 : b.toNat < 13 := by rcases lb with h | h <;> omega
          have b3 : c.toNat < 13 := by rcases lc with h | h <;> omega
          have := allowed_fault ⟨a.toNat, b1⟩ ⟨b.toNat, b2⟩ ⟨c.toNat, b3⟩ ⟨by rcases la with h | h <;> (simp; omega), by rcases lb with h | h <;> (simp; omega), by rcases lc with h | h <;> (simp; omega)⟩
          simp only at this
          rw [← ea, ← eb, ← ec] at this
          exact this
        rw [e]
        have := fault_any a.toNat b.toNat c.toNat la lb lc w
        rw [← ea, ← eb, ← ec] at this
        exact this
      · obtain ⟨la, ea⟩ := okA_lim ha
        obtain ⟨lb, eb⟩ := okA_lim hb
        rw [allowedS_bad (j := 2) (by omega) (by exact hc)]
        have := fault_bad2 a.toNat b.toNat c la lb (not_okA hc) w
        rw [← ea, ← eb] at this
        exact this
    · obtain ⟨la, ea⟩ := okA_lim ha
      rw [allowedS_bad (j := 1) (by omega) (by exact hb)]
      have := fault_bad1 a.toNat b c la (not_okA hb) w
      rw [← ea] at this
      exact this
  · rw [allowedS_bad (j := 0) (by omega) (by exact ha)]
    exact fault_bad0 a b c (not_okA ha) w

set_option maxRecDepth 100000 in
set_option maxHeartbeats 1000000 in
theorem newOrders_err (a b c : Int) (h : allowedS a b c ≠ 0) (w : World) :
    Calls Tryz.prog 187 #[.agg #[.int .i64 a, .int .i64 b, .int .i64 c]] w fun e w' => e = .panicked (thrown (allowedS a b c)) ∧ Below w.heap.size w w' := by
  have HF := Lib.hid (fun W => fault_all a b c W)
  generalize allowedS a b c = k at *
  have hk : (k != 0) = true := by simpa using h
  clear h
  go_enter Tryz.func187, Tryz.ntmps187
  go_wp2_with (go_at_call 215; refine (HF.out _).mono ?_; rintro e w1 ⟨rfl, hb1⟩; have HB := Lib.hid (below_a1 hb1); clear hb1)
  exact ⟨rfl, rfl, HB.out⟩

set_option maxRecDepth 100000 in
set_option maxHeartbeats 1000000 in
theorem given_err0 (a b c : Int) (h : allowedS a b c ≠ 0) (vb n : Nat) (w : World) :
    Calls Tryz.prog 142 #[.agg #[.int .i64 a, .int .i64 b, .int .i64 c], .slice (some ⟨vb, 0, none⟩) n n] w fun e w' => e = .panicked (thrown (allowedS a b c)) ∧ Below w.heap.size w w' := by
  have HF := Lib.hid (fun W => newOrders_err a b c h W)
  generalize allowedS a b c = k at *
  clear h
  go_enter Tryz.func142, Tryz.ntmps142
  go_wp2_with (go_at_call 187; refine (HF.out _).mono ?_; rintro e w1 ⟨rfl, hb1⟩; have HB := Lib.hid (below_a1 hb1); clear hb1)
  exact ⟨rfl, rfl, HB.out⟩

theorem given_err (a b c : Int) (vb n : Nat) (ws : List ByteArray) (hl : ws.length = n) (hk : n ≤ 100) (hn : ∀ s ∈ ws, s.size ≤ 9223372036854775807) (he : errorsS a b c ws ≠ 0) (w : World) (hv : SBlk w vb 9 (cellsS ws)) :
    Calls Tryz.prog 142 #[.agg #[.int .i64 a, .int .i64 b, .int .i64 c], .slice (some ⟨vb, 0, none⟩) n n] w fun e w' => e = .panicked (thrown (errorsS a b c ws)) ∧ Below w.heap.size w w' := by
  subst hl
  unfold errorsS at he ⊢
  by_cases h : allowedS a b c = 0
  · rw [if_pos h] at he ⊢
    obtain ⟨hg, ea, eb, ec⟩ := allowed_good h
    have := given_any a.toNat b.toNat c.toNat hg.la hg.lb hg.lc hg.lf vb ws w hv (by omega) hn
    rw [← ea, ← eb, ← ec] at this
    refine this.mono ?_
    rintro e w' ⟨hb, ⟨h0, _⟩ | ⟨_, rfl⟩⟩
    · exact absurd h0 he
    · exact ⟨rfl, hb⟩
  · rw [if_neg h]
    exact given_err0 a b c h vb _ w
end Go.Proofs.YtcpeeopdaakbaaaGreat
