/- The reference: the error of orders. -/
import Derived.Test.YtogchohpnbeldaaYt
namespace Go.Proofs.Ytogchohpnbeldaa
open Go.RowKit Go.Shelf Cx

/-- an order that is allowed -/
def okA (m : Int) : Prop := m = 0 ∨ (2 ≤ m ∧ m ≤ 12)
instance (m : Int) : Decidable (okA m) := by unfold okA; exact inferInstance
def nthA (a b c : Int) : Nat → Int
  | 0 => a
  | 1 => b
  | _ => c
def quoA (m : Int) : Int := if m = 0 then 0 else 27720 / m
def sumA (a b c : Int) : Nat → Int
  | 0 => 0
  | 1 => quoA a
  | 2 => quoA a + quoA b
  | _ => quoA a + quoA b + quoA c
/-- the error of orders -/
def allowedS (a b c : Int) : Int :=
  if okA a ∧ okA b ∧ okA c then (if 27720 ≤ sumA a b c 3 then 1 else if 60 < lvl a.toNat b.toNat c.toNat 3 then 4 else 0) else 1

theorem okA_zero {m : Int} (h : m = 0) : okA m := .inl h
theorem okA_lim {m : Int} (h : okA m) : Lim m.toNat ∧ m = ((m.toNat : Nat) : Int) := by
  rcases h with h | h
  · subst h; exact ⟨.inl rfl, rfl⟩
  · exact ⟨.inr ⟨by omega, by omega⟩, by omega⟩
theorem okA_more {a b c : Int} {j k : Nat} {m : Int} (h : ∀ k, k < j → k < 3 ∧ okA (nthA a b c k)) (hm : okA m) (he : m = nthA a b c j) (hk : k < j + 1) (hj : j < 3 := by omega) : k < 3 ∧ okA (nthA a b c k) := by
  rcases Nat.lt_or_ge k j with h1 | h1
  · exact h k h1
  · obtain rfl : k = j := by omega
    exact ⟨hj, he ▸ hm⟩
theorem allowedS_bad {a b c : Int} {j : Nat} (hj : j < 3) (h : ¬ okA (nthA a b c j)) : allowedS a b c = 1 := by
  unfold allowedS
  rw [if_neg]
  rintro ⟨h1, h2, h3⟩
  rcases j with _ | _ | _ | j
  · exact h h1
  · exact h h2
  · exact h h3
  · omega
theorem quo_bd {m : Int} (h : 2 ≤ m) : 0 ≤ 27720 / m ∧ 27720 / m ≤ 27720 := ⟨Int.ediv_nonneg (by omega) (by omega), Int.ediv_le_self m (by omega)⟩
theorem quoA_bd {m : Int} (h : okA m) : 0 ≤ quoA m ∧ quoA m ≤ 27720 := by
  unfold quoA
  by_cases h0 : m = 0
  · rw [if_pos h0]; omega
  · rw [if_neg h0]
    exact quo_bd (by rcases h with h | h <;> omega)
theorem sumA_bd (a b c : Int) (j : Nat) (h : ∀ k, k < j → okA (nthA a b c k)) (hj : j ≤ 3 := by omega) : 0 ≤ sumA a b c j ∧ sumA a b c j ≤ 83160 := by
  rcases j with _ | _ | _ | _ | j
  · simp [sumA]
  · have := quoA_bd (h 0 (by omega)); simp only [sumA, nthA] at *; omega
  · have := quoA_bd (h 0 (by omega)); have := quoA_bd (h 1 (by omega)); simp only [sumA, nthA] at *; omega
  · have := quoA_bd (h 0 (by omega)); have := quoA_bd (h 1 (by omega)); have := quoA_bd (h 2 (by omega)); simp only [sumA, nthA] at *; omega
  · omega

set_option maxRecDepth 100000 in
set_option maxHeartbeats 4000000 in
theorem Allowed_any (a b c : Int) (w : World) :
    Calls Try.prog 48 #[.agg #[.int .i64 a, .int .i64 b, .int .i64 c]] w fun e w' => e = .returned (.int .i64 (allowedS a b c)) ∧ Below w.heap.size w w' := by
  go_enter Try.func48, Try.ntmps48
  go_wp2_with fail
  have hb1 : Below w.heap.size w ((w.alloc (.cells #[.int .i64 a, .int .i64 b, .int .i64 c] 23)).alloc (.cells #[.int .i64 a, .int .i64 b, .int .i64 c] 3)) := ((Below.refl _ w).alloc (Nat.le_refl _) _).alloc (by simp) _
  have HB0 := Lib.hid hb1
  clear hb1
  go_loop [4, 5] (fun v i => ∃ k : Nat, k ≤ 3 ∧ i = .int .i64 (k : Int) ∧ v = .int .i64 (sumA a b c k) ∧ ∀ j, j < k → j < 3 ∧ okA (nthA a b c j)) (fun _ i => 3 - (intOf i).toNat)
  case atStart => exact ⟨0, by omega, rfl, rfl, fun j hj => by omega⟩
  case round =>
    obtain ⟨k, hk, rfl, rfl, ho⟩ := hrel
    have HO := Lib.hid ho
    clear ho
    rcases k with _ | _ | _ | k
    · -- order 0
      by_cases h0 : a = 0
      · subst h0
        have hs : sumA 0 b c 1 = sumA 0 b c 0 := by simp [sumA, quoA]
        have H0 := Lib.hid (And.intro hs (okA_zero rfl))
        clear hs
        generalize sumA 0 b c 0 = q at *
        go_wp2_with fail
        go_round
        case measure => simp [intOf]
        case rel => exact ⟨1, by omega, rfl, by rw [H0.out.1], fun k hk => okA_more HO.out H0.out.2 (k := k) (j := 0) rfl hk⟩
      · have hz : (a == 0) = false := by simp; omega
        by_cases h1 : a < 2
        · have e1 : decide (a < 2) = true := by simp; omega
          have H0 := Lib.hid (And.intro h0 h1)
          go_wp2_with fail
          go_ret
          refine ⟨?_, HB0.out⟩
          have : allowedS a b c = 1 := allowedS_bad (j := 0) (by omega) (by simp only [nthA]; have := H0.out; unfold okA; omega)
          rw [this]; rfl
        · have e1 : decide (a < 2) = false := by simp; omega
          by_cases h2 : 12 < a
          · have e2 : decide (12 < a) = true := by simp; omega
            have H0 := Lib.hid (And.intro h0 h1)
            go_wp2_with fail
            go_ret
            refine ⟨?_, HB0.out⟩
            have : allowedS a b c = 1 := allowedS_bad (j := 0) (by omega) (by simp only [nthA]; have := H0.out; unfold okA; omega)
            rw [this]; rfl
          · have e2 : decide (12 < a) = false := by simp; omega
            have hs : sumA a b c 1 = sumA a b c 0 + 27720 / a := by simp [sumA, quoA, h0]
            have hq := sumA_bd a b c 0 (fun k hk => (HO.out k hk).2)
            have hd := quo_bd (m := a) (by omega)
            have ho : okA a := .inr ⟨by omega, by omega⟩
            have H0 := Lib.hid (And.intro hs ho)
            obtain ⟨q1, q2⟩ := hq
            obtain ⟨d1, d2⟩ := hd
            clear hs ho
            generalize sumA a b c 0 = q at *
            go_wp2_with fail
            go_round
            case measure => simp [intOf]
            case rel => exact ⟨1, by omega, rfl, by rw [H0.out.1], fun k hk => okA_more HO.out H0.out.2 (k := k) (j := 0) rfl hk⟩
    · -- order 1
      by_cases h0 : b = 0
      · subst h0
        have hs : sumA a 0 c 2 = sumA a 0 c 1 := by simp [sumA, quoA]
        have H0 := Lib.hid (And.intro hs (okA_zero rfl))
        clear hs
        generalize sumA a 0 c 1 = q at *
        go_wp2_with fail
        go_round
        case measure => simp [intOf]
        case rel => exact ⟨2, by omega, rfl, by rw [H0.out.1], fun k hk => okA_more HO.out H0.out.2 (k := k) (j := 1) rfl hk⟩
      · have hz : (b == 0) = false := by simp; omega
        by_cases h1 : b < 2
        · have e1 : decide (b < 2) = true := by simp; omega
          have H0 := Lib.hid (And.intro h0 h1)
          go_wp2_with fail
          go_ret
          refine ⟨?_, HB0.out⟩
          have : allowedS a b c = 1 := allowedS_bad (j := 1) (by omega) (by simp only [nthA]; have := H0.out; unfold okA; omega)
          rw [this]; rfl
        · have e1 : decide (b < 2) = false := by simp; omega
          by_cases h2 : 12 < b
          · have e2 : decide (12 < b) = true := by simp; omega
            have H0 := Lib.hid (And.intro h0 h1)
            go_wp2_with fail
            go_ret
            refine ⟨?_, HB0.out⟩
            have : allowedS a b c = 1 := allowedS_bad (j := 1) (by omega) (by simp only [nthA]; have := H0.out; unfold okA; omega)
            rw [this]; rfl
          · have e2 : decide (12 < b) = false := by simp; omega
            have hs : sumA a b c 2 = sumA a b c 1 + 27720 / b := by simp [sumA, quoA, h0]
            have hq := sumA_bd a b c 1 (fun k hk => (HO.out k hk).2)
            have hd := quo_bd (m := b) (by omega)
            have ho : okA b := .inr ⟨by omega, by omega⟩
            have H0 := Lib.hid (And.intro hs ho)
            obtain ⟨q1, q2⟩ := hq
            obtain ⟨d1, d2⟩ := hd
            clear hs ho
            generalize sumA a b c 1 = q at *
            go_wp2_with fail
            go_round
            case measure => simp [intOf]
            case rel => exact ⟨2, by omega, rfl, by rw [H0.out.1], fun k hk => okA_more HO.out H0.out.2 (k := k) (j := 1) rfl hk⟩
    · -- order 2
      by_cases h0 : c = 0
      · subst h0
        have hs : sumA a b 0 3 = sumA a b 0 2 := by simp [sumA, quoA]
        have H0 := Lib.hid (And.intro hs (okA_zero rfl))
        clear hs
        generalize sumA a b 0 2 = q at *
        go_wp2_with fail
        go_round
        case measure => simp [intOf]
        case rel => exact ⟨3, by omega, rfl, by rw [H0.out.1], fun k hk => okA_more HO.out H0.out.2 (k := k) (j := 2) rfl hk⟩
      · have hz : (c == 0) = false := by simp; omega
        by_cases h1 : c < 2
        · have e1 : decide (c < 2) = true := by simp; omega
          have H0 := Lib.hid (And.intro h0 h1)
          go_wp2_with fail
          go_ret
          refine ⟨?_, HB0.out⟩
          have : allowedS a b c = 1 := allowedS_bad (j := 2) (by omega) (by simp only [nthA]; have := H0.out; unfold okA; omega)
          rw [this]; rfl
        · have e1 : decide (c < 2) = false := by simp; omega
          by_cases h2 : 12 < c
          · have e2 : decide (12 < c) = true := by simp; omega
            have H0 := Lib.hid (And.intro h0 h1)
            go_wp2_with fail
            go_ret
            refine ⟨?_, HB0.out⟩
            have : allowedS a b c = 1 := allowedS_bad (j := 2) (by omega) (by simp only [nthA]; have := H0.out; unfold okA; omega)
            rw [this]; rfl
          · have e2 : decide (12 < c) = false := by simp; omega
            have hs : sumA a b c 3 = sumA a b c 2 + 27720 / c := by simp [sumA, quoA, h0]
            have hq := sumA_bd a b c 2 (fun k hk => (HO.out k hk).2)
            have hd := quo_bd (m := c) (by omega)
            have ho : okA c := .inr ⟨by omega, by omega⟩
            have H0 := Lib.hid (And.intro hs ho)
            obtain ⟨q1, q2⟩ := hq
            obtain ⟨d1, d2⟩ := hd
            clear hs ho
            generalize sumA a b c 2 = q at *
            go_wp2_with fail
            go_round
            case measure => simp [intOf]
            case rel => exact ⟨3, by omega, rfl, by rw [H0.out.1], fun k hk => okA_more HO.out H0.out.2 (k := k) (j := 2) rfl hk⟩
    · have hk0 : k = 0 := by omega
      subst hk0
      have ha : okA a := (HO.out 0 (by omega)).2
      have hb : okA b := (HO.out 1 (by omega)).2
      have hc : okA c := (HO.out 2 (by omega)).2
      have hfin : allowedS a b c = if 27720 ≤ sumA a b c 3 then 1 else if 60 < lvl a.toNat b.toNat c.toNat 3 then 4 else 0 := by
        unfold allowedS; rw [if_pos ⟨ha, hb, hc⟩]
      have hlv := fun W => Level_any a.toNat b.toNat c.toNat (okA_lim ha).1 (okA_lim hb).1 (okA_lim hc).1 W
      rw [← (okA_lim ha).2, ← (okA_lim hb).2, ← (okA_lim hc).2] at hlv
      have hq := sumA_bd a b c 3 (fun k hk => (HO.out k hk).2)
      generalize lvl a.toNat b.toNat c.toNat 3 = L at *
      have HF := Lib.hid (And.intro hfin hlv)
      clear hfin hlv ha hb hc
      generalize sumA a b c 3 = q at *
      obtain ⟨q1, q2⟩ := hq
      by_cases h1 : 27720 ≤ q
      · have H1 := Lib.hid h1
        go_wp2_with fail
        go_ret
        exact ⟨by rw [HF.out.1, if_pos (by have := H1.out; omega)]; rfl, HB0.out⟩
      · have H1 := Lib.hid h1
        by_cases h2 : 60 < L
        · have H2 := Lib.hid h2
          go_wp2_with (go_at_call 75; refine (HF.out.2 _).mono ?_; rintro e w' ⟨rfl, hb⟩; have HBL := Lib.hid hb; clear hb)
          go_ret
          exact ⟨by rw [HF.out.1, if_neg (by have := H1.out; omega), if_pos (by have := H2.out; omega)]; rfl, HB0.out.trans (HBL.out.mono HB0.out.size)⟩
        · have H2 := Lib.hid h2
          go_wp2_with (go_at_call 75; refine (HF.out.2 _).mono ?_; rintro e w' ⟨rfl, hb⟩; have HBL := Lib.hid hb; clear hb)
          go_ret
          exact ⟨by rw [HF.out.1, if_neg (by have := H1.out; omega), if_neg (by have := H2.out; omega)]; rfl, HB0.out.trans (HBL.out.mono HB0.out.size)⟩

theorem allowed_fault : ∀ a b c : Fin 13, (a.val ≠ 1 ∧ b.val ≠ 1 ∧ c.val ≠ 1) → allowedS a.val b.val c.val = faultS a.val b.val c.val := by decide +kernel

theorem allowed_good {a b c : Int} (h : allowedS a b c = 0) : Good a.toNat b.toNat c.toNat ∧ a = ((a.toNat : Nat) : Int) ∧ b = ((b.toNat : Nat) : Int) ∧ c = ((c.toNat : Nat) : Int) := by
  by_cases hok : okA a ∧ okA b ∧ okA c
  · obtain ⟨ha, hb, hc⟩ := hok
    obtain ⟨la, ea⟩ := okA_lim ha
    obtain ⟨lb, eb⟩ := okA_lim hb
    obtain ⟨lc, ec⟩ := okA_lim hc
    refine ⟨⟨la, lb, lc, ?_⟩, ea, eb, ec⟩
    have b1 : a.toNat < 13 := by rcases la with h | h <;> omega
    have b2 : b.toNat < 13 := by rcases lb with h | h <;> omega
    have b3 : c.toNat < 13 := by rcases lc with h | h <;> omega
    have := allowed_fault ⟨a.toNat, b1⟩ ⟨b.toNat, b2⟩ ⟨c.toNat, b3⟩ ⟨by show a.toNat ≠ 1; rcases la with h | h <;> omega, by show b.toNat ≠ 1; rcases lb with h | h <;> omega, by show c.toNat ≠ 1; rcases lc with h | h <;> omega⟩
    simp only at this
    rw [← this, ← ea, ← eb, ← ec]; exact h
  · unfold allowedS at h
    rw [if_neg hok] at h; cases h
end Go.Proofs.Ytogchohpnbeldaa
