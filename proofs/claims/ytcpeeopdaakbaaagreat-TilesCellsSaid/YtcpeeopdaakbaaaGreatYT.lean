/- The reference: orders, words, steps. The reference: the error of orders. The reference: errors of words. -/
import Derived.Test.YtcpeeopdaakbaaaGreatYp
namespace Go.Proofs.YtcpeeopdaakbaaaGreat
open Go.RowKit Go.Shelf Cx

set_option maxHeartbeats 1000000 in
theorem divisor_any (a b : Nat) (w : World) (ha : a ≤ 1000000) (hb : b ≤ 1000000) :
    Calls Tryz.prog 176 #[.int .i64 a, .int .i64 b] w fun e w' => e = .returned (.int .i64 ((Nat.gcd a b : Nat) : Int)) ∧ w = w' := by
  generalize hg : Nat.gcd a b = g
  have HG := Lib.hid hg
  clear hg
  go_enter Tryz.func176, Tryz.ntmps176
  go_wp2_with fail
  go_loop [0, 1] (fun x y => ∃ p q : Nat, p ≤ 1000000 ∧ q ≤ 1000000 ∧ x = .int .i64 (p : Int) ∧ y = .int .i64 (q : Int) ∧ Nat.gcd p q = g) (fun _ y => (intOf y).toNat)
  case atStart => exact ⟨a, b, ha, hb, rfl, rfl, HG.out⟩
  case round =>
    obtain ⟨p, q, hp, hq, rfl, rfl, hgc⟩ := hrel
    have HC := Lib.hid hgc
    clear hgc
    by_cases h0 : q = 0
    · have hz : ((q : Int) == 0) = true := by simp; omega
      have H0 := Lib.hid h0
      clear h0
      go_wp2_with fail
      go_ret
      have h1 := HC.out
      rw [H0.out, Nat.gcd_zero_right] at h1
      exact ⟨by rw [← h1]; rfl, rfl⟩
    · have hz : ((q : Int) == 0) = false := by simp; omega
      have h1 : 1 ≤ q := by omega
      have h2 : (1 : Int) ≤ (q : Int) := by omega
      have hm : (p : Int) % (q : Int) = ((p % q : Nat) : Int) := by simp
      have hlt : p % q < q := Nat.mod_lt _ (by omega)
      have HM := Lib.hid (And.intro hm hlt)
      clear h0 hm hlt
      go_wp2_with fail
      go_round
      case measure =>
        rw [HM.out.1]; have := HM.out.2; simp [intOf]; omega
      case rel =>
        refine ⟨q, p % q, hq, by have := HM.out.2; omega, rfl, by rw [HM.out.1], ?_⟩
        rw [← HC.out, Nat.gcd_comm p q, Nat.gcd_rec q p, Nat.gcd_comm]

theorem wrap_quo {l d m r : Nat} (hl : l ≤ 1728) (hd : d ≤ l) (hr : d * m = r) (hr2 : r ≤ 1728) : wrap64 (wrap64 ((d : Nat) : Int) * (m : Int)) = (r : Int) := by
  rw [IntWalk.wrap64_in ((d : Nat) : Int) ⟨by omega, by omega⟩]
  have e : ((d : Nat) : Int) * (m : Int) = ((d * m : Nat) : Int) := by simp
  rw [e, hr]
  exact IntWalk.wrap64_in _ ⟨by omega, by omega⟩

/-- a callee that leaves the world as it is, inside a region -/
theorem calls_still {P : Program} {f : FuncId} {args : Array Value} {W : World} {v : Value} {R : Ending → World → Prop}
    (h : Calls P f args W fun e w' => e = .returned v ∧ W = w') (hR : R (.returned v) W) : Calls P f args W R :=
  h.mono (by rintro e w' ⟨rfl, rfl⟩; exact hR)

set_option maxRecDepth 100000 in
set_option maxHeartbeats 4000000 in
theorem Level_any (a b c : Nat) (ha : Lim a) (hb : Lim b) (hc : Lim c) (w : World) :
    Calls Tryz.prog 123 #[.agg #[.int .i64 a, .int .i64 b, .int .i64 c]] w fun e w' => e = .returned (.int .i64 ((lvl a b c 3 : Nat) : Int)) ∧ Below w.heap.size w w' := by
  have HL := Lib.hid (lvl_bd ha hb hc)
  have HLM := Lib.hid (And.intro ha (And.intro hb hc))
  have a1 : a ≤ 12 := by rcases ha with h | h <;> omega
  have b1 : b ≤ 12 := by rcases hb with h | h <;> omega
  have c1 : c ≤ 12 := by rcases hc with h | h <;> omega
  clear ha hb hc
  go_enter Tryz.func123, Tryz.ntmps123
  go_wp2_with fail
  have hb0 : SBlk ((w.alloc (.cells #[.int .i64 a, .int .i64 b, .int .i64 c] 23)).alloc (.cells #[.int .i64 a, .int .i64 b, .int .i64 c] 3)) (w.heap.size + 1) 3 [.int .i64 a, .int .i64 b, .int .i64 c] := SBlk.new' _ _ _ _ (World.size_alloc _ _)
  have hb1 : Below w.heap.size w ((w.alloc (.cells #[.int .i64 a, .int .i64 b, .int .i64 c] 23)).alloc (.cells #[.int .i64 a, .int .i64 b, .int .i64 c] 3)) := ((Below.refl _ w).alloc (Nat.le_refl _) _).alloc (by simp) _
  have HB0 := Lib.hid (And.intro hb0 hb1)
  clear hb0 hb1
  go_loopw [3, 5] (fun v i wr => ∃ k : Nat, k ≤ 3 ∧ i = .int .i64 (k : Int) ∧ SBlk wr (w.heap.size + 1) 3 [.int .i64 a, .int .i64 b, .int .i64 c] ∧ Below w.heap.size w wr ∧ v = .int .i64 ((lvl a b c k : Nat) : Int)) (fun _ i _ => 3 - (intOf i).toNat)
  case atStart => exact ⟨0, by omega, rfl, HB0.out.1, HB0.out.2, rfl⟩
  case round =>
    obtain ⟨k, hk, rfl, hbk, hbl, rfl⟩ := hrel
    have c0 := hbk.cell 0
    have c1' := hbk.cell 1
    have c2 := hbk.cell 2
    simp only [List.getElem?_cons_zero, List.getElem?_cons_succ] at c0 c1' c2
    have HB := Lib.hid (And.intro hbk hbl)
    clear hbk hbl
    rcases k with _ | _ | _ | k
    · -- order 0
      have hlv : lvl a b c 0 = 1 := rfl
      have hl1 := HL.out 0
      generalize lvl a b c 0 = l at *
      have HP := Lib.hid hlv
      clear hlv
      by_cases h0 : a = 0
      · have hz : ¬ (0 : Int) < (a : Int) := by omega
        have H0 := Lib.hid h0
        clear h0
        go_wp2_with fail
        go_roundw
        case measure => simp [intOf]
        case rel => exact ⟨1, by omega, rfl, HB.out.1, HB.out.2, by rw [HP.out]; simp [lvl, lcz, H0.out]⟩
      · have hz : (0 : Int) < (a : Int) := by omega
        have hdv := fun W => divisor_any l a W (by omega) (by omega)
        have hg1 : 1 ≤ Nat.gcd l a := Nat.gcd_pos_of_pos_left _ hl1.1
        have hlc : l / Nat.gcd l a * a = lcz l a := by
          unfold lcz
          rw [if_neg h0, Nat.lcm, Nat.mul_comm l a, Nat.mul_div_assoc _ (Nat.gcd_dvd_left l a), Nat.mul_comm]
        have hbd := lvl_bd HLM.out.1 HLM.out.2.1 HLM.out.2.2 1
        have hnx : lvl a b c 1 = lcz l a := by rw [HP.out]; rfl
        have hw : wrap64 (wrap64 ((l : Int) / ((Nat.gcd l a : Nat) : Int)) * (a : Int)) = ((lcz l a : Nat) : Int) := by
          have d1 : l / Nat.gcd l a ≤ l := Nat.div_le_self _ _
          have e1 : (l : Int) / ((Nat.gcd l a : Nat) : Int) = ((l / Nat.gcd l a : Nat) : Int) := by simp
          rw [e1]
          exact wrap_quo hl1.2 d1 hlc (by rw [hnx] at hbd; exact hbd.2)
        have HD := Lib.hid hdv
        have HN := Lib.hid (And.intro hnx hw)
        have hg2 : (1 : Int) ≤ ((Nat.gcd l a : Nat) : Int) := by omega
        have k0 : (0 : Int) ≤ (l : Int) := by omega
        clear h0 hdv hlc hbd hnx hw
        generalize Nat.gcd l a = g at *
        generalize lcz l a = r at *
        go_wp2_with fail
        go_quiet ((go_at_call 176; exact calls_still (HD.out _) ⟨rfl, _, rfl⟩))
        go_wp2_with fail
        go_roundw
        case measure => simp [intOf]
        case rel => exact ⟨1, by omega, rfl, HB.out.1.drewN _, below_dN HB.out.2 _, by rw [HN.out.1, ← HN.out.2]⟩
    · -- order 1
      have hlv : lvl a b c 1 = lcz 1 a := rfl
      have hl1 := HL.out 1
      generalize lvl a b c 1 = l at *
      have HP := Lib.hid hlv
      clear hlv
      by_cases h0 : b = 0
      · have hz : ¬ (0 : Int) < (b : Int) := by omega
        have H0 := Lib.hid h0
        clear h0
        go_wp2_with fail
        go_roundw
        case measure => simp [intOf]
        case rel => exact ⟨2, by omega, rfl, HB.out.1, HB.out.2, by rw [HP.out]; simp [lvl, lcz, H0.out]⟩
      · have hz : (0 : Int) < (b : Int) := by omega
        have hdv := fun W => divisor_any l b W (by omega) (by omega)
        have hg1 : 1 ≤ Nat.gcd l b := Nat.gcd_pos_of_pos_left _ hl1.1
        have hlc : l / Nat.gcd l b * b = lcz l b := by
          unfold lcz
          rw [if_neg h0, Nat.lcm, Nat.mul_comm l b, Nat.mul_div_assoc _ (Nat.gcd_dvd_left l b), Nat.mul_comm]
        have hbd := lvl_bd HLM.out.1 HLM.out.2.1 HLM.out.2.2 2
        have hnx : lvl a b c 2 = lcz l b := by rw [HP.out]; rfl
        have hw : wrap64 (wrap64 ((l : Int) / ((Nat.gcd l b : Nat) : Int)) * (b : Int)) = ((lcz l b : Nat) : Int) := by
          have d1 : l / Nat.gcd l b ≤ l := Nat.div_le_self _ _
          have e1 : (l : Int) / ((Nat.gcd l b : Nat) : Int) = ((l / Nat.gcd l b : Nat) : Int) := by simp
          rw [e1]
          exact wrap_quo hl1.2 d1 hlc (by rw [hnx] at hbd; exact hbd.2)
        have HD := Lib.hid hdv
        have HN := Lib.hid (And.intro hnx hw)
        have hg2 : (1 : Int) ≤ ((Nat.gcd l b : Nat) : Int) := by omega
        have k0 : (0 : Int) ≤ (l : Int) := by omega
        clear h0 hdv hlc hbd hnx hw
        generalize Nat.gcd l b = g at *
        generalize lcz l b = r at *
        go_wp2_with fail
        go_quiet ((go_at_call 176; exact calls_still (HD.out _) ⟨rfl, _, rfl⟩))
        go_wp2_with fail
        go_roundw
        case measure => simp [intOf]
        case rel => exact ⟨2, by omega, rfl, HB.out.1.drewN _, below_dN HB.out.2 _, by rw [HN.out.1, ← HN.out.2]⟩
    · -- order 2
      have hlv : lvl a b c 2 = lcz (lcz 1 a) b := rfl
      have hl1 := HL.out 2
      generalize lvl a b c 2 = l at *
      have HP := Lib.hid hlv
      clear hlv
      by_cases h0 : c = 0
      · have hz : ¬ (0 : Int) < (c : Int) := by omega
        have H0 := Lib.hid h0
        clear h0
        go_wp2_with fail
        go_roundw
        case measure => simp [intOf]
        case rel => exact ⟨3, by omega, rfl, HB.out.1, HB.out.2, by rw [HP.out]; simp [lvl, lcz, H0.out]⟩
      · have hz : (0 : Int) < (c : Int) := by omega
        have hdv := fun W => divisor_any l c W (by omega) (by omega)
        have hg1 : 1 ≤ Nat.gcd l c := Nat.gcd_pos_of_pos_left _ hl1.1
        have hlc : l / Nat.gcd l c * c = lcz l c := by
          unfold lcz
          rw [if_neg h0, Nat.lcm, Nat.mul_comm l c, Nat.mul_div_assoc _ (Nat.gcd_dvd_left l c), Nat.mul_comm]
        have hbd := lvl_bd HLM.out.1 HLM.out.2.1 HLM.out.2.2 3
        have hnx : lvl a b c 3 = lcz l c := by rw [HP.out]; rfl
        have hw : wrap64 (wrap64 ((l : Int) / ((Nat.gcd l c : Nat) : Int)) * (c : Int)) = ((lcz l c : Nat) : Int) := by
          have d1 : l / Nat.gcd l c ≤ l := Nat.div_le_self _ _
          have e1 : (l : Int) / ((Nat.gcd l c : Nat) : Int) = ((l / Nat.gcd l c : Nat) : Int) := by simp
          rw [e1]
          exact wrap_quo hl1.2 d1 hlc (by rw [hnx] at hbd; exact hbd.2)
        have HD := Lib.hid hdv
        have HN := Lib.hid (And.intro hnx hw)
        have hg2 : (1 : Int) ≤ ((Nat.gcd l c : Nat) : Int) := by omega
        have k0 : (0 : Int) ≤ (l : Int) := by omega
        clear h0 hdv hlc hbd hnx hw
        generalize Nat.gcd l c = g at *
        generalize lcz l c = r at *
        go_wp2_with fail
        go_quiet ((go_at_call 176; exact calls_still (HD.out _) ⟨rfl, _, rfl⟩))
        go_wp2_with fail
        go_roundw
        case measure => simp [intOf]
        case rel => exact ⟨3, by omega, rfl, HB.out.1.drewN _, below_dN HB.out.2 _, by rw [HN.out.1, ← HN.out.2]⟩
    · have hk0 : k = 0 := by omega
      subst hk0
      go_wp2_with fail
      go_ret
      exact ⟨rfl, HB.out.2⟩
end Go.Proofs.YtcpeeopdaakbaaaGreat

namespace Go.Proofs.YtcpeeopdaakbaaaGreat
open Go.RowKit Go.Shelf Cx

/-- an order that is allowed -/
def okA (m : Int) : Prop := m = 0 ∨ (2 ≤ m ∧ m ≤ 12)
instance (m : Int) : Decidable (okA m) := by unfold okA; exact inferInstance
def nthA (a b c : Int) : Nat → Int
  | 0 => a
  | 1 => b
  | _ => c
def quoA (m : Int) : Int := if m = 0 then 0 else 27720 / m
def sumA (a b c : Int) : Nat → Int
  | 0 => 0
  | 1 => quoA a
  | 2 => quoA a + quoA b
  | _ => quoA a + quoA b + quoA c
/-- the error of orders -/
def allowedS (a b c : Int) : Int :=
  if okA a ∧ okA b ∧ okA c then (if 27720 ≤ sumA a b c 3 then 1 else if 60 < lvl a.toNat b.toNat c.toNat 3 then 4 else 0) else 1

theorem okA_zero {m : Int} (h : m = 0) : okA m := .inl h
theorem okA_lim {m : Int} (h : okA m) : Lim m.toNat ∧ m = ((m.toNat : Nat) : Int) := by
  rcases h with h | h
  · subst h; exact ⟨.inl rfl, rfl⟩
  · exact ⟨.inr ⟨by omega, by omega⟩, by omega⟩
theorem okA_more {a b c : Int} {j k : Nat} {m : Int} (h : ∀ k, k < j → k < 3 ∧ okA (nthA a b c k)) (hm : okA m) (he : m = nthA a b c j) (hk : k < j + 1) (hj : j < 3 := by omega) : k < 3 ∧ okA (nthA a b c k) := by
  rcases Nat.lt_or_ge k j with h1 | h1
  · exact h k h1
  · obtain rfl : k = j := by omega
    exact ⟨hj, he ▸ hm⟩
theorem allowedS_bad {a b c : Int} {j : Nat} (hj : j < 3) (h : ¬ okA (nthA a b c j)) : allowedS a b c = 1 := by
  unfold allowedS
  rw [if_neg]
  rintro ⟨h1, h2, h3⟩
  rcases j with _ | _ | _ | j
  · exact h h1
  · exact h h2
  · exact h h3
  · omega
theorem quo_bd {m : Int} (h : 2 ≤ m) : 0 ≤ 27720 / m ∧ 27720 / m ≤ 27720 := ⟨Int.ediv_nonneg (by omega) (by omega), Int.ediv_le_self m (by omega)⟩
theorem quoA_bd {m : Int} (h : okA m) : 0 ≤ quoA m ∧ quoA m ≤ 27720 := by
  unfold quoA
  by_cases h0 : m = 0
  · rw [if_pos h0]; omega
  · rw [if_neg h0]
    exact quo_bd (by rcases h with h | h <;> omega)
theorem sumA_bd (a b c : Int) (j : Nat) (h : ∀ k, k < j → okA (nthA a b c k)) (hj : j ≤ 3 := by omega) : 0 ≤ sumA a b c j ∧ sumA a b c j ≤ 83160 := by
  rcases j with _ | _ | _ | _ | j
  · simp [sumA]
  · have := quoA_bd (h 0 (by omega)); simp only [sumA, nthA] at *; omega
  · have := quoA_bd (h 0 (by omega)); have := quoA_bd (h 1 (by omega)); simp only [sumA, nthA] at *; omega
  · have := quoA_bd (h 0 (by omega)); have := quoA_bd (h 1 (by omega)); have := quoA_bd (h 2 (by omega)); simp only [sumA, nthA] at *; omega
  · omega

set_option maxRecDepth 100000 in
set_option maxHeartbeats 4000000 in
theorem Allowed_any (a b c : Int) (w : World) :
    Calls Tryz.prog 68 #[.agg #[.int .i64 a, .int .i64 b, .int .i64 c]] w fun e w' => e = .returned (.int .i64 (allowedS a b c)) ∧ Below w.heap.size w w' := by
  go_enter Tryz.func68, Tryz.ntmps68
  go_wp2_with fail
  have hb1 : Below w.heap.size w ((w.alloc (.cells #[.int .i64 a, .int .i64 b, .int .i64 c] 23)).alloc (.cells #[.int .i64 a, .int .i64 b, .int .i64 c] 3)) := ((Below.refl _ w).alloc (Nat.le_refl _) _).alloc (by simp) _
  have HB0 := Lib.hid hb1
  clear hb1
  go_loop [4, 5] (fun v i => ∃ k : Nat, k ≤ 3 ∧ i = .int .i64 (k : Int) ∧ v = .int .i64 (sumA a b c k) ∧ ∀ j, j < k → j < 3 ∧ okA (nthA a b c j)) (fun _ i => 3 - (intOf i).toNat)
  case atStart => exact ⟨0, by omega, rfl, rfl, fun j hj => by omega⟩
  case round =>
    obtain ⟨k, hk, rfl, rfl, ho⟩ := hrel
    have HO := Lib.hid ho
    clear ho
    rcases k with _ | _ | _ | k
    · -- order 0
      by_cases h0 : a = 0
      · subst h0
        have hs : sumA 0 b c 1 = sumA 0 b c 0 := by simp [sumA, quoA]
        have H0 := Lib.hid (And.intro hs (okA_zero rfl))
        clear hs
        generalize sumA 0 b c 0 = q at *
        go_wp2_with fail
        go_round
        case measure => simp [intOf]
        case rel => exact ⟨1, by omega, rfl, by rw [H0.out.1], fun k hk => okA_more HO.out H0.out.2 (k := k) (j := 0) rfl hk⟩
      · have hz : (a == 0) = false := by simp; omega
        by_cases h1 : a < 2
        · have e1 : decide (a < 2) = true := by simp; omega
          have H0 := Lib.hid (And.intro h0 h1)
          go_wp2_with fail
          go_ret
          refine ⟨?_, HB0.out⟩
          have : allowedS a b c = 1 := allowedS_bad (j := 0) (by omega) (by simp only [nthA]; have := H0.out; unfold okA; omega)
          rw [this]; rfl
        · have e1 : decide (a < 2) = false := by simp; omega
          by_cases h2 : 12 < a
          · have e2 : decide (12 < a) = true := by simp; omega
            have H0 := Lib.hid (And.intro h0 h1)
            go_wp2_with fail
            go_ret
            refine ⟨?_, HB0.out⟩
            have : allowedS a b c = 1 := allowedS_bad (j := 0) (by omega) (by simp only [nthA]; have := H0.out; unfold okA; omega)
            rw [this]; rfl
          · have e2 : decide (12 < a) = false := by simp; omega
            have hs : sumA a b c 1 = sumA a b c 0 + 27720 / a := by simp [sumA, quoA, h0]
            have hq := sumA_bd a b c 0 (fun k hk => (HO.out k hk).2)
            have hd := quo_bd (m := a) (by omega)
            have ho : okA a := .inr ⟨by omega, by omega⟩
            have H0 := Lib.hid (And.intro hs ho)
            obtain ⟨q1, q2⟩ := hq
            obtain ⟨d1, d2⟩ := hd
            clear hs ho
            generalize sumA a b c 0 = q at *
            go_wp2_with fail
            go_round
            case measure => simp [intOf]
            case rel => exact ⟨1, by omega, rfl, by rw [H0.out.1], fun k hk => okA_more HO.out H0.out.2 (k := k) (j := 0) rfl hk⟩
    · -- order 1
      by_cases h0 : b = 0
      · subst h0
        have hs : sumA a 0 c 2 = sumA a 0 c 1 := by simp [sumA, quoA]
        have H0 := Lib.hid (And.intro hs (okA_zero rfl))
        clear hs
        generalize sumA a 0 c 1 = q at *
        go_wp2_with fail
        go_round
        case measure => simp [intOf]
        case rel => exact ⟨2, by omega, rfl, by rw [H0.out.1], fun k hk => okA_more HO.out H0.out.2 (k := k) (j := 1) rfl hk⟩
      · have hz : (b == 0) = false := by simp; omega
        by_cases h1 : b < 2
        · have e1 : decide (b < 2) = true := by simp; omega
          have H0 := Lib.hid (And.intro h0 h1)
          go_wp2_with fail
          go_ret
          refine ⟨?_, HB0.out⟩
          have : allowedS a b c = 1 := allowedS_bad (j := 1) (by omega) (by simp only [nthA]; have := H0.out; unfold okA; omega)
          rw [this]; rfl
        · have e1 : decide (b < 2) = false := by simp; omega
          by_cases h2 : 12 < b
          · have e2 : decide (12 < b) = true := by simp; omega
            have H0 := Lib.hid (And.intro h0 h1)
            go_wp2_with fail
            go_ret
            refine ⟨?_, HB0.out⟩
            have : allowedS a b c = 1 := allowedS_bad (j := 1) (by omega) (by simp only [nthA]; have := H0.out; unfold okA; omega)
            rw [this]; rfl
          · have e2 : decide (12 < b) = false := by simp; omega
            have hs : sumA a b c 2 = sumA a b c 1 + 27720 / b := by simp [sumA, quoA, h0]
            have hq := sumA_bd a b c 1 (fun k hk => (HO.out k hk).2)
            have hd := quo_bd (m := b) (by omega)
            have ho : okA b := .inr ⟨by omega, by omega⟩
            have H0 := Lib.hid (And.intro hs ho)
            obtain ⟨q1, q2⟩ := hq
            obtain ⟨d1, d2⟩ := hd
            clear hs ho
            generalize sumA a b c 1 = q at *
            go_wp2_with fail
            go_round
            case measure => simp [intOf]
            case rel => exact ⟨2, by omega, rfl, by rw [H0.out.1], fun k hk => okA_more HO.out H0.out.2 (k := k) (j := 1) rfl hk⟩
    · -- order 2
      by_cases h0 : c = 0
      · subst h0
        have hs : sumA a b 0 3 = sumA a b 0 2 := by simp [sumA, quoA]
        have H0 := Lib.hid (And.intro hs (okA_zero rfl))
        clear hs
        generalize sumA a b 0 2 = q at *
        go_wp2_with fail
        go_round
        case measure => simp [intOf]
        case rel => exact ⟨3, by omega, rfl, by rw [H0.out.1], fun k hk => okA_more HO.out H0.out.2 (k := k) (j := 2) rfl hk⟩
      · have hz : (c == 0) = false := by simp; omega
        by_cases h1 : c < 2
        · have e1 : decide (c < 2) = true := by simp; omega
          have H0 := Lib.hid (And.intro h0 h1)
          go_wp2_with fail
          go_ret
          refine ⟨?_, HB0.out⟩
          have : allowedS a b c = 1 := allowedS_bad (j := 2) (by omega) (by simp only [nthA]; have := H0.out; unfold okA; omega)
          rw [this]; rfl
        · have e1 : decide (c < 2) = false := by simp; omega
          by_cases h2 : 12 < c
          · have e2 : decide (12 < c) = true := by simp; omega
            have H0 := Lib.hid (And.intro h0 h1)
            go_wp2_with fail
            go_ret
            refine ⟨?_, HB0.out⟩
            have : allowedS a b c = 1 := allowedS_bad (j := 2) (by omega) (by simp only [nthA]; have := H0.out; unfold okA; omega)
            rw [this]; rfl
          · have e2 : decide (12 < c) = false := by simp; omega
            have hs : sumA a b c 3 = sumA a b c 2 + 27720 / c := by simp [sumA, quoA, h0]
            have hq := sumA_bd a b c 2 (fun k hk => (HO.out k hk).2)
            have hd := quo_bd (m := c) (by omega)
            have ho : okA c := .inr ⟨by omega, by omega⟩
            have H0 := Lib.hid (And.intro hs ho)
            obtain ⟨q1, q2⟩ := hq
            obtain ⟨d1, d2⟩ := hd
            clear hs ho
            generalize sumA a b c 2 = q at *
            go_wp2_with fail
            go_round
            case measure => simp [intOf]
            case rel => exact ⟨3, by omega, rfl, by rw [H0.out.1], fun k hk => okA_more HO.out H0.out.2 (k := k) (j := 2) rfl hk⟩
    · have hk0 : k = 0 := by omega
      subst hk0
      have ha : okA a := (HO.out 0 (by omega)).2
      have hb : okA b := (HO.out 1 (by omega)).2
      have hc : okA c := (HO.out 2 (by omega)).2
      have hfin : allowedS a b c = if 27720 ≤ sumA a b c 3 then 1 else if 60 < lvl a.toNat b.toNat c.toNat 3 then 4 else 0 := by
        unfold allowedS; rw [if_pos ⟨ha, hb, hc⟩]
      have hlv := fun W => Level_any a.toNat b.toNat c.toNat (okA_lim ha).1 (okA_lim hb).1 (okA_lim hc).1 W
      rw [← (okA_lim ha).2, ← (okA_lim hb).2, ← (okA_lim hc).2] at hlv
      have hq := sumA_bd a b c 3 (fun k hk => (HO.out k hk).2)
      generalize lvl a.toNat b.toNat c.toNat 3 = L at *
      have HF := Lib.hid (And.intro hfin hlv)
      clear hfin hlv ha hb hc
      generalize sumA a b c 3 = q at *
      obtain ⟨q1, q2⟩ := hq
      by_cases h1 : 27720 ≤ q
      · have H1 := Lib.hid h1
        go_wp2_with fail
        go_ret
        exact ⟨by rw [HF.out.1, if_pos (by have := H1.out; omega)]; rfl, HB0.out⟩
      · have H1 := Lib.hid h1
        by_cases h2 : 60 < L
        · have H2 := Lib.hid h2
          go_wp2_with (go_at_call 123; refine (HF.out.2 _).mono ?_; rintro e w' ⟨rfl, hb⟩; have HBL := Lib.hid hb; clear hb)
          go_ret
          exact ⟨by rw [HF.out.1, if_neg (by have := H1.out; omega), if_pos (by have := H2.out; omega)]; rfl, HB0.out.trans (HBL.out.mono HB0.out.size)⟩
        · have H2 := Lib.hid h2
          go_wp2_with (go_at_call 123; refine (HF.out.2 _).mono ?_; rintro e w' ⟨rfl, hb⟩; have HBL := Lib.hid hb; clear hb)
          go_ret
          exact ⟨by rw [HF.out.1, if_neg (by have := H1.out; omega), if_neg (by have := H2.out; omega)]; rfl, HB0.out.trans (HBL.out.mono HB0.out.size)⟩

theorem allowed_fault : ∀ a b c : Fin 13, (a.val ≠ 1 ∧ b.val ≠ 1 ∧ c.val ≠ 1) → allowedS a.val b.val c.val = faultS a.val b.val c.val := by decide +kernel

theorem allowed_good {a b c : Int} (h : allowedS a b c = 0) : Good a.toNat b.toNat c.toNat ∧ a = ((a.toNat : Nat) : Int) ∧ b = ((b.toNat : Nat) : Int) ∧ c = ((c.toNat : Nat) : Int) := by
  by_cases hok : okA a ∧ okA b ∧ okA c
  · obtain ⟨ha, hb, hc⟩ := hok
    obtain ⟨la, ea⟩ := okA_lim ha
    obtain ⟨lb, eb⟩ := okA_lim hb
    obtain ⟨lc, ec⟩ := okA_lim hc
    refine ⟨⟨la, lb, lc, ?_⟩, ea, eb, ec⟩
    have b1 : a.toNat < 13 := by rcases la with h | h <;> omega
    have b2 : b.toNat < 13 := by rcases lb with h | h <;> omega
    have b3 : c.toNat < 13 := by rcases lc with h | h <;> omega
    have := allowed_fault ⟨a.toNat, b1⟩ ⟨b.toNat, b2⟩ ⟨c.toNat, b3⟩ ⟨by show a.toNat ≠ 1; rcases la with h | h <;> omega, by show b.toNat ≠ 1; rcases lb with h | h <;> omega, by show c.toNat ≠ 1; rcases lc with h | h <;> omega⟩
    simp only at this
    rw [← this, ← ea, ← eb, ← ec]; exact h
  · unfold allowedS at h
    rw [if_neg hok] at h; cases h
end Go.Proofs.YtcpeeopdaakbaaaGreat

namespace Go.Proofs.YtcpeeopdaakbaaaGreat
open Go.RowKit Go.Shelf Cx

theorem all_take {s : ByteArray} {k : Nat} (h : k < s.size) (ha : ∀ y ∈ (bytesN s).take k, y < 3) (hx : (s[k]).toNat < 3) : ∀ y ∈ (bytesN s).take (k + 1), y < 3 := by
  intro y hy
  rw [fwd_take s h] at hy
  rcases List.mem_append.1 hy with h1 | h1
  · exact ha y h1
  · simp at h1; omega

set_option maxHeartbeats 1000000 in
theorem CheckWord_any (s : ByteArray) (w : World) (hs : s.size ≤ 9223372036854775807) :
    Calls Tryz.prog 28 #[.string s] w fun e w' => e = .returned (.int .i64 (checkS s)) ∧ w = w' := by
  go_enter Tryz.func28, Tryz.ntmps28
  go_wp2_with fail
  go_loop [3] (fun i => ∃ k : Nat, k ≤ s.size ∧ i = .int .i64 (k : Int) ∧ ∀ y ∈ (bytesN s).take k, y < 3) (fun i => s.size - (intOf i).toNat)
  case atStart => exact ⟨0, Nat.zero_le _, rfl, fun y hy => by simp at hy⟩
  case round =>
    obtain ⟨k, hk, rfl, ha⟩ := hrel
    have HA := Lib.hid ha
    clear ha
    by_cases hlt : k < s.size
    · have hn := all_take hlt HA.out
      have hmem : (s[k]).toNat ∈ bytesN s := by
        have := bytesN_get s hlt
        exact List.mem_of_getElem? this
      have HN := Lib.hid (And.intro hn hmem)
      clear hn hmem
      by_cases hx : 2 < (s[k]).toNat
      · have hx2 : (2 : Int) < ((s[k]).toNat : Int) := by omega
        have HX := Lib.hid hx
        clear hx
        go_wp2_with fail
        go_ret
        refine ⟨?_, rfl⟩
        have : checkS s = 1 := by
          unfold checkS
          rw [if_neg]
          intro h
          have := List.all_eq_true.1 h _ HN.out.2
          have := HX.out
          simp at *; omega
        rw [this]; rfl
      · have hx2 : ¬ (2 : Int) < ((s[k]).toNat : Int) := by omega
        have HX := Lib.hid hx
        clear hx
        go_wp2_with fail
        go_round
        case measure => simp [intOf]; omega
        case rel => exact ⟨k + 1, by omega, by simp, HN.out.1 (by have := HX.out; omega)⟩
    · obtain rfl : k = s.size := by omega
      have hall : (bytesN s).all (· < 3) = true := by
        rw [List.all_eq_true]; intro y hy
        have := HA.out y (by rw [List.take_of_length_le (by rw [bytesN_length]; exact Nat.le_refl _)]; exact hy)
        simpa using this
      have H1 := Lib.hid hall
      clear hall
      by_cases hl : 60 < s.size
      · have hck : checkS s = 4 := by unfold checkS; rw [if_pos H1.out, if_pos hl]
        have HC := Lib.hid hck
        clear hck
        go_wp2_with fail
        go_ret
        exact ⟨by rw [HC.out]; rfl, rfl⟩
      · have hck : checkS s = 0 := by unfold checkS; rw [if_pos H1.out, if_neg hl]
        have HC := Lib.hid hck
        clear hck
        go_wp2_with fail
        go_ret
        exact ⟨by rw [HC.out]; rfl, rfl⟩

/-- the error of orders and words -/
def errorsS (a b c : Int) (ws : List ByteArray) : Int := if allowedS a b c = 0 then errs ws else allowedS a b c

/-- words before the k-th are allowed -/
theorem errs_step {ws : List ByteArray} {k : Nat} (h : k < ws.length) (h0 : checkS ws[k] = 0) : errs (ws.drop k) = errs (ws.drop (k + 1)) := by
  rw [List.drop_eq_getElem_cons h]
  show (if checkS ws[k] = 0 then _ else _) = _
  rw [if_pos h0]
theorem errs_stop {ws : List ByteArray} {k : Nat} (h : k < ws.length) (h0 : checkS ws[k] ≠ 0) : errs (ws.drop k) = checkS ws[k] := by
  rw [List.drop_eq_getElem_cons h]
  show (if checkS ws[k] = 0 then _ else _) = _
  rw [if_neg h0]

set_option maxRecDepth 100000 in
set_option maxHeartbeats 2000000 in
theorem Errors_any (a b c : Int) (vb : Nat) (ws : List ByteArray) (w : World) (hv : SBlk w vb 9 (cellsS ws)) (hk : ws.length ≤ 140737488355328) (hn : ∀ s ∈ ws, s.size ≤ 9223372036854775807) :
    Calls Tryz.prog 57 #[.agg #[.int .i64 a, .int .i64 b, .int .i64 c], .slice (some ⟨vb, 0, none⟩) ws.length ws.length] w fun e w' => e = .returned (.int .i64 (errorsS a b c ws)) ∧ Below w.heap.size w w' := by
  have hvlt := hv.lt
  have vcell : ∀ (W : World), SBlk W vb 9 (cellsS ws) → ∀ i (h : i < ws.length), W.cell? ⟨vb, i, none⟩ = some (.string ws[i]) := fun W hW i h => by
    rw [hW.cell]; simp [cellsS, List.getElem?_eq_getElem h]
  have HV := Lib.hid (And.intro hv vcell)
  have HAl := Lib.hid (fun W => Allowed_any a b c W)
  have HN := Lib.hid hn
  clear hv vcell hn
  go_enter Tryz.func57, Tryz.ntmps57
  go_wp2_with (go_at_call 68; refine (HAl.out _).mono ?_; rintro e w1 ⟨rfl, hb1⟩; have HB := Lib.hid (below_a1 hb1); clear hb1)
  go_loop [5, 6] (fun v i => ∃ (k : Nat) (n : Int), k ≤ ws.length ∧ i = .int .i64 (k : Int) ∧ v = .int .i64 n ∧ errorsS a b c ws = (if n = 0 then errs (ws.drop k) else n)) (fun v i => 2 * (ws.length - (intOf i).toNat) + (if intOf v = 0 then 1 else 0))
  case atStart => exact ⟨0, allowedS a b c, Nat.zero_le _, rfl, rfl, rfl⟩
  case round =>
    obtain ⟨k, n, hk2, rfl, rfl, he⟩ := hrel
    have HE := Lib.hid he
    clear he
    by_cases hlt : k < ws.length
    · by_cases h0 : n = 0
      · subst h0
        have hcell := HV.out.2 w1 (HV.out.1.below HB.out hvlt) k hlt
        have hsz := HN.out ws[k] (List.getElem_mem hlt)
        have hd : errs (ws.drop k) = if checkS ws[k] = 0 then errs (ws.drop (k + 1)) else checkS ws[k] := by
          rw [List.drop_eq_getElem_cons hlt]; rfl
        generalize ws[k] = s at *
        have HC := Lib.hid (And.intro (fun W => CheckWord_any s W hsz) hd)
        clear hd
        go_wp2_with (go_at_call 28; refine (HC.out.1 _).mono ?_; rintro e w' ⟨rfl, rfl⟩)
        go_round
        case measure =>
          by_cases h : checkS s = 0 <;> simp [intOf, h] <;> omega
        case rel =>
          refine ⟨k + 1, checkS s, by omega, by simp, rfl, ?_⟩
          rw [HE.out, HC.out.2]; simp
      · go_wp2_with fail
        go_ret
        exact ⟨by rw [HE.out, if_neg h0]; rfl, HB.out⟩
    · obtain rfl : k = ws.length := by omega
      have hfin : errorsS a b c ws = n := by
        rw [HE.out, List.drop_length]
        by_cases h : n = 0
        · rw [if_pos h, h]; rfl
        · rw [if_neg h]
      have HF := Lib.hid hfin
      clear hfin
      go_wp2_with fail
      go_ret
      exact ⟨by rw [HF.out]; rfl, HB.out⟩

theorem errorsS_zero {a b c : Int} {ws : List ByteArray} (h : errorsS a b c ws = 0) : allowedS a b c = 0 ∧ ∀ s ∈ ws, checkS s = 0 := by
  unfold errorsS at h
  by_cases h0 : allowedS a b c = 0
  · rw [if_pos h0] at h; exact ⟨h0, errs_low h⟩
  · rw [if_neg h0] at h; exact absurd h h0
end Go.Proofs.YtcpeeopdaakbaaaGreat
