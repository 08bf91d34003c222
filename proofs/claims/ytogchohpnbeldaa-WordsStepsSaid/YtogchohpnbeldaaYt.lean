/- The reference: orders, words, steps. -/
import Derived.Test.YtogchohpnbeldaaYp
namespace Go.Proofs.Ytogchohpnbeldaa
open Go.RowKit Go.Shelf Cx

set_option maxHeartbeats 1000000 in
theorem divisor_any (a b : Nat) (w : World) (ha : a ≤ 1000000) (hb : b ≤ 1000000) :
    Calls Try.prog 98 #[.int .i64 a, .int .i64 b] w fun e w' => e = .returned (.int .i64 ((Nat.gcd a b : Nat) : Int)) ∧ w = w' := by
  generalize hg : Nat.gcd a b = g
  have HG := Lib.hid hg
  clear hg
  go_enter Try.func98, Try.ntmps98
  go_wp2_with fail
  go_loop [0, 1] (fun x y => ∃ p q : Nat, p ≤ 1000000 ∧ q ≤ 1000000 ∧ x = .int .i64 (p : Int) ∧ y = .int .i64 (q : Int) ∧ Nat.gcd p q = g) (fun _ y => (intOf y).toNat)
  case atStart => exact ⟨a, b, ha, hb, rfl, rfl, HG.out⟩
  case round =>
    obtain ⟨p, q, hp, hq, rfl, rfl, hgc⟩ := hrel
    have HC := Lib.hid hgc
    clear hgc
    by_cases h0 : q = 0
    · have hz : ((q : Int) == 0) = true := by simp; omega
      have H0 := Lib.hid h0
      clear h0
      go_wp2_with fail
      go_ret
      have h1 := HC.out
      rw [H0.out, Nat.gcd_zero_right] at h1
      exact ⟨by rw [← h1]; rfl, rfl⟩
    · have hz : ((q : Int) == 0) = false := by simp; omega
      have h1 : 1 ≤ q := by omega
      have h2 : (1 : Int) ≤ (q : Int) := by omega
      have hm : (p : Int) % (q : Int) = ((p % q : Nat) : Int) := by simp
      have hlt : p % q < q := Nat.mod_lt _ (by omega)
      have HM := Lib.hid (And.intro hm hlt)
      clear h0 hm hlt
      go_wp2_with fail
      go_round
      case measure =>
        rw [HM.out.1]; have := HM.out.2; simp [intOf]; omega
      case rel =>
        refine ⟨q, p % q, hq, by have := HM.out.2; omega, rfl, by rw [HM.out.1], ?_⟩
        rw [← HC.out, Nat.gcd_comm p q, Nat.gcd_rec q p, Nat.gcd_comm]

theorem wrap_quo {l d m r : Nat} (hl : l ≤ 1728) (hd : d ≤ l) (hr : d * m = r) (hr2 : r ≤ 1728) : wrap64 (wrap64 ((d : Nat) : Int) * (m : Int)) = (r : Int) := by
  rw [IntWalk.wrap64_in ((d : Nat) : Int) ⟨by omega, by omega⟩]
  have e : ((d : Nat) : Int) * (m : Int) = ((d * m : Nat) : Int) := by simp
  rw [e, hr]
  exact IntWalk.wrap64_in _ ⟨by omega, by omega⟩

/-- a callee that leaves the world as it is, inside a region -/
theorem calls_still {P : Program} {f : FuncId} {args : Array Value} {W : World} {v : Value} {R : Ending → World → Prop}
    (h : Calls P f args W fun e w' => e = .returned v ∧ W = w') (hR : R (.returned v) W) : Calls P f args W R :=
  h.mono (by rintro e w' ⟨rfl, rfl⟩; exact hR)

set_option maxRecDepth 100000 in
set_option maxHeartbeats 4000000 in
theorem Level_any (a b c : Nat) (ha : Lim a) (hb : Lim b) (hc : Lim c) (w : World) :
    Calls Try.prog 75 #[.agg #[.int .i64 a, .int .i64 b, .int .i64 c]] w fun e w' => e = .returned (.int .i64 ((lvl a b c 3 : Nat) : Int)) ∧ Below w.heap.size w w' := by
  have HL := Lib.hid (lvl_bd ha hb hc)
  have HLM := Lib.hid (And.intro ha (And.intro hb hc))
  have a1 : a ≤ 12 := by rcases ha with h | h <;> omega
  have b1 : b ≤ 12 := by rcases hb with h | h <;> omega
  have c1 : c ≤ 12 := by rcases hc with h | h <;> omega
  clear ha hb hc
  go_enter Try.func75, Try.ntmps75
  go_wp2_with fail
  have hb0 : SBlk ((w.alloc (.cells #[.int .i64 a, .int .i64 b, .int .i64 c] 23)).alloc (.cells #[.int .i64 a, .int .i64 b, .int .i64 c] 3)) (w.heap.size + 1) 3 [.int .i64 a, .int .i64 b, .int .i64 c] := SBlk.new' _ _ _ _ (World.size_alloc _ _)
  have hb1 : Below w.heap.size w ((w.alloc (.cells #[.int .i64 a, .int .i64 b, .int .i64 c] 23)).alloc (.cells #[.int .i64 a, .int .i64 b, .int .i64 c] 3)) := ((Below.refl _ w).alloc (Nat.le_refl _) _).alloc (by simp) _
  have HB0 := Lib.hid (And.intro hb0 hb1)
  clear hb0 hb1
  go_loopw [3, 5] (fun v i wr => ∃ k : Nat, k ≤ 3 ∧ i = .int .i64 (k : Int) ∧ SBlk wr (w.heap.size + 1) 3 [.int .i64 a, .int .i64 b, .int .i64 c] ∧ Below w.heap.size w wr ∧ v = .int .i64 ((lvl a b c k : Nat) : Int)) (fun _ i _ => 3 - (intOf i).toNat)
  case atStart => exact ⟨0, by omega, rfl, HB0.out.1, HB0.out.2, rfl⟩
  case round =>
    obtain ⟨k, hk, rfl, hbk, hbl, rfl⟩ := hrel
    have c0 := hbk.cell 0
    have c1' := hbk.cell 1
    have c2 := hbk.cell 2
    simp only [List.getElem?_cons_zero, List.getElem?_cons_succ] at c0 c1' c2
    have HB := Lib.hid (And.intro hbk hbl)
    clear hbk hbl
    rcases k with _ | _ | _ | k
    · -- order 0
      have hlv : lvl a b c 0 = 1 := rfl
      have hl1 := HL.out 0
      generalize lvl a b c 0 = l at *
      have HP := Lib.hid hlv
      clear hlv
      by_cases h0 : a = 0
      · have hz : ¬ (0 : Int) < (a : Int) := by omega
        have H0 := Lib.hid h0
        clear h0
        go_wp2_with fail
        go_roundw
        case measure => simp [intOf]
        case rel => exact ⟨1, by omega, rfl, HB.out.1, HB.out.2, by rw [HP.out]; simp [lvl, lcz, H0.out]⟩
      · have hz : (0 : Int) < (a : Int) := by omega
        have hdv := fun W => divisor_any l a W (by omega) (by omega)
        have hg1 : 1 ≤ Nat.gcd l a := Nat.gcd_pos_of_pos_left _ hl1.1
        have hlc : l / Nat.gcd l a * a = lcz l a := by
          unfold lcz
          rw [if_neg h0, Nat.lcm, Nat.mul_comm l a, Nat.mul_div_assoc _ (Nat.gcd_dvd_left l a), Nat.mul_comm]
        have hbd := lvl_bd HLM.out.1 HLM.out.2.1 HLM.out.2.2 1
        have hnx : lvl a b c 1 = lcz l a := by rw [HP.out]; rfl
        have hw : wrap64 (wrap64 ((l : Int) / ((Nat.gcd l a : Nat) : Int)) * (a : Int)) = ((lcz l a : Nat) : Int) := by
          have d1 : l / Nat.gcd l a ≤ l := Nat.div_le_self _ _
          have e1 : (l : Int) / ((Nat.gcd l a : Nat) : Int) = ((l / Nat.gcd l a : Nat) : Int) := by simp
          rw [e1]
          exact wrap_quo hl1.2 d1 hlc (by rw [hnx] at hbd; exact hbd.2)
        have HD := Lib.hid hdv
        have HN := Lib.hid (And.intro hnx hw)
        have hg2 : (1 : Int) ≤ ((Nat.gcd l a : Nat) : Int) := by omega
        have k0 : (0 : Int) ≤ (l : Int) := by omega
        clear h0 hdv hlc hbd hnx hw
        generalize Nat.gcd l a = g at *
        generalize lcz l a = r at *
        go_wp2_with fail
        go_quiet ((go_at_call 98; exact calls_still (HD.out _) ⟨rfl, _, rfl⟩))
        go_wp2_with fail
        go_roundw
        case measure => simp [intOf]
        case rel => exact ⟨1, by omega, rfl, HB.out.1.drewN _, below_dN HB.out.2 _, by rw [HN.out.1, ← HN.out.2]⟩
    · -- order 1
      have hlv : lvl a b c 1 = lcz 1 a := rfl
      have hl1 := HL.out 1
      generalize lvl a b c 1 = l at *
      have HP := Lib.hid hlv
      clear hlv
      by_cases h0 : b = 0
      · have hz : ¬ (0 : Int) < (b : Int) := by omega
        have H0 := Lib.hid h0
        clear h0
        go_wp2_with fail
        go_roundw
        case measure => simp [intOf]
        case rel => exact ⟨2, by omega, rfl, HB.out.1, HB.out.2, by rw [HP.out]; simp [lvl, lcz, H0.out]⟩
      · have hz : (0 : Int) < (b : Int) := by omega
        have hdv := fun W => divisor_any l b W (by omega) (by omega)
        have hg1 : 1 ≤ Nat.gcd l b := Nat.gcd_pos_of_pos_left _ hl1.1
        have hlc : l / Nat.gcd l b * b = lcz l b := by
          unfold lcz
          rw [if_neg h0, Nat.lcm, Nat.mul_comm l b, Nat.mul_div_assoc _ (Nat.gcd_dvd_left l b), Nat.mul_comm]
        have hbd := lvl_bd HLM.out.1 HLM.out.2.1 HLM.out.2.2 2
        have hnx : lvl a b c 2 = lcz l b := by rw [HP.out]; rfl
        have hw : wrap64 (wrap64 ((l : Int) / ((Nat.gcd l b : Nat) : Int)) * (b : Int)) = ((lcz l b : Nat) : Int) := by
          have d1 : l / Nat.gcd l b ≤ l := Nat.div_le_self _ _
          have e1 : (l : Int) / ((Nat.gcd l b : Nat) : Int) = ((l / Nat.gcd l b : Nat) : Int) := by simp
          rw [e1]
          exact wrap_quo hl1.2 d1 hlc (by rw [hnx] at hbd; exact hbd.2)
        have HD := Lib.hid hdv
        have HN := Lib.hid (And.intro hnx hw)
        have hg2 : (1 : Int) ≤ ((Nat.gcd l b : Nat) : Int) := by omega
        have k0 : (0 : Int) ≤ (l : Int) := by omega
        clear h0 hdv hlc hbd hnx hw
        generalize Nat.gcd l b = g at *
        generalize lcz l b = r at *
        go_wp2_with fail
        go_quiet ((go_at_call 98; exact calls_still (HD.out _) ⟨rfl, _, rfl⟩))
        go_wp2_with fail
        go_roundw
        case measure => simp [intOf]
        case rel => exact ⟨2, by omega, rfl, HB.out.1.drewN _, below_dN HB.out.2 _, by rw [HN.out.1, ← HN.out.2]⟩
    · -- order 2
      have hlv : lvl a b c 2 = lcz (lcz 1 a) b := rfl
      have hl1 := HL.out 2
      generalize lvl a b c 2 = l at *
      have HP := Lib.hid hlv
      clear hlv
      by_cases h0 : c = 0
      · have hz : ¬ (0 : Int) < (c : Int) := by omega
        have H0 := Lib.hid h0
        clear h0
        go_wp2_with fail
        go_roundw
        case measure => simp [intOf]
        case rel => exact ⟨3, by omega, rfl, HB.out.1, HB.out.2, by rw [HP.out]; simp [lvl, lcz, H0.out]⟩
      · have hz : (0 : Int) < (c : Int) := by omega
        have hdv := fun W => divisor_any l c W (by omega) (by omega)
        have hg1 : 1 ≤ Nat.gcd l c := Nat.gcd_pos_of_pos_left _ hl1.1
        have hlc : l / Nat.gcd l c * c = lcz l c := by
          unfold lcz
          rw [if_neg h0, Nat.lcm, Nat.mul_comm l c, Nat.mul_div_assoc _ (Nat.gcd_dvd_left l c), Nat.mul_comm]
        have hbd := lvl_bd HLM.out.1 HLM.out.2.1 HLM.out.2.2 3
        have hnx : lvl a b c 3 = lcz l c := by rw [HP.out]; rfl
        have hw : wrap64 (wrap64 ((l : Int) / ((Nat.gcd l c : Nat) : Int)) * (c : Int)) = ((lcz l c : Nat) : Int) := by
          have d1 : l / Nat.gcd l c ≤ l := Nat.div_le_self _ _
          have e1 : (l : Int) / ((Nat.gcd l c : Nat) : Int) = ((l / Nat.gcd l c : Nat) : Int) := by simp
          rw [e1]
          exact wrap_quo hl1.2 d1 hlc (by rw [hnx] at hbd; exact hbd.2)
        have HD := Lib.hid hdv
        have HN := Lib.hid (And.intro hnx hw)
        have hg2 : (1 : Int) ≤ ((Nat.gcd l c : Nat) : Int) := by omega
        have k0 : (0 : Int) ≤ (l : Int) := by omega
        clear h0 hdv hlc hbd hnx hw
        generalize Nat.gcd l c = g at *
        generalize lcz l c = r at *
        go_wp2_with fail
        go_quiet ((go_at_call 98; exact calls_still (HD.out _) ⟨rfl, _, rfl⟩))
        go_wp2_with fail
        go_roundw
        case measure => simp [intOf]
        case rel => exact ⟨3, by omega, rfl, HB.out.1.drewN _, below_dN HB.out.2 _, by rw [HN.out.1, ← HN.out.2]⟩
    · have hk0 : k = 0 := by omega
      subst hk0
      go_wp2_with fail
      go_ret
      exact ⟨rfl, HB.out.2⟩
end Go.Proofs.Ytogchohpnbeldaa
