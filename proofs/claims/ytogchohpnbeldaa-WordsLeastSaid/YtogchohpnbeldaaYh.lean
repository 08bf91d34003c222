/- Orders: the least common multiple, the error of orders. -/
import Derived.Test.YtogchohpnbeldaaYg
namespace Go.Proofs.Ytogchohpnbeldaa
open Go.RowKit Go.Shelf Cx

theorem lcm_step {a b k : Nat} (ha : 0 < a) (_ : 0 < b) (hk : k * a ≤ Nat.lcm a b) (hm : (k * a) % b ≠ 0) : (k + 1) * a ≤ Nat.lcm a b := by
  obtain ⟨q, hq⟩ := Nat.dvd_lcm_left a b
  rw [hq] at hk ⊢
  have h1 : k ≠ q := by
    rintro rfl
    apply hm
    rw [Nat.mul_comm, ← hq]
    exact Nat.mod_eq_zero_of_dvd (Nat.dvd_lcm_right a b)
  have h2 : k ≤ q := by
    rw [Nat.mul_comm] at hk
    exact Nat.le_of_mul_le_mul_left hk ha
  rw [Nat.mul_comm]
  exact Nat.mul_le_mul_left a (by omega)

theorem lcm_end {a b k : Nat} (hk0 : 0 < k * a) (hk : k * a ≤ Nat.lcm a b) (hm : (k * a) % b = 0) : k * a = Nat.lcm a b := by
  have h : Nat.lcm a b ∣ k * a := Nat.lcm_dvd (Nat.dvd_mul_left a k) (Nat.dvd_of_mod_eq_zero hm)
  exact Nat.le_antisymm hk (Nat.le_of_dvd hk0 h)

set_option maxHeartbeats 1000000 in
theorem multiple_any (a b : Nat) (w : World) (ha : 0 < a) (hb : 0 < b) (hab : Nat.lcm a b + a ≤ 1000000) :
    Calls Try.prog 113 #[.int .i64 a, .int .i64 b] w fun e w' => e = .returned (.int .i64 ((Nat.lcm a b : Nat) : Int)) ∧ w = w' := by
  have h1 : 1 * a ≤ Nat.lcm a b := by
    rw [Nat.one_mul]
    exact Nat.le_of_dvd (Nat.lcm_pos ha hb) (Nat.dvd_lcm_left a b)
  have H1 := Lib.hid h1
  generalize hL : Nat.lcm a b = L at *
  have HL := Lib.hid hL
  clear hL h1
  go_enter Try.func113, Try.ntmps113
  go_wp2_with fail
  go_loop [5] (fun c => ∃ k n : Nat, n = k * a + 0 ∧ 0 < k ∧ n ≤ L ∧ c = .int .i64 (n : Int)) (fun c => L - (intOf c).toNat)
  case atStart => exact ⟨1, a, by simp, by omega, by have := H1.out; omega, rfl⟩
  case round =>
    obtain ⟨k, n, hn, hk, hnL, rfl⟩ := hrel
    have HN := Lib.hid hn
    clear hn
    have hn1 : 1 ≤ n := by
      have h := HN.out
      have := Nat.mul_pos hk ha
      omega
    by_cases hm : n % b = 0
    · have hm2 : ((n : Int) % (b : Int) == 0) = true := by simp; exact_mod_cast hm
      have HM := Lib.hid hm
      clear hm
      go_wp2_with fail
      go_ret
      have h1 := HN.out
      have h2 := HL.out
      rw [Nat.add_zero] at h1
      have h3 := HM.out
      rw [h1] at h3
      have h4 := lcm_end (a := a) (b := b) (k := k) (by rw [← h1]; omega) (by rw [← h1, h2]; exact hnL) h3
      exact ⟨by rw [← h2, ← h4, ← h1]; rfl, rfl⟩
    · have hm2 : ((n : Int) % (b : Int) == 0) = false := by simp; intro h; apply hm; exact_mod_cast h
      have HM := Lib.hid hm
      clear hm
      have hst : n + a ≤ L := by
        have h1 := HN.out
        have h2 := HL.out
        rw [Nat.add_zero] at h1
        have h3 := HM.out
        rw [h1] at h3
        have := lcm_step (a := a) (b := b) (k := k) ha hb (by rw [← h1, h2]; exact hnL) h3
        rw [Nat.add_mul, Nat.one_mul, ← h1, h2] at this
        exact this
      go_wp2_with fail
      go_round
      case measure => simp [intOf]; omega
      case rel =>
        refine ⟨k + 1, n + a, ?_, by omega, hst, by simp⟩
        have h1 := HN.out
        rw [Nat.add_mul, Nat.one_mul]; omega

/-- the least common multiple with an order that is not 0 -/
def lcz (l m : Nat) : Nat := if m = 0 then l else Nat.lcm l m
/-- the level behind k orders -/
def lvl (a b c : Nat) : Nat → Nat
  | 0 => 1
  | 1 => lcz 1 a
  | 2 => lcz (lcz 1 a) b
  | _ => lcz (lcz (lcz 1 a) b) c
/-- an angle -/
def ang (lv m : Nat) : Nat := if m = 0 then 0 else lv / m
/-- the angles of k corners -/
def angs (lv a b c : Nat) : Nat → Nat
  | 0 => 0
  | 1 => ang lv a
  | 2 => ang lv a + ang lv b
  | _ => ang lv a + ang lv b + ang lv c
/-- the error of orders each of which is allowed -/
def faultS (a b c : Nat) : Int := if lvl a b c 3 ≤ angs (lvl a b c 3) a b c 3 then 1 else if 60 < lvl a b c 3 then 4 else 0

theorem lcm_le {a b : Nat} (ha : 0 < a) (hb : 0 < b) : Nat.lcm a b ≤ a * b := Nat.le_of_dvd (Nat.mul_pos ha hb) (Nat.lcm_dvd (Nat.dvd_mul_right a b) (Nat.dvd_mul_left b a))
theorem lcz_bd {l m n : Nat} (hl : 0 < l) (hm : Lim m) (hn : l ≤ n) : 0 < lcz l m ∧ lcz l m ≤ n * 12 := by
  unfold lcz
  by_cases h : m = 0
  · rw [if_pos h]; omega
  · rw [if_neg h]
    have h1 : 0 < m := by omega
    have h2 : m ≤ 12 := by rcases hm with h3 | h3 <;> omega
    refine ⟨Nat.lcm_pos hl h1, Nat.le_trans (lcm_le hl h1) (Nat.mul_le_mul hn h2)⟩
theorem lvl_bd {a b c : Nat} (ha : Lim a) (hb : Lim b) (hc : Lim c) (k : Nat) : 0 < lvl a b c k ∧ lvl a b c k ≤ 1728 := by
  have h1 := lcz_bd (l := 1) (n := 1) (by omega) ha (by omega)
  have h2 := lcz_bd (n := 12) h1.1 hb (by omega)
  have h3 := lcz_bd (n := 144) h2.1 hc (by omega)
  rcases k with _ | _ | _ | k <;> simp only [lvl] <;> omega

/-- one order more -/
theorem multiple_lim (l m : Nat) (w : World) (hl : 0 < l) (hl2 : l ≤ 1728) (hm : Lim m) (h0 : m ≠ 0) :
    Calls Try.prog 113 #[.int .i64 l, .int .i64 m] w fun e w' => e = .returned (.int .i64 ((lcz l m : Nat) : Int)) ∧ w = w' := by
  have hm2 : m ≤ 12 := by rcases hm with h3 | h3 <;> omega
  have h1 := lcm_le hl (show 0 < m by omega)
  have h2 : l * m ≤ 1728 * 12 := Nat.mul_le_mul hl2 hm2
  unfold lcz
  rw [if_neg h0]
  exact multiple_any l m w hl (by omega) (by omega)

set_option maxRecDepth 100000 in
set_option maxHeartbeats 2000000 in
theorem fault_any (a b c : Nat) (ha : Lim a) (hb : Lim b) (hc : Lim c) (w : World) :
    Calls Try.prog 94 #[.agg #[.int .i64 a, .int .i64 b, .int .i64 c]] w fun e w' => e = .returned (.int .i64 (faultS a b c)) ∧ Below w.heap.size w w' := by
  have i0 : ∀ w, (Instr.index 98 (.agg #[.int .i64 (a : Int), .int .i64 (b : Int), .int .i64 (c : Int)]) (.int .i64 0)).run Try.prog w = .ok (.int .i64 a) w := fun _ => by kernel_rfl
  have i1 : ∀ w, (Instr.index 98 (.agg #[.int .i64 (a : Int), .int .i64 (b : Int), .int .i64 (c : Int)]) (.int .i64 1)).run Try.prog w = .ok (.int .i64 b) w := fun _ => by kernel_rfl
  have i2 : ∀ w, (Instr.index 98 (.agg #[.int .i64 (a : Int), .int .i64 (b : Int), .int .i64 (c : Int)]) (.int .i64 2)).run Try.prog w = .ok (.int .i64 c) w := fun _ => by kernel_rfl
  have hl := lvl_bd ha hb hc
  have HL := Lib.hid hl
  have HLM := Lib.hid (And.intro ha (And.intro hb hc))
  clear hl
  have a1 : a ≤ 12 := by rcases ha with h | h <;> omega
  have b1 : b ≤ 12 := by rcases hb with h | h <;> omega
  have c1 : c ≤ 12 := by rcases hc with h | h <;> omega
  have a2 : a ≠ 1 := by rcases ha with h | h <;> omega
  have b2 : b ≠ 1 := by rcases hb with h | h <;> omega
  have c2 : c ≠ 1 := by rcases hc with h | h <;> omega
  have a3 : ((a : Int) == 1) = false := by simp; omega
  have b3 : ((b : Int) == 1) = false := by simp; omega
  have c3 : ((c : Int) == 1) = false := by simp; omega
  clear ha hb hc a2 b2 c2
  go_enter Try.func94, Try.ntmps94
  go_wp2_with fail
  go_loop [4, 18] (fun v i => ∃ k : Nat, k ≤ 3 ∧ i = .int .i64 (k : Int) ∧ v = .int .i64 ((lvl a b c k : Nat) : Int)) (fun _ i => 3 - (intOf i).toNat)
  case atStart => exact ⟨0, by omega, rfl, rfl⟩
  case round =>
    obtain ⟨k, hk, rfl, rfl⟩ := hrel
    rcases k with _ | _ | _ | k
    · -- order 0
      have hlv : lvl a b c 0 = 1 := rfl
      have hl1 := HL.out 0
      generalize lvl a b c 0 = l at *
      have HP := Lib.hid hlv
      clear hlv
      by_cases h0 : a = 0
      · have hz : ((a : Int) == 0) = true := by simp; omega
        have H0 := Lib.hid h0
        clear h0
        go_wp2_with fail
        go_round
        case measure => simp [intOf]
        case rel => exact ⟨1, by omega, rfl, by rw [HP.out]; simp [lvl, lcz, H0.out]⟩
      · have hz : ((a : Int) == 0) = false := by simp; omega
        have HM := fun W => Lib.hid (multiple_lim l a W hl1.1 hl1.2 HLM.out.1 h0)
        clear h0
        go_wp2_with (go_at_call 113; refine (HM _).out.mono ?_; rintro e w' ⟨rfl, rfl⟩)
        go_round
        case measure => simp [intOf]
        case rel => exact ⟨1, by omega, rfl, by rw [HP.out]; rfl⟩
    · -- order 1
      have hlv : lvl a b c 1 = lcz 1 a := rfl
      have hl1 := HL.out 1
      generalize lvl a b c 1 = l at *
      have HP := Lib.hid hlv
      clear hlv
      by_cases h0 : b = 0
      · have hz : ((b : Int) == 0) = true := by simp; omega
        have H0 := Lib.hid h0
        clear h0
        go_wp2_with fail
        go_round
        case measure => simp [intOf]
        case rel => exact ⟨2, by omega, rfl, by rw [HP.out]; simp [lvl, lcz, H0.out]⟩
      · have hz : ((b : Int) == 0) = false := by simp; omega
        have HM := fun W => Lib.hid (multiple_lim l b W hl1.1 hl1.2 HLM.out.2.1 h0)
        clear h0
        go_wp2_with (go_at_call 113; refine (HM _).out.mono ?_; rintro e w' ⟨rfl, rfl⟩)
        go_round
        case measure => simp [intOf]
        case rel => exact ⟨2, by omega, rfl, by rw [HP.out]; rfl⟩
    · -- order 2
      have hlv : lvl a b c 2 = lcz (lcz 1 a) b := rfl
      have hl1 := HL.out 2
      generalize lvl a b c 2 = l at *
      have HP := Lib.hid hlv
      clear hlv
      by_cases h0 : c = 0
      · have hz : ((c : Int) == 0) = true := by simp; omega
        have H0 := Lib.hid h0
        clear h0
        go_wp2_with fail
        go_round
        case measure => simp [intOf]
        case rel => exact ⟨3, by omega, rfl, by rw [HP.out]; simp [lvl, lcz, H0.out]⟩
      · have hz : ((c : Int) == 0) = false := by simp; omega
        have HM := fun W => Lib.hid (multiple_lim l c W hl1.1 hl1.2 HLM.out.2.2 h0)
        clear h0
        go_wp2_with (go_at_call 113; refine (HM _).out.mono ?_; rintro e w' ⟨rfl, rfl⟩)
        go_round
        case measure => simp [intOf]
        case rel => exact ⟨3, by omega, rfl, by rw [HP.out]; rfl⟩
    · have hk0 : k = 0 := by omega
      subst hk0
      go_wp2_with fail
      have hL := HL.out 3
      have hfin : faultS a b c = if lvl a b c 3 ≤ angs (lvl a b c 3) a b c 3 then 1 else if 60 < lvl a b c 3 then 4 else 0 := rfl
      generalize lvl a b c 3 = L at *
      have HFIN := Lib.hid hfin
      have hL1 := hL.1
      have hL2 := hL.2
      clear hfin hL
      go_loop [7, 38] (fun v i => ∃ k : Nat, k ≤ 3 ∧ i = .int .i64 (k : Int) ∧ v = .int .i64 ((angs L a b c k : Nat) : Int)) (fun _ i => 3 - (intOf i).toNat)
      case atStart => exact ⟨0, by omega, rfl, rfl⟩
      case round =>
        obtain ⟨k, hk, rfl, rfl⟩ := hrel
        rcases k with _ | _ | _ | k
        · by_cases h0 : a = 0
          · have hz : ((a : Int) == 0) = true := by simp; omega
            have hs : angs L a b c 1 = angs L a b c 0 := by simp [angs, ang, h0]
            have HS := Lib.hid hs
            clear h0 hs
            generalize angs L a b c 0 = q at *
            go_wp2_with fail
            go_round
            case measure => simp [intOf]
            case rel => exact ⟨1, by omega, rfl, by rw [HS.out]⟩
          · have hz : ((a : Int) == 0) = false := by simp; omega
            have h1 : 1 ≤ a := by omega
            have h1i : (1 : Int) ≤ (a : Int) := by omega
            have hs : angs L a b c 1 = angs L a b c 0 + L / a := by simp [angs, ang, h0]
            have hq : angs L a b c 0 ≤ 0 * 1728 := by
              have d1 : ∀ m, ang L m ≤ 1728 := fun m => by
                unfold ang
                split
                · omega
                · exact Nat.le_trans (Nat.div_le_self _ _) hL2
              have := d1 a
              have := d1 b
              have := d1 c
              simp only [angs]; omega
            have hd : L / a ≤ 1728 := Nat.le_trans (Nat.div_le_self _ _) hL2
            have hd2 : (L : Int) / (a : Int) ≤ 1728 := by exact_mod_cast hd
            have hd3 : (0 : Int) ≤ (L : Int) / (a : Int) := by exact_mod_cast Nat.zero_le (L / a)
            have HS := Lib.hid hs
            clear h0 hs
            generalize angs L a b c 0 = q at *
            go_wp2_with fail
            go_round
            case measure => simp [intOf]
            case rel => exact ⟨1, by omega, rfl, by rw [HS.out]; simp⟩
        · by_cases h0 : b = 0
          · have hz : ((b : Int) == 0) = true := by simp; omega
            have hs : angs L a b c 2 = angs L a b c 1 := by simp [angs, ang, h0]
            have HS := Lib.hid hs
            clear h0 hs
            generalize angs L a b c 1 = q at *
            go_wp2_with fail
            go_round
            case measure => simp [intOf]
            case rel => exact ⟨2, by omega, rfl, by rw [HS.out]⟩
          · have hz : ((b : Int) == 0) = false := by simp; omega
            have h1 : 1 ≤ b := by omega
            have h1i : (1 : Int) ≤ (b : Int) := by omega
            have hs : angs L a b c 2 = angs L a b c 1 + L / b := by simp [angs, ang, h0]
            have hq : angs L a b c 1 ≤ 1 * 1728 := by
              have d1 : ∀ m, ang L m ≤ 1728 := fun m => by
                unfold ang
                split
                · omega
                · exact Nat.le_trans (Nat.div_le_self _ _) hL2
              have := d1 a
              have := d1 b
              have := d1 c
              simp only [angs]; omega
            have hd : L / b ≤ 1728 := Nat.le_trans (Nat.div_le_self _ _) hL2
            have hd2 : (L : Int) / (b : Int) ≤ 1728 := by exact_mod_cast hd
            have hd3 : (0 : Int) ≤ (L : Int) / (b : Int) := by exact_mod_cast Nat.zero_le (L / b)
            have HS := Lib.hid hs
            clear h0 hs
            generalize angs L a b c 1 = q at *
            go_wp2_with fail
            go_round
            case measure => simp [intOf]
            case rel => exact ⟨2, by omega, rfl, by rw [HS.out]; simp⟩
        · by_cases h0 : c = 0
          · have hz : ((c : Int) == 0) = true := by simp; omega
            have hs : angs L a b c 3 = angs L a b c 2 := by simp [angs, ang, h0]
            have HS := Lib.hid hs
            clear h0 hs
            generalize angs L a b c 2 = q at *
            go_wp2_with fail
            go_round
            case measure => simp [intOf]
            case rel => exact ⟨3, by omega, rfl, by rw [HS.out]⟩
          · have hz : ((c : Int) == 0) = false := by simp; omega
            have h1 : 1 ≤ c := by omega
            have h1i : (1 : Int) ≤ (c : Int) := by omega
            have hs : angs L a b c 3 = angs L a b c 2 + L / c := by simp [angs, ang, h0]
            have hq : angs L a b c 2 ≤ 2 * 1728 := by
              have d1 : ∀ m, ang L m ≤ 1728 := fun m => by
                unfold ang
                split
                · omega
                · exact Nat.le_trans (Nat.div_le_self _ _) hL2
              have := d1 a
              have := d1 b
              have := d1 c
              simp only [angs]; omega
            have hd : L / c ≤ 1728 := Nat.le_trans (Nat.div_le_self _ _) hL2
            have hd2 : (L : Int) / (c : Int) ≤ 1728 := by exact_mod_cast hd
            have hd3 : (0 : Int) ≤ (L : Int) / (c : Int) := by exact_mod_cast Nat.zero_le (L / c)
            have HS := Lib.hid hs
            clear h0 hs
            generalize angs L a b c 2 = q at *
            go_wp2_with fail
            go_round
            case measure => simp [intOf]
            case rel => exact ⟨3, by omega, rfl, by rw [HS.out]; simp⟩
        · have hk0 : k = 0 := by omega
          subst hk0
          generalize angs L a b c 3 = q at *
          have hbel : Below w.heap.size w ((w.alloc (.cells #[.int .i64 (a : Int), .int .i64 (b : Int), .int .i64 (c : Int)] 23)).alloc (.cells #[.int .i64 (a : Int), .int .i64 (b : Int), .int .i64 (c : Int)] 98)) := ((Below.refl _ w).alloc (Nat.le_refl _) _).alloc (by simp) _
          have HB := Lib.hid hbel
          clear hbel
          by_cases h1 : L ≤ q
          · go_wp2_with fail
            go_ret
            exact ⟨by rw [HFIN.out, if_pos h1]; rfl, HB.out⟩
          · by_cases h2 : 60 < L
            · go_wp2_with fail
              go_ret
              exact ⟨by rw [HFIN.out, if_neg h1, if_pos h2]; rfl, HB.out⟩
            · go_wp2_with fail
              go_ret
              exact ⟨by rw [HFIN.out, if_neg h1, if_neg h2]; rfl, HB.out⟩
end Go.Proofs.Ytogchohpnbeldaa
