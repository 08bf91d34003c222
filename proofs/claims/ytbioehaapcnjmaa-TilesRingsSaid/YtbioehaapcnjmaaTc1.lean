/- TilesCounts: the law. -/
import Derived.Test.YtbioehaapcnjmaaRf6
import Derived.Test.YtbioehaapcnjmaaSnA
namespace Go.Proofs.Ytbioehaapcnjmaa
open Go.RowKit Go.Shelf Cx Ps

theorem u64_mod (y : Int) : IntKind.wrap .u64 y = y % 18446744073709551616 := rfl
theorem u64_cg (y : Int) : Cg 18446744073709551616 (IntKind.wrap .u64 y) y := ⟨-(y / 18446744073709551616), by rw [u64_mod]; omega⟩
theorem u64_in (y : Int) : 0 ≤ IntKind.wrap .u64 y ∧ IntKind.wrap .u64 y < 18446744073709551616 := by rw [u64_mod]; omega

theorem cntL_take (wr : Int → Int) (P Q : List Int) {n k : Nat} (hk : k ≤ n) : (cntL wr P Q (n + 1)).getD k 0 = (cntL wr P Q (k + 1)).getD k 0 := by
  induction n with
  | zero =>
    obtain rfl : k = 0 := by omega
    rfl
  | succ n ih =>
    rcases Nat.eq_or_lt_of_le hk with h | h
    · rw [h]
    · rw [← ih (by omega)]
      show (cntL wr P Q (n + 1) ++ [_]).getD k 0 = _
      rw [List.getD_eq_getElem?_getD, List.getD_eq_getElem?_getD, List.getElem?_append_left (by rw [cntL_length]; omega)]

/-- the reference's counts, with the program's at their end -/
theorem Counts_ref {a b c : Nat} (hg : Good a b c) (n : Nat) (hn : n ≤ 1000) (w : World) :
    Calls Try.prog 28 #[.agg #[.int .i64 a, .int .i64 b, .int .i64 c], .int .i64 n] w fun e w' => ∃ g cap l, e = .returned (.slice (some ⟨g, 0, none⟩) (n + 1) cap) ∧ RowK .u64 w' g 0 l ∧ (l.length = n + 1 ∧ ∀ k, k ≤ n → l.getD k 0 = countS a b c k) ∧ Below w.heap.size w w' := by
  have hin := ordL_in hg
  have hln := numR_len hin.1
  have hld := denR_len hin.1 (ordL a b c).length (Nat.le_refl _)
  refine (Counts_run (a := a) (b := b) (c := c) (numR wrap64 (ordL a b c)) (fun Q => (1 ≤ Q.length ∧ Q.length ≤ 1000) ∧ co Q = R (denR wrap64 (ordL a b c) (ordL a b c).length).length (co (denR wrap64 (ordL a b c) (ordL a b c).length))) ⟨hln.1, by omega⟩ (fun Q h => h.1) n hn w (fun W => (Fraction_ref hg W).mono ?_)).mono ?_
  · rintro e w' ⟨nv, dv, m, rfl, h1, h2, ⟨h3, h4, h5⟩, h6⟩
    rw [List.length_reverse] at h4
    refine ⟨nv, dv, _, rfl, h1, h2, ⟨⟨by rw [List.length_take, List.length_reverse]; omega, by rw [List.length_take, List.length_reverse]; omega⟩, ?_⟩, h6⟩
    rw [trim_co (by rw [List.length_reverse]; exact h4) h5, co_reverse]
  · rintro e w' ⟨g, cap, Q, rfl, h1, ⟨_, h2⟩, h3⟩
    refine ⟨g, cap, _, rfl, h1, ⟨cntL_length _ _ _ _, fun k hk => ?_⟩, h3⟩
    have hs := counts_same (W := 18446744073709551616) (wr := IntKind.wrap .u64) (w6 := wrap64) u64_cg wrap_cg u64_in (by decide) (IntKind.wrap .u64 (-3)) (u64_cg _) a b c k Q h2
    unfold countS
    rw [hs]
    exact (cntL_take _ _ _ hk)

set_option maxRecDepth 100000 in
set_option maxHeartbeats 4000000 in
theorem TilesCounts_any (a b c n : Int) (w : World) :
    Calls Try.prog 8 #[.agg #[.int .i64 a, .int .i64 b, .int .i64 c], .int .i64 n] w fun e w' => e = .returned (.bool true) ∧ Below w.heap.size w w' := by
  have HS := Lib.hid saneT_any
  have HR := Lib.hid (fun W => Refused_any a b c n 1000 W)
  have HE := Lib.hid (fun h W => Count_err a b c n h W)
  have HZero : Hid (faultT a b c n 1000 = 0 → allowedS a b c = 0 ∧ 0 ≤ n ∧ n ≤ 1000) := Lib.hid (fun h => by
    unfold faultT at h
    by_cases h0 : allowedS a b c = 0
    · rw [if_pos h0] at h
      by_cases h1 : n < 0
      · rw [if_pos h1] at h; cases h
      · rw [if_neg h1] at h
        by_cases h2 : 1000 < n
        · rw [if_pos h2] at h; cases h
        · exact ⟨h0, by omega, by omega⟩
    · rw [if_neg h0] at h; exact absurd h h0)
  generalize faultT a b c n 1000 = er at *
  have HK := Lib.hid (SBlk.new w 23 [.int .i64 a, .int .i64 b, .int .i64 c])
  have HZ := Lib.hid ((Below.refl w.heap.size w).alloc (Nat.le_refl _) (.cells #[.int .i64 a, .int .i64 b, .int .i64 c] 23))
  go_enter Try.func8, Try.ntmps8
  go_wp2_with fail
  refine (HR.out _).mono ?_
  rintro e W1 ⟨rfl, hb⟩
  have hk := kept3 HK.out hb
  replace HK := Lib.hid hk.1
  have x0 := hk.2.1
  have x1 := hk.2.2.1
  have x2 := hk.2.2.2
  clear hk
  replace HZ := Lib.hid (HZ.out.trans (hb.mono HZ.out.size))
  clear hb HR
  rcases Decidable.em (¬ er = 0) with her | her
  · have her2 : (er != 0) = true := by simpa using her
    replace HE := Lib.hid (HE.out her)
    clear her HZero
    go_wp2_with fail
    refine (HE.out _).mono ?_
    rintro e W2 ⟨rfl, hb⟩
    replace HZ := Lib.hid (HZ.out.trans (hb.mono HZ.out.size))
    clear hb x0 x1 x2
    go_wp2_with fail
    refine (HS.out _).mono ?_
    rintro e YE ⟨rfl, hb⟩
    replace HZ := Lib.hid (HZ.out.trans (hb.mono HZ.out.size))
    clear hb
    go_wp2_with fail
    go_ret
    exact ⟨rfl, HZ.out⟩
  clear HE
  obtain ⟨h1, h2, h3⟩ := HZero.out (Decidable.of_not_not her)
  clear HZero
  have her := Decidable.of_not_not her
  subst her
  obtain ⟨hg, ea, eb, ec⟩ := allowed_good h1
  clear h1
  generalize a.toNat = a' at *
  generalize b.toNat = b' at *
  generalize c.toNat = c' at *
  obtain ⟨n', rfl⟩ : ∃ k : Nat, n = (k : Int) := ⟨n.toNat, by omega⟩
  subst ea eb ec
  have HC := Lib.hid (And.intro (fun W => Count_ok hg n' (by omega) W) (fun W => Counts_ref hg n' (by omega) W))
  clear hg h2 h3
  generalize countS a' b' c' = cS at *
  go_wp2_with fail
  refine (HC.out.1 _).mono ?_
  rintro e W2 ⟨rfl, hb⟩
  have hk := kept3 HK.out hb
  replace HK := Lib.hid hk.1
  replace x0 := hk.2.1
  replace x1 := hk.2.2.1
  replace x2 := hk.2.2.2
  clear hk
  replace HZ := Lib.hid (HZ.out.trans (hb.mono HZ.out.size))
  clear hb
  go_wp2_with fail
  refine (HS.out _).mono ?_
  rintro e W3 ⟨rfl, hb⟩
  have hk := kept3 HK.out hb
  replace HK := Lib.hid hk.1
  replace x0 := hk.2.1
  replace x1 := hk.2.2.1
  replace x2 := hk.2.2.2
  clear hk
  replace HZ := Lib.hid (HZ.out.trans (hb.mono HZ.out.size))
  clear hb
  go_wp2_with fail
  refine (HC.out.2 _).mono ?_
  rintro e W4 ⟨g, cap, l, rfl, hr, ⟨hl, hv⟩, hb⟩
  have c0 := hr.cell n' (by omega)
  rw [Nat.zero_add, hv n' (Nat.le_refl _)] at c0
  have hnn : (n' : Int) < (n' : Int) + 1 := by omega
  replace HZ := Lib.hid (HZ.out.trans (hb.mono HZ.out.size))
  clear hb hr hl hv x0 x1 x2
  go_wp2_with fail
  go_ret
  exact ⟨rfl, HZ.out⟩
end Go.Proofs.Ytbioehaapcnjmaa
