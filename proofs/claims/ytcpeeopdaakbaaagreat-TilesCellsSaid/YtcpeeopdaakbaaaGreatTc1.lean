/- TilesCounts: the law. -/
import Derived.Test.YtcpeeopdaakbaaaGreatRf6
import Derived.Test.YtcpeeopdaakbaaaGreatSnA
namespace Go.Proofs.YtcpeeopdaakbaaaGreat
open Go.RowKit Go.Shelf Cx Ps

theorem u64_mod (y : Int) : IntKind.wrap .u64 y = y % 18446744073709551616 := rfl
theorem u64_cg (y : Int) : Cg 18446744073709551616 (IntKind.wrap .u64 y) y := ⟨-(y / 18446744073709551616), by rw [u64_mod]; omega⟩
theorem u64_in (y : Int) : 0 ≤ IntKind.wrap .u64 y ∧ IntKind.wrap .u64 y < 18446744073709551616 := by rw [u64_mod]; omega

theorem cntL_take (wr : Int → Int) (P Q : List Int) {n k : Nat} (hk : k ≤ n) : (cntL wr P Q (n + 1)).getD k 0 = (cntL wr P Q (k + 1)).getD k 0 := by
  induction n with
  | zero =>
    obtain rfl : k = 0 := by omega
    rfl
  | succ n ih =>
    rcases Nat.eq_or_lt_of_le hk with h | h
    · rw [h]
    · rw [← ih (by omega)]
      show (cntL wr P Q (n + 1) ++ [_]).getD k 0 = _
      rw [List.getD_eq_getElem?_getD, List.getD_eq_getElem?_getD, List.getElem?_append_left (by rw [cntL_length]; omega)]

/-- the reference's counts, with the program's at their end -/
theorem Counts_ref {a b c : Nat} (hg : Good a b c) (n : Nat) (hn : n ≤ 1000) (w : World) :
    Calls Tryz.prog 20 #[.agg #[.int .i64 a, .int .i64 b, .int .i64 c], .int .i64 n] w fun e w' => ∃ g cap l, e = .returned (.slice (some ⟨g, 0, none⟩) (n + 1) cap) ∧ RowK .u64 w' g 0 l ∧ (l.length = n + 1 ∧ ∀ k, k ≤ n → l.getD k 0 = countS a b c k) ∧ Below w.heap.size w w' := by
  have hin := ordL_in hg
  have hln := numR_len hin.1
  have hld := denR_len hin.1 (ordL a b c).length (Nat.le_refl _)
  refine (Counts_run (a := a) (b := b) (c := c) (numR wrap64 (ordL a b c)) (fun Q => (1 ≤ Q.length ∧ Q.length ≤ 1000) ∧ co Q = R (denR wrap64 (ordL a b c) (ordL a b c).length).length (co (denR wrap64 (ordL a b c) (ordL a b c).length))) ⟨hln.1, by omega⟩ (fun Q h => h.1) n hn w (fun W => (Fraction_ref hg W).mono ?_)).mono ?_
  · rintro e w' ⟨nv, dv, m, rfl, h1, h2, ⟨h3, h4, h5⟩, h6⟩
    rw [List.length_reverse] at h4
    refine ⟨nv, dv, _, rfl, h1, h2, ⟨⟨by rw [List.length_take, List.length_reverse]; omega, by rw [List.length_take, List.length_reverse]; omega⟩, ?_⟩, h6⟩
    rw [trim_co (by rw [List.length_reverse]; exact h4) h5, co_reverse]
  · rintro e w' ⟨g, cap, Q, rfl, h1, ⟨_, h2⟩, h3⟩
    refine ⟨g, cap, _, rfl, h1, ⟨cntL_length _ _ _ _, fun k hk => ?_⟩, h3⟩
    have hs := counts_same (W := 18446744073709551616) (wr := IntKind.wrap .u64) (w6 := wrap64) u64_cg wrap_cg u64_in (by decide) (IntKind.wrap .u64 (-3)) (u64_cg _) a b c k Q h2
    unfold countS
    rw [hs]
    exact (cntL_take _ _ _ hk)

end Go.Proofs.YtcpeeopdaakbaaaGreat
