/- TilesRings: the law. -/
import Derived.Test.YtbioehaapcnjmaaTr1
namespace Go.Proofs.Ytbioehaapcnjmaa
open Go.RowKit Go.Shelf Cx

theorem ListAt.nonil {w : World} {B : Nat} {v : Value} {l : List ByteArray} (h : ListAt w B v l) : l.length = 0 ∨ ∃ g cap cs, v = .slice (some ⟨g, 0, none⟩) l.length cap ∧ l.length ≤ cs.length ∧ B ≤ g ∧ SBlk w g 9 cs := by
  rcases h with ⟨rfl, _⟩ | ⟨g, cap, ex, h1, h2, h3, h4, h5⟩
  · exact .inl rfl
  · exact .inr ⟨g, cap, _, h2, by rw [List.length_append, cellsT_length]; omega, h1, h5⟩

theorem IsRing_any {a b c : Nat} (hg : Good a b c) (n : Nat) (hn : n ≤ 14) (w : World) (B : Nat) (v : Value) (h : ListAt w B v (cellsW (ringS (Mo a b c) n))) :
    Calls Try.prog 29 #[.agg #[.int .i64 a, .int .i64 b, .int .i64 c], v, .int .i64 n] w fun e w' => e = .returned (.bool true) ∧ Below w.heap.size w w' := by
  have h0 := h
  rcases h with ⟨_, rfl⟩ | ⟨g, cap, ex, _, rfl, _, _, h5⟩
  · exact IsRing_nil a b c n w
  · rw [cellsW_length]
    refine IsRing_some hg n hn g cap w (fun W hW i hi => ?_)
    have h6 := h5.below hW h5.lt
    rw [h6.cell, List.getElem?_append_left (by rw [cellsT_length, cellsW_length]; exact hi), cellsT_get (by rw [cellsW_length]; exact hi)]

set_option maxRecDepth 100000 in
set_option maxHeartbeats 8000000 in
theorem TilesRings_any (a b c n : Int) (w : World) :
    Calls Try.prog 7 #[.agg #[.int .i64 a, .int .i64 b, .int .i64 c], .int .i64 n] w fun e w' => e = .returned (.bool true) ∧ Below w.heap.size w w' := by
  have HS := Lib.hid saneT_any
  have HR := Lib.hid (fun W => Refused_any a b c n 14 W)
  have HE := Lib.hid (fun h W => Ring_err a b c n h W)
  have HZero : Hid (faultT a b c n 14 = 0 → allowedS a b c = 0 ∧ 0 ≤ n ∧ n ≤ 14) := Lib.hid (fun h => by
    unfold faultT at h
    by_cases h0 : allowedS a b c = 0
    · rw [if_pos h0] at h
      by_cases h1 : n < 0
      · rw [if_pos h1] at h; cases h
      · rw [if_neg h1] at h
        by_cases h2 : 14 < n
        · rw [if_pos h2] at h; cases h
        · exact ⟨h0, by omega, by omega⟩
    · rw [if_neg h0] at h; exact absurd h h0)
  generalize faultT a b c n 14 = er at *
  have HK := Lib.hid (SBlk.new w 23 [.int .i64 a, .int .i64 b, .int .i64 c])
  have HZ := Lib.hid ((Below.refl w.heap.size w).alloc (Nat.le_refl _) (.cells #[.int .i64 a, .int .i64 b, .int .i64 c] 23))
  go_enter Try.func7, Try.ntmps7
  go_wp2_with fail
  refine (HR.out _).mono ?_
  rintro e W1 ⟨rfl, hb⟩
  have hk := kept3 HK.out hb
  replace HK := Lib.hid hk.1
  have x0 := hk.2.1
  have x1 := hk.2.2.1
  have x2 := hk.2.2.2
  clear hk
  replace HZ := Lib.hid (HZ.out.trans (hb.mono HZ.out.size))
  clear hb HR
  rcases Decidable.em (¬ er = 0) with her | her
  · have her2 : (er != 0) = true := by simpa using her
    replace HE := Lib.hid (HE.out her)
    clear her HZero
    go_wp2_with fail
    refine (HE.out _).mono ?_
    rintro e W2 ⟨rfl, hb⟩
    replace HZ := Lib.hid (HZ.out.trans (hb.mono HZ.out.size))
    clear hb x0 x1 x2
    go_wp2_with fail
    refine (HS.out _).mono ?_
    rintro e YE ⟨rfl, hb⟩
    replace HZ := Lib.hid (HZ.out.trans (hb.mono HZ.out.size))
    clear hb
    go_wp2_with fail
    go_ret
    exact ⟨rfl, HZ.out⟩
  clear HE
  obtain ⟨h1, h2, h3⟩ := HZero.out (Decidable.of_not_not her)
  clear HZero
  have her := Decidable.of_not_not her
  subst her
  obtain ⟨hg, ea, eb, ec⟩ := allowed_good h1
  clear h1
  generalize a.toNat = a' at *
  generalize b.toNat = b' at *
  generalize c.toNat = c' at *
  obtain ⟨n', rfl⟩ : ∃ k : Nat, n = (k : Int) := ⟨n.toNat, by omega⟩
  subst ea eb ec
  have hca := count_all hg n'
  have hsm := ring_small (Mo a' b' c') (n := n') (by omega)
  obtain ⟨L, hL⟩ : ∃ L, cellsW (ringS (Mo a' b' c') n') = L := ⟨_, rfl⟩
  obtain ⟨N, hN⟩ : ∃ N, (ringS (Mo a' b' c') n').length = N := ⟨_, rfl⟩
  have hLN : L.length = N := by rw [← hL, cellsW_length, hN]
  rw [hN] at hca hsm
  have hring : ∀ W, Calls Try.prog 26 #[.agg #[.int .i64 a', .int .i64 b', .int .i64 c'], .int .i64 n'] W fun e w' => ∃ p cap, e = .returned (.tuple #[.slice p N cap, .int .i64 0]) ∧ ListAt w' W.heap.size (.slice p N cap) L ∧ Below W.heap.size W w' := fun W => by
    have h := Ring_ok hg n' (by omega) W
    rw [hL] at h
    refine h.mono ?_
    rintro e w' ⟨v, rfl, h1, h2⟩
    obtain ⟨p, cap, rfl⟩ := h1.slice
    rw [hLN] at h1 ⊢
    exact ⟨p, cap, rfl, h1, h2⟩
  have hisr : ∀ W B v, ListAt W B v L → Calls Try.prog 29 #[.agg #[.int .i64 a', .int .i64 b', .int .i64 c'], v, .int .i64 n'] W fun e w' => e = .returned (.bool true) ∧ Below W.heap.size W w' := fun W B v h => by
    rw [← hL] at h
    exact IsRing_any hg n' (by omega) W B v h
  have hcnt : ∀ W, Calls Try.prog 28 #[.agg #[.int .i64 a', .int .i64 b', .int .i64 c'], .int .i64 n'] W fun e w' => ∃ g cap, e = .returned (.slice (some ⟨g, 0, none⟩) (n' + 1) cap) ∧ w'.cell? ⟨g, n', none⟩ = some (.int .u64 (IntKind.wrap .u64 (N : Int))) ∧ Below W.heap.size W w' := fun W => by
    refine (Counts_ref hg n' (by omega) W).mono ?_
    rintro e w' ⟨g, cap, l, rfl, hr, ⟨hl, hv⟩, hb⟩
    have c0 := hr.cell n' (by omega)
    rw [Nat.zero_add, hv n' (Nat.le_refl _), hca] at c0
    exact ⟨g, cap, rfl, c0, hb⟩
  have HRg := Lib.hid hring
  have HIs := Lib.hid hisr
  have HCn := Lib.hid hcnt
  have HLN := Lib.hid (And.intro hLN hsm)
  clear hring hisr hcnt hLN hsm hN hL hca hg h2 h3
  have HB0 := Lib.hid HK.out.lt
  go_wp2_with fail
  refine (HRg.out _).mono ?_
  rintro e W2 ⟨p, cap, rfl, hl, hb⟩
  have hk := kept3 HK.out hb
  replace HK := Lib.hid hk.1
  replace x0 := hk.2.1
  replace x1 := hk.2.2.1
  replace x2 := hk.2.2.2
  clear hk
  replace HZ := Lib.hid (HZ.out.trans (hb.mono HZ.out.size))
  have HL := Lib.hid hl
  have hgo : N = 0 ∨ ∃ g cs, p = some ⟨g, 0, none⟩ ∧ N ≤ cs.length ∧ w.heap.size < g ∧ SBlk W2 g 9 cs := by
    rcases hl.nonil with h | ⟨g, cap', cs, h1, h2, h3, h4⟩
    · left; rw [← HLN.out.1]; exact h
    · right
      injection h1 with h5
      exact ⟨g, cs, h5, by rw [← HLN.out.1]; exact h2, by have := HB0.out; omega, h4⟩
  have HGO := Lib.hid hgo
  clear hb hl hgo
  go_wp2_with fail
  refine (HCn.out _).mono ?_
  rintro e W3 ⟨g2, cap2, rfl, c0, hb⟩
  have hk := kept3 HK.out hb
  replace HK := Lib.hid hk.1
  replace x0 := hk.2.1
  replace x1 := hk.2.2.1
  replace x2 := hk.2.2.2
  clear hk
  replace HZ := Lib.hid (HZ.out.trans (hb.mono HZ.out.size))
  have hgo := HGO.out
  have hgo2 : N = 0 ∨ ∃ g cs, p = some ⟨g, 0, none⟩ ∧ N ≤ cs.length ∧ w.heap.size < g ∧ SBlk W3 g 9 cs := by
    rcases hgo with h | ⟨g, cs, h1, h2, h3, h4⟩
    · exact .inl h
    · exact .inr ⟨g, cs, h1, h2, h3, h4.below hb h4.lt⟩
  replace HGO := Lib.hid hgo2
  clear hgo hgo2
  replace HL := Lib.hid (HL.out.below hb)
  have hnn : (n' : Int) < (n' : Int) + 1 := by omega
  clear hb
  go_wp2_with fail
  refine (HIs.out _ _ _ HL.out).mono ?_
  rintro e W4 ⟨rfl, hb⟩
  have hk := kept3 HK.out hb
  replace HK := Lib.hid hk.1
  replace x0 := hk.2.1
  replace x1 := hk.2.2.1
  replace x2 := hk.2.2.2
  clear hk
  replace HZ := Lib.hid (HZ.out.trans (hb.mono HZ.out.size))
  have hgo := HGO.out
  have hgo2 : N = 0 ∨ ∃ g cs, p = some ⟨g, 0, none⟩ ∧ N ≤ cs.length ∧ w.heap.size < g ∧ SBlk W4 g 9 cs := by
    rcases hgo with h | ⟨g, cs, h1, h2, h3, h4⟩
    · exact .inl h
    · exact .inr ⟨g, cs, h1, h2, h3, h4.below hb h4.lt⟩
  replace HGO := Lib.hid hgo2
  clear hgo hgo2
  clear hb c0 hnn HL HCn
  have H0 := Lib.hid (And.intro HK.out (And.intro HZ.out HGO.out))
  clear HK HZ HGO x0 x1 x2
  go_wp2_with fail
  go_loopg [8] N (fun g s8 wi => ∃ k : Nat, k ≤ N ∧ g = N - k ∧ s8 = .int .i64 (k : Int) ∧ Hid (SBlk wi w.heap.size 23 [.int .i64 a', .int .i64 b', .int .i64 c'] ∧ Below w.heap.size w wi ∧ (N = 0 ∨ ∃ g cs, p = some ⟨g, 0, none⟩ ∧ N ≤ cs.length ∧ w.heap.size < g ∧ SBlk wi g 9 cs)))
  case atStart => exact ⟨0, Nat.zero_le _, rfl, rfl, H0⟩
  case round =>
    clear H0
    obtain ⟨k, hk, rfl, rfl, HI⟩ := hrel
    by_cases hlt : k < N
    · have hki : (k : Int) < (N : Int) := by omega
      have hwk : IntKind.i64.wrap ((k : Int) + 1) = (k : Int) + 1 := IntWalk.i64_in _ (by have := HLN.out.2; omega)
      obtain ⟨h1, h2, h3⟩ := HI.out
      rcases h3 with h0 | ⟨g, cs, rfl, hcs, hgt, hs⟩
      · omega
      have c1 := hs.cell k
      rw [List.getElem?_eq_getElem (by omega)] at c1
      have f1 := hs.frozen k
      obtain ⟨u, hu⟩ : ∃ u, cs[k] = u := ⟨_, rfl⟩
      rw [hu] at c1
      have HH := Lib.hid (And.intro h1 (And.intro h2 (And.intro hcs (And.intro hgt hs))))
      clear h1 h2 hcs hgt hs hu HI
      go_wp2_with fail
      go_roundg (N - (k + 1))
      case measure => omega
      case rel =>
        obtain ⟨h1, h2, h3, h4, h5⟩ := HH.out
        refine ⟨k + 1, by omega, rfl, by simp, Lib.hid ⟨h1.far (by show w.heap.size ≠ g; omega) _, h2.setCell (p := ⟨g, k, none⟩) (by show w.heap.size ≤ g; omega) _, .inr ⟨g, _, rfl, by rw [List.length_set]; exact h3, h4, h5.set k _⟩⟩⟩
    · obtain rfl : N = k := by omega
      have HK := Lib.hid HI.out.1
      have HZ := Lib.hid HI.out.2.1
      have x0 := HK.out.cell 0
      have x1 := HK.out.cell 1
      have x2 := HK.out.cell 2
      simp only [List.getElem?_cons_zero, List.getElem?_cons_succ] at x0 x1 x2
      clear HI
      go_wp2_with fail
      refine (HRg.out _).mono ?_
      rintro e W5 ⟨p2, cap3, rfl, hl, hb⟩
      have hk := kept3 HK.out hb
      replace HK := Lib.hid hk.1
      replace x0 := hk.2.1
      replace x1 := hk.2.2.1
      replace x2 := hk.2.2.2
      clear hk
      replace HZ := Lib.hid (HZ.out.trans (hb.mono HZ.out.size))
      have HL := Lib.hid hl
      clear hb hl
      go_wp2_with fail
      refine (HS.out _).mono ?_
      rintro e W6 ⟨rfl, hb⟩
      have hk := kept3 HK.out hb
      replace HK := Lib.hid hk.1
      replace x0 := hk.2.1
      replace x1 := hk.2.2.1
      replace x2 := hk.2.2.2
      clear hk
      replace HZ := Lib.hid (HZ.out.trans (hb.mono HZ.out.size))
      replace HL := Lib.hid (HL.out.below hb)
      clear hb
      go_wp2_with fail
      refine (HIs.out _ _ _ HL.out).mono ?_
      rintro e W7 ⟨rfl, hb⟩
      replace HZ := Lib.hid (HZ.out.trans (hb.mono HZ.out.size))
      clear hb x0 x1 x2
      go_wp2_with fail
      go_ret
      exact ⟨rfl, HZ.out⟩
end Go.Proofs.Ytbioehaapcnjmaa
