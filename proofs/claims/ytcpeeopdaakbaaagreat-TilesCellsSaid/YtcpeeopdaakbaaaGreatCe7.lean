/- TilesCells: the law. -/
import Derived.Test.YtcpeeopdaakbaaaGreatCeB
import Derived.Test.YtcpeeopdaakbaaaGreatTc1
import Derived.Test.YtcpeeopdaakbaaaGreatSnA
namespace Go.Proofs.YtcpeeopdaakbaaaGreat
set_option linter.unusedVariables false
set_option linter.unusedSimpArgs false
set_option linter.unusedSectionVars false
open Go.RowKit Go.Shelf Cx

theorem u64_in2 {x : Int} (h : 0 ≤ x ∧ x < 18446744073709551616) : IntKind.u64.wrap x = x := by rw [u64_mod]; omega

theorem kept3T {W W' : World} {b : Nat} {Y : TypeId} {x y z : Value} (h : SBlk W b Y [x, y, z]) (hb : Below W.heap.size W W') : SBlk W' b Y [x, y, z] ∧ W'.cell? ⟨b, 0, none⟩ = some x ∧ W'.cell? ⟨b, 1, none⟩ = some y ∧ W'.cell? ⟨b, 2, none⟩ = some z := by
  have h2 := h.below hb h.lt
  have h3 := h2.cell 0
  have h4 := h2.cell 1
  have h5 := h2.cell 2
  simp only [List.getElem?_cons_zero, List.getElem?_cons_succ] at h3 h4 h5
  exact ⟨h2, h3, h4, h5⟩

/-- what the law asks of the numbers -/
structure CellF (a b c n C E T : Nat) : Prop where
  ok : ∀ W, Calls Tryz.prog 19 #[.agg #[.int .i64 a, .int .i64 b, .int .i64 c], .int .i64 n] W fun e w' => e = .returned (.tuple #[.int .i64 C, .int .i64 E, .int .i64 T, .int .i64 0]) ∧ Below W.heap.size W w'
  of : ∀ W, Calls Tryz.prog 21 #[.agg #[.int .i64 a, .int .i64 b, .int .i64 c], .int .i64 n] W fun e w' => e = .returned (.agg #[.int .i64 C, .int .i64 E, .int .i64 T]) ∧ Below W.heap.size W w'
  disc : a ≠ 0 → b ≠ 0 → c ≠ 0 → C + T = E + 1
  sm : C ≤ 300000000 ∧ E ≤ 300000000 ∧ T ≤ 100000000
  cnt : ∀ W, Calls Tryz.prog 20 #[.agg #[.int .i64 a, .int .i64 b, .int .i64 c], .int .i64 n] W fun e w' => ∃ g cap l, e = .returned (.slice (some ⟨g, 0, none⟩) (n + 1) cap) ∧ RowK .u64 w' g 0 l ∧ l.length = n + 1 ∧ (∀ k, k ≤ n → l.getD k 0 = (((tilesTo (Mo a b c) (k + 1)).length : Int) - ((tilesTo (Mo a b c) k).length : Int))) ∧ Below W.heap.size W w'
  sum : (tilesTo (Mo a b c) (n + 1)).length = T
  mono : ∀ k, k ≤ n + 1 → (tilesTo (Mo a b c) k).length ≤ T

theorem tiles_more (M : Nat → Nat → Nat) : ∀ (d k : Nat), (tilesTo M k).length ≤ (tilesTo M (k + d)).length
  | 0, _ => Nat.le_refl _
  | d + 1, k => by
    have := tiles_more M d k
    rw [show k + (d + 1) = (k + d) + 1 by omega, tilesTo_succ, List.length_append]
    omega
theorem cellF {a b c : Nat} (hg : Good a b c) (n : Nat) (hn : n ≤ 14) : CellF a b c n (cS a b c (tilesTo (Mo a b c) (n + 1))) (eS a b c (tilesTo (Mo a b c) (n + 1))) (tilesTo (Mo a b c) (n + 1)).length where
  ok := fun W => by
    have h := Cells_ok hg n hn W
    rw [kS_count hg] at h
    exact h
  of := fun W => CellsOf_R hg n hn W
  disc := fun ha hb hc => by
    have h := disc_one hg ha hb hc n
    rwa [kS_count hg] at h
  sm := by
    have h1 := tilesTo_length (Mo a b c) (n + 1) (by omega)
    have h2 := cS_le (a := a) (b := b) (c := c) (tilesTo (Mo a b c) (n + 1))
    have h3 := eS_le a b c (tilesTo (Mo a b c) (n + 1))
    have h4 : 5000000 * (n + 1) ≤ 75000000 := by omega
    omega
  cnt := fun W => by
    refine (Counts_ref hg n (by omega) W).mono ?_
    rintro e w' ⟨g, cap, l, rfl, hr, ⟨hl, hv⟩, hb⟩
    refine ⟨g, cap, l, rfl, hr, hl, fun k hk => ?_, hb⟩
    rw [hv k hk, count_all hg, tilesTo_succ, List.length_append]
    have h1 := tilesTo_length (Mo a b c) (k + 1) (by omega)
    rw [tilesTo_succ, List.length_append] at h1
    have h4 : 5000000 * (k + 1) ≤ 75000000 := by omega
    rw [u64_in2 (by omega)]
    omega
  sum := rfl
  mono := fun k hk => by
    have := tiles_more (Mo a b c) (n + 1 - k) k
    rwa [show k + (n + 1 - k) = n + 1 by omega] at this

set_option maxRecDepth 100000 in
set_option maxHeartbeats 8000000 in
theorem TilesCells_any (a b c n : Int) (w : World) :
    Calls Tryz.prog 4 #[.agg #[.int .i64 a, .int .i64 b, .int .i64 c], .int .i64 n] w fun e w' => e = .returned (.bool true) ∧ Below w.heap.size w w' := by
  have HS := Lib.hid saneT_any
  have HR := Lib.hid (fun W => Refused_any a b c n 14 W)
  have HE := Lib.hid (fun h W => Cells_err a b c n h W)
  have HZero : Hid (faultT a b c n 14 = 0 → allowedS a b c = 0 ∧ 0 ≤ n ∧ n ≤ 14) := Lib.hid (fun h => by
    unfold faultT at h
    by_cases h0 : allowedS a b c = 0
    · rw [if_pos h0] at h
      by_cases h1 : n < 0
      · rw [if_pos h1] at h; cases h
      · rw [if_neg h1] at h
        by_cases h2 : 14 < n
        · rw [if_pos h2] at h; cases h
        · exact ⟨h0, by omega, by omega⟩
    · rw [if_neg h0] at h; exact absurd h h0)
  generalize faultT a b c n 14 = er at *
  have HK := Lib.hid (SBlk.new w 23 [.int .i64 a, .int .i64 b, .int .i64 c])
  have HZ := Lib.hid ((Below.refl w.heap.size w).alloc (Nat.le_refl _) (.cells #[.int .i64 a, .int .i64 b, .int .i64 c] 23))
  go_enter Tryz.func4, Tryz.ntmps4
  go_wp2_with fail
  refine (HR.out _).mono ?_
  rintro e W1 ⟨rfl, hb⟩
  have hk := kept3 HK.out hb
  replace HK := Lib.hid hk.1
  have x0 := hk.2.1
  have x1 := hk.2.2.1
  have x2 := hk.2.2.2
  clear hk
  replace HZ := Lib.hid (HZ.out.trans (hb.mono HZ.out.size))
  clear hb HR
  rcases Decidable.em (¬ er = 0) with her | her
  · have her2 : (er != 0) = true := by simpa using her
    replace HE := Lib.hid (HE.out her)
    clear her HZero
    go_wp2_with fail
    refine (HE.out _).mono ?_
    rintro e W2 ⟨rfl, hb⟩
    replace HZ := Lib.hid (HZ.out.trans (hb.mono HZ.out.size))
    clear hb x0 x1 x2
    go_wp2_with fail
    refine (HS.out _).mono ?_
    rintro e YE ⟨rfl, hb⟩
    replace HZ := Lib.hid (HZ.out.trans (hb.mono HZ.out.size))
    clear hb
    go_wp2_with fail
    go_ret
    exact ⟨rfl, HZ.out⟩
  clear HE
  obtain ⟨h1, h2, h3⟩ := HZero.out (Decidable.of_not_not her)
  clear HZero
  have her := Decidable.of_not_not her
  subst her
  obtain ⟨hg, ea, eb, ec⟩ := allowed_good h1
  clear h1
  generalize a.toNat = a' at *
  generalize b.toNat = b' at *
  generalize c.toNat = c' at *
  obtain ⟨n', rfl⟩ : ∃ k : Nat, n = (k : Int) := ⟨n.toNat, by omega⟩
  subst ea eb ec
  have HC := Lib.hid (cellF hg n' (by omega))
  have hn14 : n' ≤ 14 := by omega
  clear hg h2 h3
  generalize cS a' b' c' (tilesTo (Mo a' b' c') (n' + 1)) = C at *
  generalize eS a' b' c' (tilesTo (Mo a' b' c') (n' + 1)) = E at *
  obtain ⟨T, hT⟩ : ∃ T, (tilesTo (Mo a' b' c') (n' + 1)).length = T := ⟨_, rfl⟩
  rw [hT] at HC
  clear hT
  go_wp2_with fail
  refine (HC.out.ok _).mono ?_
  rintro e W2 ⟨rfl, hb⟩
  have hk := kept3 HK.out hb
  replace HK := Lib.hid hk.1
  replace x0 := hk.2.1
  replace x1 := hk.2.2.1
  replace x2 := hk.2.2.2
  clear hk
  replace HZ := Lib.hid (HZ.out.trans (hb.mono HZ.out.size))
  clear hb
  go_wp2_with fail
  refine (HC.out.cnt _).mono ?_
  rintro e W3 ⟨g, cap, l, rfl, hr, hl, hv, hb⟩
  have hk := kept3 HK.out hb
  replace HK := Lib.hid hk.1
  replace x0 := hk.2.1
  replace x1 := hk.2.2.1
  replace x2 := hk.2.2.2
  clear hk
  replace HZ := Lib.hid (HZ.out.trans (hb.mono HZ.out.size))
  have HL := Lib.hid (And.intro hr (And.intro hl hv))
  clear hb hr hl hv
  go_wp2_with fail
  go_loopw [10, 12] (fun s10 s12 wr => ∃ i : Nat, i ≤ n' + 1 ∧ s12 = .int .i64 (i : Int) ∧ s10 = .int .u64 ((tilesTo (Mo a' b' c') i).length : Int) ∧ wr = W3) (fun _ s12 _ => n' + 1 - (intOf s12).toNat)
  case atStart => exact ⟨0, Nat.zero_le _, rfl, rfl, rfl⟩
  case round =>
    obtain ⟨i, hi, rfl, rfl, rfl⟩ := hrel
    by_cases hlt : i < n' + 1
    · have hlti : (i : Int) < (n' : Int) + 1 := by omega
      have c0 := HL.out.1.cell i (by rw [HL.out.2.1]; exact hlt)
      rw [Nat.zero_add, HL.out.2.2 i (by omega)] at c0
      have hm := HC.out.mono (i + 1) (by omega)
      have hs := HC.out.sm
      have hw : IntKind.u64.wrap (((tilesTo (Mo a' b' c') i).length : Int) + (((tilesTo (Mo a' b' c') (i + 1)).length : Int) - ((tilesTo (Mo a' b' c') i).length : Int))) = ((tilesTo (Mo a' b' c') (i + 1)).length : Int) := by
        rw [show ((tilesTo (Mo a' b' c') i).length : Int) + (((tilesTo (Mo a' b' c') (i + 1)).length : Int) - ((tilesTo (Mo a' b' c') i).length : Int)) = ((tilesTo (Mo a' b' c') (i + 1)).length : Int) by omega]
        exact u64_in2 (by omega)
      have hwi : IntKind.i64.wrap ((i : Int) + 1) = (i : Int) + 1 := IntWalk.i64_in _ (by omega)
      clear hm hs
      generalize ((tilesTo (Mo a' b' c') i).length : Int) = A at *
      generalize hB : ((tilesTo (Mo a' b' c') (i + 1)).length : Int) = B at *
      have HB := Lib.hid hB
      clear hB
      go_wp2_with fail
      go_roundw
      case measure => show n' + 1 - ((i : Int) + 1).toNat < n' + 1 - (i : Int).toNat; omega
      case rel => exact ⟨i + 1, by omega, by simp, by rw [HB.out], trivial⟩
    · obtain rfl : i = n' + 1 := by omega
      have hs := HC.out.sum
      have hsm := HC.out.sm
      have hltf : decide (((n' + 1 : Nat) : Int) < (n' : Int) + 1) = false := by simp
      rw [hs]
      have hu : IntKind.u64.wrap (T : Int) = T := u64_in2 (by omega)
      have hut : (((T : Int)) != (T : Int)) = false := by simp
      clear hs
      have hz2 := HC.out.disc
      have hwd : IntKind.i64.wrap ((C : Int) - (E : Int)) = (C : Int) - (E : Int) := IntWalk.i64_in _ (by omega)
      have hwt : IntKind.i64.wrap ((C : Int) - (E : Int) + (T : Int)) = (C : Int) - (E : Int) + (T : Int) := IntWalk.i64_in _ (by omega)
      have key : Hid (a' ≠ 0 → b' ≠ 0 → c' ≠ 0 → (C : Int) - (E : Int) + (T : Int) = 1) := Lib.hid (fun h1 h2 h3 => by have := hz2 h1 h2 h3; omega)
      clear hz2 hsm HL
      by_cases ha : a' = 0
      · have ha1 : ((a' : Int) != 0) = false := by simp [ha]
        clear hwd hwt ha
        go_wp2_with fail
        refine (HC.out.of _).mono ?_
        rintro e W4 ⟨rfl, hb⟩
        replace HZ := Lib.hid (HZ.out.trans (hb.mono HZ.out.size))
        have q := SBlk.new W4 42 [.int .i64 C, .int .i64 E, .int .i64 T]
        have hb4 := (Below.refl W4.heap.size W4).alloc (Nat.le_refl _) (.cells #[.int .i64 C, .int .i64 E, .int .i64 T] 42)
        replace HZ := Lib.hid (HZ.out.trans (hb4.mono HZ.out.size))
        have HQ := Lib.hid q
        clear hb x0 x1 x2 q hb4
        go_wp2_with fail
        refine (HS.out _).mono ?_
        rintro e W5 ⟨rfl, hb⟩
        have hk := kept3T HQ.out hb
        have y0 := hk.2.1
        have y1 := hk.2.2.1
        have y2 := hk.2.2.2
        replace HZ := Lib.hid (HZ.out.trans (hb.mono HZ.out.size))
        clear hb hk
        go_wp2_with fail
        go_ret
        exact ⟨by simp, HZ.out⟩
      · have ha1 : ((a' : Int) != 0) = true := by simp [ha]
        by_cases hb' : b' = 0
        · have hb1 : ((b' : Int) != 0) = false := by simp [hb']
          clear hwd hwt ha hb'
          go_wp2_with fail
          refine (HC.out.of _).mono ?_
          rintro e W4 ⟨rfl, hb⟩
          replace HZ := Lib.hid (HZ.out.trans (hb.mono HZ.out.size))
          have q := SBlk.new W4 42 [.int .i64 C, .int .i64 E, .int .i64 T]
          have hb4 := (Below.refl W4.heap.size W4).alloc (Nat.le_refl _) (.cells #[.int .i64 C, .int .i64 E, .int .i64 T] 42)
          replace HZ := Lib.hid (HZ.out.trans (hb4.mono HZ.out.size))
          have HQ := Lib.hid q
          clear hb x0 x1 x2 q hb4
          go_wp2_with fail
          refine (HS.out _).mono ?_
          rintro e W5 ⟨rfl, hb⟩
          have hk := kept3T HQ.out hb
          have y0 := hk.2.1
          have y1 := hk.2.2.1
          have y2 := hk.2.2.2
          replace HZ := Lib.hid (HZ.out.trans (hb.mono HZ.out.size))
          clear hb hk
          go_wp2_with fail
          go_ret
          exact ⟨by simp, HZ.out⟩
        · have hb1 : ((b' : Int) != 0) = true := by simp [hb']
          by_cases hc' : c' = 0
          · have hc1 : ((c' : Int) != 0) = false := by simp [hc']
            clear hwd hwt ha hb' hc'
            go_wp2_with fail
            refine (HC.out.of _).mono ?_
            rintro e W4 ⟨rfl, hb⟩
            replace HZ := Lib.hid (HZ.out.trans (hb.mono HZ.out.size))
            have q := SBlk.new W4 42 [.int .i64 C, .int .i64 E, .int .i64 T]
            have hb4 := (Below.refl W4.heap.size W4).alloc (Nat.le_refl _) (.cells #[.int .i64 C, .int .i64 E, .int .i64 T] 42)
            replace HZ := Lib.hid (HZ.out.trans (hb4.mono HZ.out.size))
            have HQ := Lib.hid q
            clear hb x0 x1 x2 q hb4
            go_wp2_with fail
            refine (HS.out _).mono ?_
            rintro e W5 ⟨rfl, hb⟩
            have hk := kept3T HQ.out hb
            have y0 := hk.2.1
            have y1 := hk.2.2.1
            have y2 := hk.2.2.2
            replace HZ := Lib.hid (HZ.out.trans (hb.mono HZ.out.size))
            clear hb hk
            go_wp2_with fail
            go_ret
            exact ⟨by simp, HZ.out⟩
          · have hc1 : ((c' : Int) != 0) = true := by simp [hc']
            have h1 := key.out ha hb' hc'
            rw [h1] at hwt
            have hwt1 : IntKind.i64.wrap 1 = 1 := by decide
            clear ha hb' hc'
            go_wp2_with fail
            refine (HC.out.of _).mono ?_
            rintro e W4 ⟨rfl, hb⟩
            replace HZ := Lib.hid (HZ.out.trans (hb.mono HZ.out.size))
            have q := SBlk.new W4 42 [.int .i64 C, .int .i64 E, .int .i64 T]
            have hb4 := (Below.refl W4.heap.size W4).alloc (Nat.le_refl _) (.cells #[.int .i64 C, .int .i64 E, .int .i64 T] 42)
            replace HZ := Lib.hid (HZ.out.trans (hb4.mono HZ.out.size))
            have HQ := Lib.hid q
            clear hb x0 x1 x2 q hb4
            go_wp2_with fail
            refine (HS.out _).mono ?_
            rintro e W5 ⟨rfl, hb⟩
            have hk := kept3T HQ.out hb
            have y0 := hk.2.1
            have y1 := hk.2.2.1
            have y2 := hk.2.2.2
            replace HZ := Lib.hid (HZ.out.trans (hb.mono HZ.out.size))
            clear hb hk
            go_wp2_with fail
            go_ret
            exact ⟨by simp, HZ.out⟩
end Go.Proofs.YtcpeeopdaakbaaaGreat
