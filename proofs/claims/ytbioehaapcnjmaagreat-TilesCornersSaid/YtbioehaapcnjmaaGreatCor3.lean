/- The reference's Around. -/
import Derived.Test.YtbioehaapcnjmaaGreatCor2
namespace Go.Proofs.YtbioehaapcnjmaaGreat
open Go.RowKit Go.Shelf Cx

/-- the shortest word around a corner is the first tile -/
theorem best_foot {a b c m : Nat} (hg : Good a b c) (hm : m < 3) (h0 : ordC a b c m ≠ 0) {x f : G (Mo a b c)} (hf : Foot (Mo a b c) (sideA m) (sideB m) x f) {j : Nat} (hj : ∀ i, i < 2 * ordC a b c m → (ringT m x j).size ≤ (ringT m x i).size) : ringT m x j = tile f := by
  have hM := Mo_ords hg.la hg.lb hg.lc
  have h0' : Mo a b c (sideA m) (sideB m) ≠ 0 := by rw [← ordC_eq a b c hm]; exact h0
  obtain ⟨i, hi, he⟩ := foot_circle hM h0' hf
  rw [← ordC_eq a b c hm] at hi
  have h1 := hj i hi
  have e1 : ∀ k, (ringT m x k).size = ln (x * mk (alt (sideA m) (sideB m) k)) := fun k => str_size _
  rw [e1, e1, ← he] at h1
  obtain ⟨n1, n2⟩ := foot_near hM (side_ne hm) h0' hf (two_alt (sideA m) (sideB m) j).1 (y := x * mk (alt (sideA m) (sideB m) j)) rfl
  show tile (x * mk (alt (sideA m) (sideB m) j)) = tile f
  rw [n2 (by omega)]

set_option maxRecDepth 100000 in
set_option maxHeartbeats 4000000 in
theorem Around_R {a b c m : Nat} (hg : Good a b c) (hm : m < 3) (h0 : ordC a b c m ≠ 0) (l : List Nat) (hl : ∀ y ∈ l, y < 3) (hs : l.length ≤ 1000) (f : G (Mo a b c)) (hf : Foot (Mo a b c) (sideA m) (sideB m) (mk l) f) (hlf : Low f) (hfs : ln f ≤ 1000) (w : World) :
    Calls Tryz.prog 9 #[.agg #[.int .i64 a, .int .i64 b, .int .i64 c], .string (str l), .int .i64 m] w fun e w' => ∃ v, e = .returned v ∧ ListAt w' w.heap.size v ((List.range (2 * ordC a b c m)).map (ringT m f)) ∧ Below w.heap.size w w' := by
  have HC1 := Lib.hid (fun W => circle_R hg hm l hl hs W)
  have hc2 := fun W => circle_R hg hm (nf f) hlf hfs W
  rw [mk_nf] at hc2
  have HC2 := Lib.hid hc2
  have HBest := Lib.hid (fun j hj => best_foot hg hm h0 hf (j := j) hj)
  have hord : ordC a b c m ≤ 12 := by
    rw [ordC_eq a b c hm]
    have := Mo_lim hg.1 hg.2 hg.3 (sideA m) (sideB m)
    rcases this with h | h <;> omega
  have ht : tile f = str (nf f) := rfl
  rw [ht] at HBest
  generalize str (nf f) = TF at *
  generalize str l = S at *
  generalize ringT m (mk l : G (Mo a b c)) = F at *
  generalize ringT m f = F2 at *
  obtain ⟨o, ho⟩ : ∃ o, ordC a b c m = o := ⟨_, rfl⟩
  rw [ho] at HC1 HC2 HBest h0 hord ⊢
  have HS := Lib.hid (And.intro h0 hord)
  have HB := Lib.hid (And.intro (SBlk.new w 23 [.int .i64 a, .int .i64 b, .int .i64 c]) ((Below.refl w.heap.size w).alloc (Nat.le_refl _) (.cells #[.int .i64 a, .int .i64 b, .int .i64 c] 23)))
  clear hc2 hg hl hs hf hlf hfs hord ho ht h0
  go_enter Tryz.func9, Tryz.ntmps9
  go_wp2_with fail
  refine (HC1.out _).mono ?_
  rintro e W1 ⟨v, rfl, hl1, hb⟩
  have hk := kept3 HB.out.1 hb
  have H1 := Lib.hid (And.intro hk.1 (HB.out.2.trans (hb.mono HB.out.2.size)))
  have hrow : ∃ g cap, v = .slice (some ⟨g, 0, none⟩) (2 * o) cap ∧ ∀ i, i < 2 * o → W1.cell? ⟨g, i, none⟩ = some (.string (F i)) := by
    rcases hl1 with ⟨h, _⟩ | ⟨g, cap, ex, h1, h2, h3, h4, h5⟩
    · have : (List.map F (List.range (2 * o))).length = 0 := by rw [h]; rfl
      have := HS.out.1
      simp at *
      omega
    · refine ⟨g, cap, by rw [h2]; simp, fun i hi => ?_⟩
      rw [h5.cell, List.getElem?_append_left (by rw [cellsT_length]; simp; exact hi), cellsT_get (by simp; exact hi)]
      simp [List.getD_eq_getElem?_getD, List.getElem?_range hi]
  obtain ⟨g, cap, rfl, hrow⟩ := hrow
  have HR := Lib.hid hrow
  have c0 := hrow 0 (by have := HS.out.1; omega)
  have x0 := hk.2.1
  have x1 := hk.2.2.1
  have x2 := hk.2.2.2
  clear hk hb hl1 hrow HB HC1
  have h02 : (0 : Int) < 2 * (o : Int) := by have := HS.out.1; omega
  have h03 : 0 < 2 * o := by have := HS.out.1; omega
  go_wp2_with fail
  go_loopg [8, 9] (2 * o) (fun g s8 s9 wr => ∃ i j : Nat, i ≤ 2 * o ∧ g = 2 * o - i ∧ s9 = .int .i64 (i : Int) ∧ s8 = .string (F j) ∧ Hid (∀ k, k < i → (F j).size ≤ (F k).size) ∧ W1 = wr)
  case atStart => exact ⟨0, 0, Nat.zero_le _, rfl, rfl, rfl, Lib.hid (fun k hk => by omega), rfl⟩
  case round =>
    obtain ⟨i, j, hi, rfl, rfl, rfl, HI, rfl⟩ := hrel
    clear c0
    by_cases hlt : i < 2 * o
    · have hi2 : (i : Int) < 2 * (o : Int) := by omega
      have c1 := HR.out i hlt
      have hwi : IntKind.i64.wrap ((i : Int) + 1) = (i : Int) + 1 := IntWalk.i64_in _ (by have := HS.out.2; omega)
      by_cases hsz : (F i).size < (F j).size
      · have hz2 : ((F i).size : Int) < ((F j).size : Int) := by omega
        have HZ := Lib.hid hsz
        go_wp2_with fail
        go_roundg (2 * o - (i + 1))
        case measure => omega
        case rel =>
          refine ⟨i + 1, i, by omega, rfl, by simp, rfl, Lib.hid (fun k hk => ?_), rfl⟩
          rcases Nat.lt_or_ge k i with h | h
          · exact Nat.le_trans (Nat.le_of_lt HZ.out) (HI.out k h)
          · obtain rfl : k = i := by omega
            exact Nat.le_refl _
      · have HZ := Lib.hid hsz
        go_wp2_with fail
        go_roundg (2 * o - (i + 1))
        case measure => omega
        case rel =>
          refine ⟨i + 1, j, by omega, rfl, by simp, rfl, Lib.hid (fun k hk => ?_), rfl⟩
          rcases Nat.lt_or_ge k i with h | h
          · exact HI.out k h
          · obtain rfl : k = i := by omega
            have := HZ.out
            omega
    · obtain rfl : 2 * o = i := by omega
      have e := HBest.out j (fun k hk => HI.out k hk)
      rw [e]
      clear e HBest HI
      go_wp2_with fail
      refine (HC2.out _).mono ?_
      rintro e W2 ⟨v, rfl, hl2, hb⟩
      have H2 := Lib.hid (And.intro (hl2.lower H1.out.2.size) (H1.out.2.trans (hb.mono H1.out.2.size)))
      clear hl2 hb x0 x1 x2
      go_wp2_with fail
      go_ret
      exact ⟨_, rfl, H2.out⟩
end Go.Proofs.YtbioehaapcnjmaaGreat
