/- First and Around, where a corner is refused and where it is not. -/
import Derived.Test.YtbioehaapcnjmaaGreatCor5
import Derived.Test.YtbioehaapcnjmaaGreatCor3
namespace Go.Proofs.YtbioehaapcnjmaaGreat
open Go.RowKit Go.Shelf Cx

theorem given_errA (a b c : Int) (s : ByteArray) (m : Int) (hs : s.size ≤ 9223372036854775807) (he : askS a b c s m ≠ 0) (w : World) :
    Calls Tryz.prog 17 #[.agg #[.int .i64 a, .int .i64 b, .int .i64 c], .string s, .int .i64 m] w fun e w' => e = .returned (.tuple #[.agg #[.int .i64 0, .int .i64 0, .int .i64 0, .string ⟨#[]⟩, .int .i64 0], .string ⟨#[]⟩, .int .i64 (askS a b c s m)]) ∧ Below w.heap.size w w' := by
  by_cases h1 : errorsS a b c [s] = 0
  · obtain ⟨hal, hch⟩ := errorsS_zero h1
    obtain ⟨hg, ea, eb, ec⟩ := allowed_good hal
    have hcs := hch s (by simp)
    unfold askS at he ⊢
    rw [if_pos h1] at he ⊢
    generalize a.toNat = a' at *
    generalize b.toNat = b' at *
    generalize c.toNat = c' at *
    subst ea eb ec
    by_cases hm : m < 0 ∨ 2 < m
    · rw [if_pos hm]
      exact given_err2 a' b' c' s _ m hm (fun W => Normal_ok a' b' c' s hg hcs W) w
    · rw [if_neg hm] at he ⊢
      obtain ⟨m', rfl⟩ : ∃ k : Nat, m = (k : Int) := ⟨m.toNat, by omega⟩
      rw [Int.toNat_natCast] at he ⊢
      by_cases ho : ordC a' b' c' m' = 0
      · rw [if_pos ho]
        exact given_err3 a' b' c' s _ m' (by omega) ho (fun W => Normal_ok a' b' c' s hg hcs W) w
      · rw [if_neg ho] at he
        exact absurd rfl he
  · have e : askS a b c s m = errorsS a b c [s] := by unfold askS; rw [if_neg h1]
    rw [e]
    exact given_err1 a b c s m _ h1 (fun W => Normal_err a b c s (fun x hx => by rw [List.mem_singleton.1 hx]; exact hs) h1 W) w

set_option maxRecDepth 100000 in
set_option maxHeartbeats 1000000 in
theorem First_err (a b c : Int) (s : ByteArray) (m : Int) (hs : s.size ≤ 9223372036854775807) (he : askS a b c s m ≠ 0) (w : World) :
    Calls Tryz.prog 6 #[.agg #[.int .i64 a, .int .i64 b, .int .i64 c], .string s, .int .i64 m] w fun e w' => e = .returned (.tuple #[.string ⟨#[]⟩, .int .i64 (askS a b c s m)]) ∧ Below w.heap.size w w' := by
  have HG := Lib.hid (fun W => given_errA a b c s m hs he W)
  generalize askS a b c s m = k at *
  have hk : (k != 0) = true := by simpa using he
  clear he hs
  go_enter Tryz.func6, Tryz.ntmps6
  go_wp2_with fail
  refine (HG.out _).mono ?_
  rintro e w1 ⟨rfl, hb1⟩
  have hb := below_a1 hb1
  have HB1 := Lib.hid (hb.alloc hb.size (.cells #[.int .i64 0, .int .i64 0, .int .i64 0, .string ⟨#[]⟩, .int .i64 0] 50))
  clear hb1 hb
  go_wp2_with fail
  go_ret2
  exact ⟨rfl, HB1.out⟩

set_option maxRecDepth 100000 in
set_option maxHeartbeats 1000000 in
theorem Around_err (a b c : Int) (s : ByteArray) (m : Int) (hs : s.size ≤ 9223372036854775807) (he : askS a b c s m ≠ 0) (w : World) :
    Calls Tryz.prog 7 #[.agg #[.int .i64 a, .int .i64 b, .int .i64 c], .string s, .int .i64 m] w fun e w' => e = .returned (.tuple #[.slice none 0 0, .int .i64 (askS a b c s m)]) ∧ Below w.heap.size w w' := by
  have HG := Lib.hid (fun W => given_errA a b c s m hs he W)
  generalize askS a b c s m = k at *
  have hk : (k != 0) = true := by simpa using he
  clear he hs
  go_enter Tryz.func7, Tryz.ntmps7
  go_wp2_with fail
  refine (HG.out _).mono ?_
  rintro e w1 ⟨rfl, hb1⟩
  have hb := below_a1 hb1
  have HB1 := Lib.hid (hb.alloc hb.size (.cells #[.int .i64 0, .int .i64 0, .int .i64 0, .string ⟨#[]⟩, .int .i64 0] 50))
  clear hb1 hb
  go_wp2_with fail
  go_ret2
  exact ⟨rfl, HB1.out⟩

set_option maxRecDepth 100000 in
set_option maxHeartbeats 2000000 in
theorem First_ok {a b c m : Nat} (hg : Good a b c) (hm : m < 3) (h0 : ordC a b c m ≠ 0) (s : ByteArray) (hs : checkS s = 0) (w : World) :
    Calls Tryz.prog 6 #[.agg #[.int .i64 a, .int .i64 b, .int .i64 c], .string s, .int .i64 m] w fun e w' => ∃ f : G (Mo a b c), e = .returned (.tuple #[.string (tile f), .int .i64 0]) ∧ (Foot (Mo a b c) (sideA m) (sideB m) (elW a b c s) f ∧ Low f ∧ ln f ≤ 60) ∧ Below w.heap.size w w' := by
  have hx := elW_low (a := a) (b := b) (c := c) hs
  have hl := elW_len (a := a) (b := b) (c := c) hs
  have HG := Lib.hid (fun W => given_okT hg hm h0 s hs W)
  have HF := Lib.hid (fun W => first_ok hg hm _ hx hl W)
  have HL := Lib.hid hl
  unfold cornV at HG HF
  generalize str [sideA m, sideB m] = SD at *
  generalize ordC a b c m = o at *
  clear hx hl h0
  go_enter Tryz.func6, Tryz.ntmps6
  go_wp2_with fail
  refine (HG.out _).mono ?_
  rintro e w1 ⟨rfl, hb1⟩
  have hb := below_a1 hb1
  have q := SBlk.new w1 50 [.int .i64 a, .int .i64 b, .int .i64 c, .string SD, .int .i64 o]
  have z0 := q.cell 0
  have z1 := q.cell 1
  have z2 := q.cell 2
  have z3 := q.cell 3
  have z4 := q.cell 4
  simp only [List.getElem?_cons_zero, List.getElem?_cons_succ] at z0 z1 z2 z3 z4
  have HB1 := Lib.hid (hb.alloc hb.size (.cells #[.int .i64 a, .int .i64 b, .int .i64 c, .string SD, .int .i64 o] 50))
  clear hb1 hb q
  go_wp2_with fail
  refine (HF.out _).mono ?_
  rintro e w2 ⟨f, rfl, ⟨g1, g2, g3⟩, hb2⟩
  have HB2 := Lib.hid (And.intro (And.intro g1 (And.intro g2 (Nat.le_trans g3 HL.out))) (HB1.out.trans (hb2.mono HB1.out.size)))
  clear g1 g2 g3 hb2 z0 z1 z2 z3 z4
  go_wp2_with fail
  go_ret2
  exact ⟨f, rfl, HB2.out⟩

/-- Around answers the tiles around the corner from its first one on -/
theorem Around_foot {a b c m : Nat} (hg : Good a b c) (hm : m < 3) (h0 : ordC a b c m ≠ 0) (s : ByteArray) (hs : checkS s = 0) (f : G (Mo a b c)) (hf : Foot (Mo a b c) (sideA m) (sideB m) (elW a b c s) f) (w : World) :
    Calls Tryz.prog 7 #[.agg #[.int .i64 a, .int .i64 b, .int .i64 c], .string s, .int .i64 m] w fun e w' => ∃ tb, e = .returned (.tuple #[.slice (some ⟨tb, 0, none⟩) (2 * ordC a b c m) (2 * ordC a b c m), .int .i64 0]) ∧
      SBlk w' tb 9 (cellsT ((List.range (2 * ordC a b c m)).map (ringT m f))) ∧ Below w.heap.size w w' := by
  refine (Around_ok hg hm h0 s hs w).mono ?_
  rintro e w' ⟨tb, g, rfl, ⟨h1, _, _⟩, h2, _, h3⟩
  have e : g = f := foot_same (Mo_ords hg.la hg.lb hg.lc) (side_ne hm) (by rw [← ordC_eq a b c hm]; exact h0) hf h1 (w := []) (fun _ hz => by cases hz) (mul_one _).symm
  subst e
  exact ⟨tb, rfl, h2, h3⟩
end Go.Proofs.YtbioehaapcnjmaaGreat
