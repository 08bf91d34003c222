/- A corner that is asked for: what the program answers where it is refused. -/
import Derived.Test.YtbioehaapcnjmaaGreatCor4
namespace Go.Proofs.YtbioehaapcnjmaaGreat
open Go.RowKit Go.Shelf Cx

set_option maxRecDepth 100000 in
set_option maxHeartbeats 4000000 in
theorem given_err1 (a b c : Int) (s : ByteArray) (m k : Int) (hk : k ≠ 0)
    (hN : ∀ W, Calls Tryz.prog 35 #[.agg #[.int .i64 a, .int .i64 b, .int .i64 c], .string s] W fun e w' => e = .returned (.tuple #[.string ⟨#[]⟩, .int .i64 k]) ∧ Below W.heap.size W w') (w : World) :
    Calls Tryz.prog 17 #[.agg #[.int .i64 a, .int .i64 b, .int .i64 c], .string s, .int .i64 m] w fun e w' => e = .returned (.tuple #[.agg #[.int .i64 0, .int .i64 0, .int .i64 0, .string ⟨#[]⟩, .int .i64 0], .string ⟨#[]⟩, .int .i64 k]) ∧ Below w.heap.size w w' := by
  have HN := Lib.hid hN
  have hk2 : (k != 0) = true := by simpa using hk
  clear hN hk
  have hb0 := ((Below.refl w.heap.size w).alloc (Nat.le_refl _) (.cells #[.int .i64 a, .int .i64 b, .int .i64 c] 23)).alloc (by simp) (.cells #[.int .i64 0, .int .i64 0, .int .i64 0, .string ⟨#[]⟩, .int .i64 0] 50)
  have q0 := (SBlk.new w 23 [.int .i64 a, .int .i64 b, .int .i64 c]).alloc (.cells #[.int .i64 0, .int .i64 0, .int .i64 0, .string ⟨#[]⟩, .int .i64 0] 50)
  have q1 := SBlk.new' (w.alloc (.cells #[.int .i64 a, .int .i64 b, .int .i64 c] 23)) 50 [.int .i64 0, .int .i64 0, .int .i64 0, .string ⟨#[]⟩, .int .i64 0] (w.heap.size + 1) (by simp)
  have HB0 := Lib.hid (And.intro hb0 (And.intro q0 q1))
  clear hb0 q0 q1
  go_enter Tryz.func17, Tryz.ntmps17
  go_wp2_with fail
  refine (HN.out _).mono ?_
  rintro e w1 ⟨rfl, hb1⟩
  have q1 := HB0.out.2.2.below hb1 HB0.out.2.2.lt
  have H1 := Lib.hid (And.intro (HB0.out.1.trans (hb1.mono HB0.out.1.size)) q1)
  have z0 := q1.cell 0
  have z1 := q1.cell 1
  have z2 := q1.cell 2
  have z3 := q1.cell 3
  have z4 := q1.cell 4
  have f0 := q1.frozen 0
  have f1 := q1.frozen 1
  have f2 := q1.frozen 2
  have f3 := q1.frozen 3
  have f4 := q1.frozen 4
  simp only [List.getElem?_cons_zero, List.getElem?_cons_succ] at z0 z1 z2 z3 z4
  clear q1 hb1 HB0
  go_wp2_with fail
  (try simp only [Exit.inBlock, Exit.then])
  have hq := H1.out
  clear z0 z1 z2 z3 z4 f0 f1 f2 f3 f4
  have qf := ((((hq.2.set 0 (.int .i64 0)).set 1 (.int .i64 0)).set 2 (.int .i64 0)).set 3 (.string ⟨#[]⟩)).set 4 (.int .i64 0)
  have bf := ((((hq.1.setCell (p := ⟨w.heap.size + 1, 0, none⟩) (by simp) (.int .i64 0)).setCell (p := ⟨w.heap.size + 1, 1, none⟩) (by simp) (.int .i64 0)).setCell (p := ⟨w.heap.size + 1, 2, none⟩) (by simp) (.int .i64 0)).setCell (p := ⟨w.heap.size + 1, 3, none⟩) (by simp) (.string ⟨#[]⟩)).setCell (p := ⟨w.heap.size + 1, 4, none⟩) (by simp) (.int .i64 0)
  have z0 := qf.cell 0
  have z1 := qf.cell 1
  have z2 := qf.cell 2
  have z3 := qf.cell 3
  have z4 := qf.cell 4
  simp only [List.set_cons_zero, List.set_cons_succ, List.getElem?_cons_zero, List.getElem?_cons_succ] at z0 z1 z2 z3 z4
  refine bodyPost_ret (v := .tuple #[.agg #[.int .i64 0, .int .i64 0, .int .i64 0, .string ⟨#[]⟩, .int .i64 0], .string ⟨#[]⟩, .int .i64 k]) ?_ rfl ⟨rfl, bf⟩
  simp [results, Tryz.results17, go_sem, z0, z1, z2, z3, z4]

set_option maxRecDepth 100000 in
set_option maxHeartbeats 4000000 in
theorem given_err2 (a b c : Int) (s T : ByteArray) (m : Int) (hm : m < 0 ∨ 2 < m)
    (hN : ∀ W, Calls Tryz.prog 35 #[.agg #[.int .i64 a, .int .i64 b, .int .i64 c], .string s] W fun e w' => e = .returned (.tuple #[.string T, .int .i64 0]) ∧ Below W.heap.size W w') (w : World) :
    Calls Tryz.prog 17 #[.agg #[.int .i64 a, .int .i64 b, .int .i64 c], .string s, .int .i64 m] w fun e w' => e = .returned (.tuple #[.agg #[.int .i64 0, .int .i64 0, .int .i64 0, .string ⟨#[]⟩, .int .i64 0], .string ⟨#[]⟩, .int .i64 1]) ∧ Below w.heap.size w w' := by
  have HN := Lib.hid hN
  clear hN
  have hb0 := ((Below.refl w.heap.size w).alloc (Nat.le_refl _) (.cells #[.int .i64 a, .int .i64 b, .int .i64 c] 23)).alloc (by simp) (.cells #[.int .i64 0, .int .i64 0, .int .i64 0, .string ⟨#[]⟩, .int .i64 0] 50)
  have q0 := (SBlk.new w 23 [.int .i64 a, .int .i64 b, .int .i64 c]).alloc (.cells #[.int .i64 0, .int .i64 0, .int .i64 0, .string ⟨#[]⟩, .int .i64 0] 50)
  have q1 := SBlk.new' (w.alloc (.cells #[.int .i64 a, .int .i64 b, .int .i64 c] 23)) 50 [.int .i64 0, .int .i64 0, .int .i64 0, .string ⟨#[]⟩, .int .i64 0] (w.heap.size + 1) (by simp)
  have HB0 := Lib.hid (And.intro hb0 (And.intro q0 q1))
  clear hb0 q0 q1
  go_enter Tryz.func17, Tryz.ntmps17
  go_wp2_with fail
  refine (HN.out _).mono ?_
  rintro e w1 ⟨rfl, hb1⟩
  have q1 := HB0.out.2.2.below hb1 HB0.out.2.2.lt
  have H1 := Lib.hid (And.intro (HB0.out.1.trans (hb1.mono HB0.out.1.size)) q1)
  have z0 := q1.cell 0
  have z1 := q1.cell 1
  have z2 := q1.cell 2
  have z3 := q1.cell 3
  have z4 := q1.cell 4
  have f0 := q1.frozen 0
  have f1 := q1.frozen 1
  have f2 := q1.frozen 2
  have f3 := q1.frozen 3
  have f4 := q1.frozen 4
  simp only [List.getElem?_cons_zero, List.getElem?_cons_succ] at z0 z1 z2 z3 z4
  clear q1 hb1 HB0
  have hcase : m < 0 ∨ decide (m < 0) = false ∧ 2 < m := by
    rcases Decidable.em (m < 0) with h | h
    · exact .inl h
    · exact .inr ⟨decide_eq_false h, by omega⟩
  clear hm
  rcases hcase with hm | ⟨hm, hm2⟩
  · go_wp2_with fail
    (try simp only [Exit.inBlock, Exit.then])
    have hq := H1.out
    clear z0 z1 z2 z3 z4 f0 f1 f2 f3 f4
    have qf := ((((hq.2.set 0 (.int .i64 0)).set 1 (.int .i64 0)).set 2 (.int .i64 0)).set 3 (.string ⟨#[]⟩)).set 4 (.int .i64 0)
    have bf := ((((hq.1.setCell (p := ⟨w.heap.size + 1, 0, none⟩) (by simp) (.int .i64 0)).setCell (p := ⟨w.heap.size + 1, 1, none⟩) (by simp) (.int .i64 0)).setCell (p := ⟨w.heap.size + 1, 2, none⟩) (by simp) (.int .i64 0)).setCell (p := ⟨w.heap.size + 1, 3, none⟩) (by simp) (.string ⟨#[]⟩)).setCell (p := ⟨w.heap.size + 1, 4, none⟩) (by simp) (.int .i64 0)
    have z0 := qf.cell 0
    have z1 := qf.cell 1
    have z2 := qf.cell 2
    have z3 := qf.cell 3
    have z4 := qf.cell 4
    simp only [List.set_cons_zero, List.set_cons_succ, List.getElem?_cons_zero, List.getElem?_cons_succ] at z0 z1 z2 z3 z4
    refine bodyPost_ret (v := .tuple #[.agg #[.int .i64 0, .int .i64 0, .int .i64 0, .string ⟨#[]⟩, .int .i64 0], .string ⟨#[]⟩, .int .i64 1]) ?_ rfl ⟨rfl, bf⟩
    simp [results, Tryz.results17, go_sem, z0, z1, z2, z3, z4]
  · go_wp2_with fail
    (try simp only [Exit.inBlock, Exit.then])
    have hq := H1.out
    clear z0 z1 z2 z3 z4 f0 f1 f2 f3 f4
    have qf := ((((hq.2.set 0 (.int .i64 0)).set 1 (.int .i64 0)).set 2 (.int .i64 0)).set 3 (.string ⟨#[]⟩)).set 4 (.int .i64 0)
    have bf := ((((hq.1.setCell (p := ⟨w.heap.size + 1, 0, none⟩) (by simp) (.int .i64 0)).setCell (p := ⟨w.heap.size + 1, 1, none⟩) (by simp) (.int .i64 0)).setCell (p := ⟨w.heap.size + 1, 2, none⟩) (by simp) (.int .i64 0)).setCell (p := ⟨w.heap.size + 1, 3, none⟩) (by simp) (.string ⟨#[]⟩)).setCell (p := ⟨w.heap.size + 1, 4, none⟩) (by simp) (.int .i64 0)
    have z0 := qf.cell 0
    have z1 := qf.cell 1
    have z2 := qf.cell 2
    have z3 := qf.cell 3
    have z4 := qf.cell 4
    simp only [List.set_cons_zero, List.set_cons_succ, List.getElem?_cons_zero, List.getElem?_cons_succ] at z0 z1 z2 z3 z4
    refine bodyPost_ret (v := .tuple #[.agg #[.int .i64 0, .int .i64 0, .int .i64 0, .string ⟨#[]⟩, .int .i64 0], .string ⟨#[]⟩, .int .i64 1]) ?_ rfl ⟨rfl, bf⟩
    simp [results, Tryz.results17, go_sem, z0, z1, z2, z3, z4]

set_option maxRecDepth 100000 in
set_option maxHeartbeats 4000000 in
theorem given_err3 (a b c : Nat) (s T : ByteArray) (m : Nat) (hm : m < 3) (h0 : ordC a b c m = 0)
    (hN : ∀ W, Calls Tryz.prog 35 #[.agg #[.int .i64 a, .int .i64 b, .int .i64 c], .string s] W fun e w' => e = .returned (.tuple #[.string T, .int .i64 0]) ∧ Below W.heap.size W w') (w : World) :
    Calls Tryz.prog 17 #[.agg #[.int .i64 a, .int .i64 b, .int .i64 c], .string s, .int .i64 m] w fun e w' => e = .returned (.tuple #[.agg #[.int .i64 0, .int .i64 0, .int .i64 0, .string ⟨#[]⟩, .int .i64 0], .string ⟨#[]⟩, .int .i64 4]) ∧ Below w.heap.size w w' := by
  have HN := Lib.hid hN
  have HC := Lib.hid (fun W => corner_ok a b c m hm W)
  unfold cornV at HC
  rw [h0] at HC
  generalize str [sideA m, sideB m] = SD at *
  have hm0 : ¬ ((m : Int) < 0) := by omega
  have hm2 : ¬ (2 < (m : Int)) := by omega
  have hm3 : ¬ (2 < m) := by omega
  clear hN hm h0
  have hb0 := ((Below.refl w.heap.size w).alloc (Nat.le_refl _) (.cells #[.int .i64 a, .int .i64 b, .int .i64 c] 23)).alloc (by simp) (.cells #[.int .i64 0, .int .i64 0, .int .i64 0, .string ⟨#[]⟩, .int .i64 0] 50)
  have q0 := (SBlk.new w 23 [.int .i64 a, .int .i64 b, .int .i64 c]).alloc (.cells #[.int .i64 0, .int .i64 0, .int .i64 0, .string ⟨#[]⟩, .int .i64 0] 50)
  have q1 := SBlk.new' (w.alloc (.cells #[.int .i64 a, .int .i64 b, .int .i64 c] 23)) 50 [.int .i64 0, .int .i64 0, .int .i64 0, .string ⟨#[]⟩, .int .i64 0] (w.heap.size + 1) (by simp)
  have HB0 := Lib.hid (And.intro hb0 (And.intro q0 q1))
  clear hb0 q0 q1
  go_enter Tryz.func17, Tryz.ntmps17
  go_wp2_with fail
  refine (HN.out _).mono ?_
  rintro e w1 ⟨rfl, hb1⟩
  have q0 := HB0.out.2.1.below hb1 HB0.out.2.1.lt
  have q1 := HB0.out.2.2.below hb1 HB0.out.2.2.lt
  have H1 := Lib.hid (And.intro (HB0.out.1.trans (hb1.mono HB0.out.1.size)) q1)
  have k0 := q0.cell 0
  have k1 := q0.cell 1
  have k2 := q0.cell 2
  simp only [List.getElem?_cons_zero, List.getElem?_cons_succ] at k0 k1 k2
  clear q0 q1 hb1 HB0
  go_wp2_with fail
  refine (HC.out _).mono ?_
  rintro e w2 ⟨rfl, hb2⟩
  have q1 := (H1.out.2.below hb2 H1.out.2.lt).alloc (.cells #[.int .i64 a, .int .i64 b, .int .i64 c, .string SD, .int .i64 0] 50)
  have b2 := H1.out.1.trans (hb2.mono H1.out.1.size)
  have H2 := Lib.hid (And.intro (b2.alloc b2.size (.cells #[.int .i64 a, .int .i64 b, .int .i64 c, .string SD, .int .i64 0] 50)) q1)
  have z0 := q1.cell 0
  have z1 := q1.cell 1
  have z2 := q1.cell 2
  have z3 := q1.cell 3
  have z4 := q1.cell 4
  have f0 := q1.frozen 0
  have f1 := q1.frozen 1
  have f2 := q1.frozen 2
  have f3 := q1.frozen 3
  have f4 := q1.frozen 4
  simp only [List.getElem?_cons_zero, List.getElem?_cons_succ] at z0 z1 z2 z3 z4
  clear q1 b2 hb2 k0 k1 k2
  go_wp2_with fail
  (try simp only [Exit.inBlock, Exit.then])
  have hq := H2.out
  clear z0 z1 z2 z3 z4 f0 f1 f2 f3 f4
  have qf := ((((hq.2.set 0 (.int .i64 0)).set 1 (.int .i64 0)).set 2 (.int .i64 0)).set 3 (.string ⟨#[]⟩)).set 4 (.int .i64 0)
  have bf := ((((hq.1.setCell (p := ⟨w.heap.size + 1, 0, none⟩) (by simp) (.int .i64 0)).setCell (p := ⟨w.heap.size + 1, 1, none⟩) (by simp) (.int .i64 0)).setCell (p := ⟨w.heap.size + 1, 2, none⟩) (by simp) (.int .i64 0)).setCell (p := ⟨w.heap.size + 1, 3, none⟩) (by simp) (.string ⟨#[]⟩)).setCell (p := ⟨w.heap.size + 1, 4, none⟩) (by simp) (.int .i64 0)
  have z0 := qf.cell 0
  have z1 := qf.cell 1
  have z2 := qf.cell 2
  have z3 := qf.cell 3
  have z4 := qf.cell 4
  simp only [List.set_cons_zero, List.set_cons_succ, List.getElem?_cons_zero, List.getElem?_cons_succ] at z0 z1 z2 z3 z4
  refine bodyPost_ret (v := .tuple #[.agg #[.int .i64 0, .int .i64 0, .int .i64 0, .string ⟨#[]⟩, .int .i64 0], .string ⟨#[]⟩, .int .i64 4]) ?_ rfl ⟨rfl, bf⟩
  simp [results, Tryz.results17, go_sem, z0, z1, z2, z3, z4]
end Go.Proofs.YtbioehaapcnjmaaGreat
