/- A corner. -/
import Derived.Test.YtcpeeopdaakbaaaGreatWdA
import Derived.StillTailTactics
namespace Go.Proofs.YtcpeeopdaakbaaaGreat
open Go.RowKit Go.Shelf Cx

/-- the two sides of a corner, and its order -/
def sideA (m : Nat) : Nat := if m = 0 then 1 else 0
def sideB (m : Nat) : Nat := if m = 2 then 1 else 2
def ordC (a b c m : Nat) : Nat := if m = 0 then b else if m = 1 then c else a
theorem ordC_eq (a b c : Nat) {m : Nat} (h : m < 3) : ordC a b c m = Mo a b c (sideA m) (sideB m) := by
  have : m = 0 ∨ m = 1 ∨ m = 2 := by omega
  rcases this with rfl | rfl | rfl <;> rfl
/-- a corner as a value -/
def cornV (a b c m : Nat) : Value := .agg #[.int .i64 a, .int .i64 b, .int .i64 c, .string (str [sideA m, sideB m]), .int .i64 (ordC a b c m)]
def cornC (a b c m : Nat) : List Value := [.int .i64 a, .int .i64 b, .int .i64 c, .string (str [sideA m, sideB m]), .int .i64 (ordC a b c m)]

theorem letter_s0 (w : World) : Calls Tryz.prog 154 #[.int .i64 0] w fun e w' => e = .returned (.string ⟨#[0]⟩) ∧ w' = w := (letter_any0 w).mono (by rintro e w' ⟨rfl, rfl⟩; exact ⟨rfl, rfl⟩)
theorem letter_s1 (w : World) : Calls Tryz.prog 154 #[.int .i64 1] w fun e w' => e = .returned (.string ⟨#[1]⟩) ∧ w' = w := (letter_any1 w).mono (by rintro e w' ⟨rfl, rfl⟩; exact ⟨rfl, rfl⟩)
theorem letter_s2 (w : World) : Calls Tryz.prog 154 #[.int .i64 2] w fun e w' => e = .returned (.string ⟨#[2]⟩) ∧ w' = w := (letter_any2 w).mono (by rintro e w' ⟨rfl, rfl⟩; exact ⟨rfl, rfl⟩)

set_option maxRecDepth 100000 in
theorem idx_corner0 (v0 v1 v2 v3 v4 v5 v6 v7 v8 v9 v10 v11 v12 v13 v14 : Value) (W : World) : (Instr.index 215 (.agg #[v0, v1, v2, v3, v4, v5, v6, v7, v8, v9, v10, v11, v12, v13, v14]) (.int .i64 0)).run Tryz.prog W = .ok (.agg #[v0, v1, v2, v3, v4]) W := by kernel_rfl

set_option maxRecDepth 100000 in
theorem idx_corner1 (v0 v1 v2 v3 v4 v5 v6 v7 v8 v9 v10 v11 v12 v13 v14 : Value) (W : World) : (Instr.index 215 (.agg #[v0, v1, v2, v3, v4, v5, v6, v7, v8, v9, v10, v11, v12, v13, v14]) (.int .i64 1)).run Tryz.prog W = .ok (.agg #[v5, v6, v7, v8, v9]) W := by kernel_rfl

set_option maxRecDepth 100000 in
theorem idx_corner2 (v0 v1 v2 v3 v4 v5 v6 v7 v8 v9 v10 v11 v12 v13 v14 : Value) (W : World) : (Instr.index 215 (.agg #[v0, v1, v2, v3, v4, v5, v6, v7, v8, v9, v10, v11, v12, v13, v14]) (.int .i64 2)).run Tryz.prog W = .ok (.agg #[v10, v11, v12, v13, v14]) W := by kernel_rfl

set_option maxRecDepth 100000 in
set_option maxHeartbeats 2000000 in
theorem corner0 (a b c : Nat) (w : World) :
    Calls Tryz.prog 111 #[.agg #[.int .i64 a, .int .i64 b, .int .i64 c], .int .i64 0] w fun e w' => e = .returned (cornV a b c 0) ∧ Below w.heap.size w w' := by
  have q0 := (SBlk.new w 95 [.int .i64 a, .int .i64 b, .int .i64 c]).alloc (.cells #[.int .i64 0, .int .i64 0, .int .i64 0, .string ⟨#[]⟩, .int .i64 0] 97)
  have q1 := SBlk.new' (w.alloc (.cells #[.int .i64 a, .int .i64 b, .int .i64 c] 95)) 97 [.int .i64 0, .int .i64 0, .int .i64 0, .string ⟨#[]⟩, .int .i64 0] (w.heap.size + 1) (by simp)
  have hb := ((Below.refl w.heap.size w).alloc (Nat.le_refl _) (.cells #[.int .i64 a, .int .i64 b, .int .i64 c] 95)).alloc (by simp) (.cells #[.int .i64 0, .int .i64 0, .int .i64 0, .string ⟨#[]⟩, .int .i64 0] 97)
  go_enter Tryz.func111, Tryz.ntmps111
  go_wp2_with fail
  obtain ⟨W0, hW0⟩ : ∃ z, (w.alloc (.cells #[.int .i64 a, .int .i64 b, .int .i64 c] 95)).alloc (.cells #[.int .i64 0, .int .i64 0, .int .i64 0, .string ⟨#[]⟩, .int .i64 0] 97) = z := ⟨_, rfl⟩
  rw [show ([.int .i64 0, .int .i64 0, .int .i64 0, .string ⟨#[]⟩, .int .i64 0] : List Value).toArray = #[.int .i64 0, .int .i64 0, .int .i64 0, .string ⟨#[]⟩, .int .i64 0] from rfl] at q1
  rw [show ([.int .i64 a, .int .i64 b, .int .i64 c] : List Value).toArray = #[.int .i64 a, .int .i64 b, .int .i64 c] from rfl] at q0
  rw [hW0] at q0 q1 hb
  rw [hW0]
  clear hW0
  have k0 := q0.cell 0
  have k1 := q0.cell 1
  have k2 := q0.cell 2
  simp only [List.getElem?_cons_zero, List.getElem?_cons_succ] at k0 k1 k2
  have HQ := Lib.hid (And.intro q1 hb)
  clear q0 q1 hb
  have hix := idx_corner0
  go_still_tail 27, (by kernel_rfl)
  repeat (first | still_step | still_call (letter_s0 _) | still_call (letter_s1 _) | still_call (letter_s2 _))
  try refine wpStill_nil ?_
  change wpList _ _ _ _ _ W0.drew
  clear k0 k1 k2 hix
  have q1 := HQ.out.1.drew
  have hb := HQ.out.2.drew
  generalize W0.drew = W1 at q1 hb ⊢
  have HR := Lib.hid (And.intro q1 hb)
  have z0 := q1.cell 0
  have z1 := q1.cell 1
  have z2 := q1.cell 2
  have z3 := q1.cell 3
  have z4 := q1.cell 4
  have f0 := q1.frozen 0
  have f1 := q1.frozen 1
  have f2 := q1.frozen 2
  have f3 := q1.frozen 3
  have f4 := q1.frozen 4
  simp only [List.getElem?_cons_zero, List.getElem?_cons_succ] at z0 z1 z2 z3 z4
  clear q1 hb HQ
  go_wp2_with fail
  (try simp only [Exit.inBlock, Exit.then])
  have q1 := ((((HR.out.1.set 0 (.int .i64 a)).set 1 (.int .i64 b)).set 2 (.int .i64 c)).set 3 (.string (str [sideA 0, sideB 0]))).set 4 (.int .i64 (ordC a b c 0))
  have hb := (((((HR.out.2).setCell (p := ⟨w.heap.size + 1, 0, none⟩) (by simp) (.int .i64 a)).setCell (p := ⟨w.heap.size + 1, 1, none⟩) (by simp) (.int .i64 b)).setCell (p := ⟨w.heap.size + 1, 2, none⟩) (by simp) (.int .i64 c)).setCell (p := ⟨w.heap.size + 1, 3, none⟩) (by simp) (.string (str [sideA 0, sideB 0]))).setCell (p := ⟨w.heap.size + 1, 4, none⟩) (by simp) (.int .i64 (ordC a b c 0))
  refine bodyPost_ret (results_cell_row (p := 4) (ty := 97) (by kernel_rfl) _ _ (w.heap.size + 1) 97 _ (0, 0) _ rfl q1 Tryz.underlying97 rfl (by kernel_rfl)) rfl ?_
  exact ⟨rfl, hb⟩

set_option maxRecDepth 100000 in
set_option maxHeartbeats 2000000 in
theorem corner1 (a b c : Nat) (w : World) :
    Calls Tryz.prog 111 #[.agg #[.int .i64 a, .int .i64 b, .int .i64 c], .int .i64 1] w fun e w' => e = .returned (cornV a b c 1) ∧ Below w.heap.size w w' := by
  have q0 := (SBlk.new w 95 [.int .i64 a, .int .i64 b, .int .i64 c]).alloc (.cells #[.int .i64 0, .int .i64 0, .int .i64 0, .string ⟨#[]⟩, .int .i64 0] 97)
  have q1 := SBlk.new' (w.alloc (.cells #[.int .i64 a, .int .i64 b, .int .i64 c] 95)) 97 [.int .i64 0, .int .i64 0, .int .i64 0, .string ⟨#[]⟩, .int .i64 0] (w.heap.size + 1) (by simp)
  have hb := ((Below.refl w.heap.size w).alloc (Nat.le_refl _) (.cells #[.int .i64 a, .int .i64 b, .int .i64 c] 95)).alloc (by simp) (.cells #[.int .i64 0, .int .i64 0, .int .i64 0, .string ⟨#[]⟩, .int .i64 0] 97)
  go_enter Tryz.func111, Tryz.ntmps111
  go_wp2_with fail
  obtain ⟨W0, hW0⟩ : ∃ z, (w.alloc (.cells #[.int .i64 a, .int .i64 b, .int .i64 c] 95)).alloc (.cells #[.int .i64 0, .int .i64 0, .int .i64 0, .string ⟨#[]⟩, .int .i64 0] 97) = z := ⟨_, rfl⟩
  rw [show ([.int .i64 0, .int .i64 0, .int .i64 0, .string ⟨#[]⟩, .int .i64 0] : List Value).toArray = #[.int .i64 0, .int .i64 0, .int .i64 0, .string ⟨#[]⟩, .int .i64 0] from rfl] at q1
  rw [show ([.int .i64 a, .int .i64 b, .int .i64 c] : List Value).toArray = #[.int .i64 a, .int .i64 b, .int .i64 c] from rfl] at q0
  rw [hW0] at q0 q1 hb
  rw [hW0]
  clear hW0
  have k0 := q0.cell 0
  have k1 := q0.cell 1
  have k2 := q0.cell 2
  simp only [List.getElem?_cons_zero, List.getElem?_cons_succ] at k0 k1 k2
  have HQ := Lib.hid (And.intro q1 hb)
  clear q0 q1 hb
  have hix := idx_corner1
  go_still_tail 27, (by kernel_rfl)
  repeat (first | still_step | still_call (letter_s0 _) | still_call (letter_s1 _) | still_call (letter_s2 _))
  try refine wpStill_nil ?_
  change wpList _ _ _ _ _ W0.drew
  clear k0 k1 k2 hix
  have q1 := HQ.out.1.drew
  have hb := HQ.out.2.drew
  generalize W0.drew = W1 at q1 hb ⊢
  have HR := Lib.hid (And.intro q1 hb)
  have z0 := q1.cell 0
  have z1 := q1.cell 1
  have z2 := q1.cell 2
  have z3 := q1.cell 3
  have z4 := q1.cell 4
  have f0 := q1.frozen 0
  have f1 := q1.frozen 1
  have f2 := q1.frozen 2
  have f3 := q1.frozen 3
  have f4 := q1.frozen 4
  simp only [List.getElem?_cons_zero, List.getElem?_cons_succ] at z0 z1 z2 z3 z4
  clear q1 hb HQ
  go_wp2_with fail
  (try simp only [Exit.inBlock, Exit.then])
  have q1 := ((((HR.out.1.set 0 (.int .i64 a)).set 1 (.int .i64 b)).set 2 (.int .i64 c)).set 3 (.string (str [sideA 1, sideB 1]))).set 4 (.int .i64 (ordC a b c 1))
  have hb := (((((HR.out.2).setCell (p := ⟨w.heap.size + 1, 0, none⟩) (by simp) (.int .i64 a)).setCell (p := ⟨w.heap.size + 1, 1, none⟩) (by simp) (.int .i64 b)).setCell (p := ⟨w.heap.size + 1, 2, none⟩) (by simp) (.int .i64 c)).setCell (p := ⟨w.heap.size + 1, 3, none⟩) (by simp) (.string (str [sideA 1, sideB 1]))).setCell (p := ⟨w.heap.size + 1, 4, none⟩) (by simp) (.int .i64 (ordC a b c 1))
  refine bodyPost_ret (results_cell_row (p := 4) (ty := 97) (by kernel_rfl) _ _ (w.heap.size + 1) 97 _ (0, 0) _ rfl q1 Tryz.underlying97 rfl (by kernel_rfl)) rfl ?_
  exact ⟨rfl, hb⟩

set_option maxRecDepth 100000 in
set_option maxHeartbeats 2000000 in
theorem corner2 (a b c : Nat) (w : World) :
    Calls Tryz.prog 111 #[.agg #[.int .i64 a, .int .i64 b, .int .i64 c], .int .i64 2] w fun e w' => e = .returned (cornV a b c 2) ∧ Below w.heap.size w w' := by
  have q0 := (SBlk.new w 95 [.int .i64 a, .int .i64 b, .int .i64 c]).alloc (.cells #[.int .i64 0, .int .i64 0, .int .i64 0, .string ⟨#[]⟩, .int .i64 0] 97)
  have q1 := SBlk.new' (w.alloc (.cells #[.int .i64 a, .int .i64 b, .int .i64 c] 95)) 97 [.int .i64 0, .int .i64 0, .int .i64 0, .string ⟨#[]⟩, .int .i64 0] (w.heap.size + 1) (by simp)
  have hb := ((Below.refl w.heap.size w).alloc (Nat.le_refl _) (.cells #[.int .i64 a, .int .i64 b, .int .i64 c] 95)).alloc (by simp) (.cells #[.int .i64 0, .int .i64 0, .int .i64 0, .string ⟨#[]⟩, .int .i64 0] 97)
  go_enter Tryz.func111, Tryz.ntmps111
  go_wp2_with fail
  obtain ⟨W0, hW0⟩ : ∃ z, (w.alloc (.cells #[.int .i64 a, .int .i64 b, .int .i64 c] 95)).alloc (.cells #[.int .i64 0, .int .i64 0, .int .i64 0, .string ⟨#[]⟩, .int .i64 0] 97) = z := ⟨_, rfl⟩
  rw [show ([.int .i64 0, .int .i64 0, .int .i64 0, .string ⟨#[]⟩, .int .i64 0] : List Value).toArray = #[.int .i64 0, .int .i64 0, .int .i64 0, .string ⟨#[]⟩, .int .i64 0] from rfl] at q1
  rw [show ([.int .i64 a, .int .i64 b, .int .i64 c] : List Value).toArray = #[.int .i64 a, .int .i64 b, .int .i64 c] from rfl] at q0
  rw [hW0] at q0 q1 hb
  rw [hW0]
  clear hW0
  have k0 := q0.cell 0
  have k1 := q0.cell 1
  have k2 := q0.cell 2
  simp only [List.getElem?_cons_zero, List.getElem?_cons_succ] at k0 k1 k2
  have HQ := Lib.hid (And.intro q1 hb)
  clear q0 q1 hb
  have hix := idx_corner2
  go_still_tail 27, (by kernel_rfl)
  repeat (first | still_step | still_call (letter_s0 _) | still_call (letter_s1 _) | still_call (letter_s2 _))
  try refine wpStill_nil ?_
  change wpList _ _ _ _ _ W0.drew
  clear k0 k1 k2 hix
  have q1 := HQ.out.1.drew
  have hb := HQ.out.2.drew
  generalize W0.drew = W1 at q1 hb ⊢
  have HR := Lib.hid (And.intro q1 hb)
  have z0 := q1.cell 0
  have z1 := q1.cell 1
  have z2 := q1.cell 2
  have z3 := q1.cell 3
  have z4 := q1.cell 4
  have f0 := q1.frozen 0
  have f1 := q1.frozen 1
  have f2 := q1.frozen 2
  have f3 := q1.frozen 3
  have f4 := q1.frozen 4
  simp only [List.getElem?_cons_zero, List.getElem?_cons_succ] at z0 z1 z2 z3 z4
  clear q1 hb HQ
  go_wp2_with fail
  (try simp only [Exit.inBlock, Exit.then])
  have q1 := ((((HR.out.1.set 0 (.int .i64 a)).set 1 (.int .i64 b)).set 2 (.int .i64 c)).set 3 (.string (str [sideA 2, sideB 2]))).set 4 (.int .i64 (ordC a b c 2))
  have hb := (((((HR.out.2).setCell (p := ⟨w.heap.size + 1, 0, none⟩) (by simp) (.int .i64 a)).setCell (p := ⟨w.heap.size + 1, 1, none⟩) (by simp) (.int .i64 b)).setCell (p := ⟨w.heap.size + 1, 2, none⟩) (by simp) (.int .i64 c)).setCell (p := ⟨w.heap.size + 1, 3, none⟩) (by simp) (.string (str [sideA 2, sideB 2]))).setCell (p := ⟨w.heap.size + 1, 4, none⟩) (by simp) (.int .i64 (ordC a b c 2))
  refine bodyPost_ret (results_cell_row (p := 4) (ty := 97) (by kernel_rfl) _ _ (w.heap.size + 1) 97 _ (0, 0) _ rfl q1 Tryz.underlying97 rfl (by kernel_rfl)) rfl ?_
  exact ⟨rfl, hb⟩

theorem corner_ok (a b c m : Nat) (h : m < 3) (w : World) :
    Calls Tryz.prog 111 #[.agg #[.int .i64 a, .int .i64 b, .int .i64 c], .int .i64 m] w fun e w' => e = .returned (cornV a b c m) ∧ Below w.heap.size w w' := by
  have : m = 0 ∨ m = 1 ∨ m = 2 := by omega
  rcases this with rfl | rfl | rfl
  · exact corner0 a b c w
  · exact corner1 a b c w
  · exact corner2 a b c w
end Go.Proofs.YtcpeeopdaakbaaaGreat
