/- The reference's corners: a circle of tiles. -/
import Derived.Test.YtcpeeopdaakbaaaGreatWeB
import Derived.Test.YtcpeeopdaakbaaaGreatZf
import Derived.Test.YtcpeeopdaakbaaaGreatXf
namespace Go.Proofs.YtcpeeopdaakbaaaGreat
open Go.RowKit Go.Shelf Cx

theorem side_lt {m : Nat} (_ : m < 3) : sideA m < 3 ∧ sideB m < 3 := by unfold sideA sideB; constructor <;> split <;> omega

set_option maxRecDepth 100000 in
theorem first_R (m : Nat) (hm : m < 3) (w : World) : Calls Tryz.prog 73 #[.int .i64 m] w fun e w' => e = .returned (.int .i64 (sideA m)) ∧ w = w' := by
  have h : m = 0 ∨ m = 1 ∨ m = 2 := by omega
  rcases h with rfl | rfl | rfl
  all_goals
    go_enter Tryz.func73, Tryz.ntmps73
    go_wp2_with fail
    go_ret
    exact ⟨rfl, rfl⟩
set_option maxRecDepth 100000 in
theorem second_R (m : Nat) (hm : m < 3) (w : World) : Calls Tryz.prog 74 #[.int .i64 m] w fun e w' => e = .returned (.int .i64 (sideB m)) ∧ w = w' := by
  have h : m = 0 ∨ m = 1 ∨ m = 2 := by omega
  rcases h with rfl | rfl | rfl
  all_goals
    go_enter Tryz.func74, Tryz.ntmps74
    go_wp2_with fail
    go_ret
    exact ⟨rfl, rfl⟩

set_option maxRecDepth 100000 in
theorem letter_R (m : Nat) (hm : m < 3) (w : World) :
    Calls Tryz.prog 122 #[.int .i64 m] w fun e w' => e = .returned (.string (str [m])) ∧ Below w.heap.size w w' := by
  have hr := run_str (w.alloc (.cells #[.int .u8 (m : Int)] 5)) w.heap.size 0 1 [m] (by intro y hy; simp at hy; omega) (by
    intro j hj
    obtain rfl : j = 0 := by simpa using hj
    rw [(SBlk.new w 5 [.int .u8 (m : Int)]).cell]
    rfl)
  simp only [List.length_cons, List.length_nil, Nat.zero_add] at hr
  have HB := Lib.hid ((Below.refl w.heap.size w).alloc (Nat.le_refl _) (.cells #[.int .u8 (m : Int)] 5))
  have hwr : IntKind.u8.wrap (m : Int) = m := by
    have : m = 0 ∨ m = 1 ∨ m = 2 := by omega
    rcases this with rfl | rfl | rfl <;> decide
  go_enter Tryz.func122, Tryz.ntmps122
  go_wp2_with fail
  go_ret
  exact ⟨rfl, HB.out⟩

set_option maxRecDepth 100000 in
set_option maxHeartbeats 2000000 in
theorem Order_R (a b c m : Nat) (hm : m < 3) (w : World) :
    Calls Tryz.prog 58 #[.agg #[.int .i64 a, .int .i64 b, .int .i64 c], .int .i64 m] w fun e w' => e = .returned (.int .i64 (ordC a b c m)) ∧ Below w.heap.size w w' := by
  have hBt := fun W => Between_any (a : Int) (b : Int) (c : Int) (sideA m : Int) (sideB m : Int) W
  rw [Mo_between a b c (side_lt hm).1 (side_lt hm).2 (side_ne hm), ← ordC_eq a b c hm] at hBt
  have HF := Lib.hid (And.intro (fun W => first_R m hm W) (And.intro (fun W => second_R m hm W) hBt))
  clear hBt
  generalize ordC a b c m = o at *
  generalize sideA m = p at *
  generalize sideB m = q at *
  have HB := Lib.hid (And.intro (SBlk.new w 23 [.int .i64 a, .int .i64 b, .int .i64 c]) ((Below.refl w.heap.size w).alloc (Nat.le_refl _) (.cells #[.int .i64 a, .int .i64 b, .int .i64 c] 23)))
  clear hm
  go_enter Tryz.func58, Tryz.ntmps58
  have x0 := HB.out.1.cell 0
  have x1 := HB.out.1.cell 1
  have x2 := HB.out.1.cell 2
  simp only [List.getElem?_cons_zero, List.getElem?_cons_succ] at x0 x1 x2
  go_wp2_with fail
  have HD := Lib.hid (show (w.alloc (.cells #[.int .i64 a, .int .i64 b, .int .i64 c] 23)).drew.cell? ⟨w.heap.size, 0, none⟩ = some (.int .i64 a) ∧ (w.alloc (.cells #[.int .i64 a, .int .i64 b, .int .i64 c] 23)).drew.cell? ⟨w.heap.size, 1, none⟩ = some (.int .i64 b) ∧ (w.alloc (.cells #[.int .i64 a, .int .i64 b, .int .i64 c] 23)).drew.cell? ⟨w.heap.size, 2, none⟩ = some (.int .i64 c) from ⟨x0, x1, x2⟩)
  go_region_held3 (fun w' => w'.cell? ⟨w.heap.size, 0, none⟩ = some (.int .i64 a) ∧ w'.cell? ⟨w.heap.size, 1, none⟩ = some (.int .i64 b) ∧ w'.cell? ⟨w.heap.size, 2, none⟩ = some (.int .i64 c))
    (first | (with_reducible assumption) | (with_reducible exact HD.out) | (with_reducible exact kp) | (go_keep; done))
    (first
      | (go_at_call 73; (with_reducible refine (HF.out.1 _).mono ?_); rintro e w' ⟨rfl, rfl⟩)
      | (go_at_call 74; (with_reducible refine (HF.out.2.1 _).mono ?_); rintro e w' ⟨rfl, rfl⟩)
      | (go_at_call 110; (with_reducible refine (HF.out.2.2 _).mono ?_); rintro e W1 ⟨rfl, hb⟩; replace hb := below_undrew hb; have kp := (kept3 HB.out.1 hb).2; have HZ1 := Lib.hid (HB.out.2.trans (hb.mono HB.out.2.size)); clear hb))
  all_goals
    go_wp2_with fail
    go_ret
    exact ⟨rfl, HZ1.out⟩
end Go.Proofs.YtcpeeopdaakbaaaGreat
