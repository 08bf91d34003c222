/- newOrders: the rows of letters. -/
import Derived.Test.YtogchohpnbeldaaYh
namespace Go.Proofs.Ytogchohpnbeldaa
open Go.RowKit Go.Shelf Cx

def t01 : ByteArray := ⟨#[0, 1, 0, 1, 0, 1, 0, 1, 0, 1, 0, 1, 0]⟩
def t02 : ByteArray := ⟨#[0, 2, 0, 2, 0, 2, 0, 2, 0, 2, 0, 2, 0]⟩
def t12 : ByteArray := ⟨#[1, 2, 1, 2, 1, 2, 1, 2, 1, 2, 1, 2, 1]⟩

set_option maxRecDepth 100000 in
theorem cut0 (m : Nat) (h : m ≤ 12) (w : World) :
    (Instr.slice 9 (.string t01) none (some (.int .i64 m)) none).run Try.prog w = .ok (.string (str (alt 0 1 m))) w ∧
    (Instr.slice 9 (.string t02) none (some (.int .i64 m)) none).run Try.prog w = .ok (.string (str (alt 0 2 m))) w ∧
    (Instr.slice 9 (.string t12) none (some (.int .i64 m)) none).run Try.prog w = .ok (.string (str (alt 1 2 m))) w := by
  rcases m with _ | _ | _ | _ | _ | _ | _ | _ | _ | _ | _ | _ | _ | m
  all_goals (try (exfalso; omega))
  all_goals exact ⟨rfl, rfl, rfl⟩

set_option maxRecDepth 100000 in
theorem cut1 (m : Nat) (h : m ≤ 12) (w : World) :
    (Instr.slice 9 (.string t01) (some (.int .i64 1)) (some (.int .i64 (1 + (m : Int)))) none).run Try.prog w = .ok (.string (str (alt 1 0 m))) w ∧
    (Instr.slice 9 (.string t02) (some (.int .i64 1)) (some (.int .i64 (1 + (m : Int)))) none).run Try.prog w = .ok (.string (str (alt 2 0 m))) w ∧
    (Instr.slice 9 (.string t12) (some (.int .i64 1)) (some (.int .i64 (1 + (m : Int)))) none).run Try.prog w = .ok (.string (str (alt 2 1 m))) w := by
  rcases m with _ | _ | _ | _ | _ | _ | _ | _ | _ | _ | _ | _ | _ | m
  all_goals (try (exfalso; omega))
  all_goals exact ⟨rfl, rfl, rfl⟩

set_option maxRecDepth 100000 in
set_option maxHeartbeats 2000000 in
theorem newOrders_any (a b c : Nat) (ha : Lim a) (hb : Lim b) (hc : Lim c) (hf : faultS a b c = 0) (w : World) :
    Calls Try.prog 64 #[.agg #[.int .i64 a, .int .i64 b, .int .i64 c]] w fun e w' => ∃ ob, e = .returned (.pointer (some ⟨ob, 0, none⟩)) ∧ SBlk w' ob 144 (ordCells a b c) ∧ w.heap.size ≤ ob ∧ Below w.heap.size w w' := by
  have hmix : Try.prog.follows .mixedOrders = true := by kernel_rfl
  have a1 : a ≤ 12 := by rcases ha with h | h <;> omega
  have b1 : b ≤ 12 := by rcases hb with h | h <;> omega
  have c1 : c ≤ 12 := by rcases hc with h | h <;> omega
  have hF := fun W => fault_any a b c ha hb hc W
  rw [hf] at hF
  have HF := Lib.hid hF
  have s01 := fun w => (cut0 a a1 w).1
  have s02 := fun w => (cut0 c c1 w).2.1
  have s12 := fun w => (cut0 b b1 w).2.2
  have s10 := fun w => (cut1 a a1 w).1
  have s20 := fun w => (cut1 c c1 w).2.1
  have s21 := fun w => (cut1 b b1 w).2.2
  unfold t01 at s01 s10
  unfold t02 at s02 s20
  unfold t12 at s12 s21
  have wa : IntKind.i64.wrap (1 + (a : Int)) = 1 + (a : Int) := IntWalk.i64_in _ (by omega)
  have wb : IntKind.i64.wrap (1 + (b : Int)) = 1 + (b : Int) := IntWalk.i64_in _ (by omega)
  have wc : IntKind.i64.wrap (1 + (c : Int)) = 1 + (c : Int) := IntWalk.i64_in _ (by omega)
  have HS := Lib.hid (And.intro (And.intro s01 (And.intro s02 s12)) (And.intro (And.intro s10 (And.intro s20 s21)) (And.intro wa (And.intro wb wc))))
  clear hF hf s01 s02 s12 s10 s20 s21 wa wb wc
  go_enter Try.func64, Try.ntmps64
  go_wp2_with (go_at_call 94; refine (HF.out _).mono ?_; rintro e w1 ⟨rfl, hb1⟩; have HB1 := Lib.hid hb1; have q0 := ((SBlk.new w 23 [.int .i64 a, .int .i64 b, .int .i64 c]).below hb1 (by simp)); have k0 := q0.cell 0; have k1 := q0.cell 1; have k2 := q0.cell 2; clear hb1 q0; simp only [List.getElem?_cons_succ, List.getElem?_cons_zero] at k0 k1 k2)
  obtain ⟨⟨s01, s02, s12⟩, ⟨s10, s20, s21⟩, wa, wb, wc⟩ := HS.out
  clear HS
  go_still_tail 27, (by kernel_rfl)
  clear s01 s02 s12 s10 s20 s21 wa wb wc
  change wpList _ _ _ _ _ w1.drew
  go_wp2_with fail
  go_ret
  refine ⟨w1.heap.size, rfl, ?_, ?_, ?_⟩
  · exact SBlk.new w1.drew 144 (ordCells a b c)
  · have := HB1.out.size; simp at this; omega
  · exact ((Below.refl _ w).alloc (Nat.le_refl _) _).trans ((HB1.out.mono (by simp)).trans ((Below.refl _ w1).alloc (by have := HB1.out.size; simp at this; show w.heap.size ≤ w1.heap.size; omega) _).drew)
end Go.Proofs.Ytogchohpnbeldaa
