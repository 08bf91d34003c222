/- Stepped. -/
import Derived.Test.YtcpeeopdaakbaaaGreatZd
namespace Go.Proofs.YtcpeeopdaakbaaaGreat
open Go.RowKit Go.Shelf Cx

theorem idx_run (s : ByteArray) {k : Nat} (h : k < s.size) (i : Int) (hi : i = (k : Int)) (W : World) : (Instr.index 9 (.string s) (.int .i64 i)).run Tryz.prog W = .ok (.int .u8 ((s[k].toNat : Nat) : Int)) W := by
  subst hi
  rw [run_index_string _ _ _ _ _ Tryz.underlying9, dif_pos ⟨by omega, by omega⟩]
  simp

theorem from_run (s : ByteArray) {k : Nat} (h : k ≤ s.size) (i : Int) (hi : i = (k : Int)) (W : World) : (Instr.slice 9 (.string s) (some (.int .i64 i)) none none).run Tryz.prog W = .ok (.string (s.extract k s.size)) W := by
  subst hi
  rw [run_slice_string_l _ _ _ Tryz.underlying9 _ _ (by omega) (by omega)]
  simp

/-- what Stepped does -/
def RStep (a b c : Nat) (s : ByteArray) (w : World) (e : Ending) (w' : World) : Prop :=
  (∃ v, e = .returned (.string v) ∧ StepTo a b c s v) ∧ Below w.heap.size w w'

end Go.Proofs.YtcpeeopdaakbaaaGreat
