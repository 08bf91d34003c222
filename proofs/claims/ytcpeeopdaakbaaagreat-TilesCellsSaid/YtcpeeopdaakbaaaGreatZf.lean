/- Stepped: a row that is turned round. -/
import Derived.Test.YtcpeeopdaakbaaaGreatZe
namespace Go.Proofs.YtcpeeopdaakbaaaGreat
open Go.RowKit Go.Shelf Cx

theorem below_undrewN {n k : Nat} {A B : World} (h : Below n (A.drewN k) B) : Below n A B := ⟨h.os, h.tape, h.output, h.size, h.block⟩

theorem Mo_between (a b c : Nat) {x m : Nat} (hx : x < 3) (hm : m < 3) (h : ¬ x = m) :
    (if wrap64 ((x : Int) + (m : Int)) = 1 then (a : Int) else if wrap64 ((x : Int) + (m : Int)) = 3 then (b : Int) else (c : Int)) = ((Mo a b c x m : Nat) : Int) := by
  have hx' : x = 0 ∨ x = 1 ∨ x = 2 := by omega
  have hm' : m = 0 ∨ m = 1 ∨ m = 2 := by omega
  rcases hx' with rfl | rfl | rfl <;> rcases hm' with rfl | rfl | rfl <;> first | (exfalso; exact h rfl) | rfl | (simp [wrap64, Mo])

theorem str_append (l k : List Nat) : str l ++ str k = str (l ++ k) := by
  apply ByteArray.ext
  simp [str, ByteArray.data_append]

end Go.Proofs.YtcpeeopdaakbaaaGreat
