/- The reference's functions of words. -/
import Derived.Test.YtcpeeopdaakbaaaGreatXA
import Derived.Test.YtcpeeopdaakbaaaGreatXjA
import Derived.Test.YtcpeeopdaakbaaaGreatGmB
namespace Go.Proofs.YtcpeeopdaakbaaaGreat
open Go.RowKit Go.Shelf Cx

theorem Word_ok {a b c : Nat} (hg : Good a b c) (s : ByteArray) (hs : ∀ y ∈ bytesN s, y < 3) (hsz : s.size ≤ 10000) (w : World) :
    Calls Tryz.prog 52 #[.agg #[.int .i64 a, .int .i64 b, .int .i64 c], .string s] w (fun e w' => e = .returned (.string (str (nfW a b c [s]))) ∧ Below w.heap.size w w') := by
  have := Word_any hg.la hg.lb hg.lc s w hs hsz
  unfold nfW
  rw [cat_one]
  exact this

theorem allowedS_good {a b c : Nat} (hg : Good a b c) : allowedS a b c = 0 := by
  have la := hg.la
  have lb := hg.lb
  have lc := hg.lc
  have b1 : a < 13 := by rcases la with h | h <;> omega
  have b2 : b < 13 := by rcases lb with h | h <;> omega
  have b3 : c < 13 := by rcases lc with h | h <;> omega
  have := allowed_fault ⟨a, b1⟩ ⟨b, b2⟩ ⟨c, b3⟩ ⟨by rcases la with h | h <;> (simp; omega), by rcases lb with h | h <;> (simp; omega), by rcases lc with h | h <;> (simp; omega)⟩
  simp only at this
  rw [this]
  exact hg.lf
theorem errs_ok : ∀ {ws : List ByteArray}, (∀ s ∈ ws, checkS s = 0) → errs ws = 0 := by
  intro ws
  induction ws with
  | nil => intro _; rfl
  | cons t ws ih =>
    intro h
    unfold errs
    rw [if_pos (h t List.mem_cons_self)]
    exact ih (fun s hs => h s (List.mem_cons_of_mem _ hs))
theorem errorsS_ok {a b c : Nat} (hg : Good a b c) {ws : List ByteArray} (h : ∀ s ∈ ws, checkS s = 0) : errorsS a b c ws = 0 := by
  unfold errorsS
  rw [if_pos (allowedS_good hg)]
  exact errs_ok h

end Go.Proofs.YtcpeeopdaakbaaaGreat
