/- The tile over a side: the walk. -/
import Derived.Test.YtogchohpnbeldaaGm1
import Derived.Test.YtogchohpnbeldaaTor14
namespace Go.Proofs.Ytogchohpnbeldaa
open Go.RowKit Go.Shelf Cx

/-- what Step leaves -/
def RStp (M : Nat → Nat → Nat) (R : List (G M)) (gb nb a b c : Nat) (ns : List Nd) (x s : Nat) (w : World) (e : Ending) (w' : World) : Prop :=
  ∃ (r : Nat) (ns' : List Nd) (nb' cap' : Nat) (rest' : List Value), e = .returned (.int .i64 (r : Int)) ∧ GAt w' gb nb' cap' a b c ns' rest' ∧ Ok M R ns' ∧ Ext M ((nd ns x).len + 1) ns ns' ∧ r < ns'.length ∧ El M ns' r = El M ns x * mk [s] ∧
    (nb' = nb ∨ w.heap.size ≤ nb') ∧ But (fun k => k = gb ∨ k = nb ∨ w.heap.size ≤ k) w w'

def PStep (M : Nat → Nat → Nat) (R : List (G M)) (a b c n : Nat) : Prop :=
  ∀ (ns : List Nd) (x s : Nat) (w : World) (gb nb cap : Nat) (rest : List Value), (nd ns x).len = n → GAt w gb nb cap a b c ns rest → Ok M R ns → Fl M (n + 1) ns → (∀ t, eta (El M ns x * mk [s]) t = true → t ∈ R) → x < ns.length → s < 3 →
    Calls Try.prog 93 #[.pointer (some ⟨gb, 0, none⟩), .int .i64 (x : Int), .int .i64 (s : Int)] w (RStp M R gb nb a b c ns x s w)

set_option maxRecDepth 100000 in
set_option maxHeartbeats 4000000 in
theorem step_known {M : Nat → Nat → Nat} {R : List (G M)} {a b c : Nat} (ns : List Nd) (x s : Nat) (w : World) (gb nb cap : Nat) (rest : List Value) (h : GAt w gb nb cap a b c ns rest) (hok : Ok M R ns) (hx : x < ns.length) (hs : s < 3) (ht : tb (nd ns x) s ≠ -1) :
    Calls Try.prog 93 #[.pointer (some ⟨gb, 0, none⟩), .int .i64 (x : Int), .int .i64 (s : Int)] w (RStp M R gb nb a b c ns x s w) := by
  obtain ⟨r, hr, hrt, hre⟩ := ok_over hok hx hs ht
  have c0 := h.g.cell 3
  have c1 := h.rto hx hs
  rw [hrt] at c1
  simp only [List.getElem?_cons_succ, List.getElem?_cons_zero] at c0
  have i1 : (0 : Int) ≤ (x : Int) := by omega
  have i2 : (x : Int) < (ns.length : Int) := by omega
  have i3 : (0 : Int) ≤ (s : Int) := by omega
  have i4 : (s : Int) < 3 := by omega
  have i5 : (0 : Int) ≤ (r : Int) := by omega
  have H := Lib.hid (And.intro h (And.intro hok (And.intro hr (And.intro hre hrt))))
  clear h hok hr hre hrt ht
  go_enter Try.func93, Try.ntmps93
  go_wp2_with fail
  go_ret
  obtain ⟨h, hok, hr, hre, hrt⟩ := H.out
  exact ⟨r, ns, nb, cap, rest, rfl, h, hok, Ext.refl _ _, hr, hre, .inl rfl, But.refl _ _⟩
end Go.Proofs.Ytogchohpnbeldaa
