/- The numbers of the corners: by halving. -/
import Derived.Test.YtogchohpnbeldaaTor10
namespace Go.Proofs.Ytogchohpnbeldaa.Rs

/-- an interval is halved: S is not above nothing at its lower end, above at its upper end -/
def half (m : Nat) (p : Rat × Rat) : Rat × Rat := if S ((p.1 + p.2) / 2) m ≤ 0 then ((p.1 + p.2) / 2, p.2) else (p.1, (p.1 + p.2) / 2)
def halves (m : Nat) (l u : Rat) : Nat → Rat × Rat
  | 0 => (l, u)
  | n + 1 => half m (halves m l u n)
def pw (n : Nat) : Rat := ((2 ^ n : Nat) : Rat)

structure Hv (m : Nat) (l u : Rat) (n : Nat) (p : Rat × Rat) : Prop where
  lo : l ≤ p.1
  hi : p.2 ≤ u
  lt : p.1 < p.2
  down : S p.1 m ≤ 0
  up : 0 < S p.2 m
  wide : (p.2 - p.1) * pw n = u - l

theorem pw_succ (n : Nat) : pw (n + 1) = pw n * 2 := by
  unfold pw
  rw [Nat.pow_succ]
  exact Rat.natCast_mul _ _

theorem halves_ok {m : Nat} {l u : Rat} (hlu : l < u) (h1 : S l m ≤ 0) (h2 : 0 < S u m) : ∀ n, Hv m l u n (halves m l u n) := by
  intro n
  induction n with
  | zero => exact ⟨by show l ≤ l; grind, by show u ≤ u; grind, hlu, h1, h2, by show (u - l) * pw 0 = u - l; have : pw 0 = 1 := rfl; rw [this]; grind⟩
  | succ n ih =>
    obtain ⟨a, b, d, e, f, g⟩ := ih
    show Hv m l u (n + 1) (half m (halves m l u n))
    generalize halves m l u n = p at *
    unfold half
    by_cases hs : S ((p.1 + p.2) / 2) m ≤ 0
    · rw [if_pos hs]
      exact ⟨by show l ≤ (p.1 + p.2) / 2; grind, b, by show (p.1 + p.2) / 2 < p.2; grind, hs, f, by show (p.2 - (p.1 + p.2) / 2) * pw (n + 1) = u - l; rw [pw_succ]; grind⟩
    · rw [if_neg hs]
      exact ⟨a, by show (p.1 + p.2) / 2 ≤ u; grind, by show p.1 < (p.1 + p.2) / 2; grind, e, by show 0 < S ((p.1 + p.2) / 2) m; grind, by show ((p.1 + p.2) / 2 - p.1) * pw (n + 1) = u - l; rw [pw_succ]; grind⟩

theorem halves_in {m : Nat} {l u : Rat} (hlu : l < u) (h1 : S l m ≤ 0) (h2 : 0 < S u m) (n : Nat) : ∀ k, (halves m l u n).1 ≤ (halves m l u (n + k)).1 ∧ (halves m l u (n + k)).2 ≤ (halves m l u n).2 := by
  intro k
  induction k with
  | zero => exact ⟨by grind, by grind⟩
  | succ k ih =>
    have h := halves_ok hlu h1 h2 (n + k)
    have hlt := h.lt
    have e : halves m l u (n + (k + 1)) = half m (halves m l u (n + k)) := rfl
    rw [e]
    generalize halves m l u (n + k) = p at *
    unfold half
    by_cases hs : S ((p.1 + p.2) / 2) m ≤ 0
    · rw [if_pos hs]; exact ⟨by show _ ≤ (p.1 + p.2) / 2; grind, ih.2⟩
    · rw [if_neg hs]; exact ⟨ih.1, by show (p.1 + p.2) / 2 ≤ _; grind⟩
end Go.Proofs.Ytogchohpnbeldaa.Rs
