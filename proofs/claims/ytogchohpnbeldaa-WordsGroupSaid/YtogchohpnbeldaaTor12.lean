/- What the halves lead to. -/
import Derived.Test.YtogchohpnbeldaaTor11
namespace Go.Proofs.Ytogchohpnbeldaa.Rs

theorem pw_ge (n : Nat) : (n : Rat) ≤ pw n := by
  unfold pw
  exact Rat.natCast_le_natCast.2 (Nat.le_of_lt Nat.lt_two_pow_self)
theorem pw_pos (n : Nat) : 0 < pw n := by
  unfold pw
  have : ((0 : Nat) : Rat) < ((2 ^ n : Nat) : Rat) := Rat.natCast_lt_natCast.2 (Nat.two_pow_pos n)
  exact this

theorem arch (q : Rat) : ∃ N : Nat, ∀ n, N ≤ n → q < pw n := by
  refine ⟨q.ceil.toNat + 1, fun n hn => ?_⟩
  have h1 : q ≤ (q.ceil : Rat) := Rat.le_ceil
  have h2 : ((q.ceil : Int) : Rat) ≤ (((q.ceil.toNat : Nat) : Int) : Rat) := Rat.intCast_le_intCast.2 (by omega)
  have h3 : ((q.ceil.toNat : Nat) : Rat) < ((n : Nat) : Rat) := Rat.natCast_lt_natCast.2 (by omega)
  have h4 := pw_ge n
  have h5 : (((q.ceil.toNat : Nat) : Int) : Rat) = ((q.ceil.toNat : Nat) : Rat) := rfl
  grind

/-- what is less than w / 2^n falls to nothing -/
theorem small (w : Rat) {e : Rat} (he : 0 < e) : ∃ N : Nat, ∀ n, N ≤ n → w < e * pw n := by
  obtain ⟨N, h⟩ := arch (w / e)
  refine ⟨N, fun n hn => ?_⟩
  have h1 := h n hn
  have h2 : w / e * e = w := by rw [Rat.div_def, Rat.mul_assoc, Rat.inv_mul_cancel _ (by grind), Rat.mul_one]
  have h3 : 0 < (pw n - w / e) * e := Rat.mul_pos (by grind) he
  grind

/-- bounds of S and of its slope on 0 .. 2 -/
def Bd : Nat → Rat
  | 0 => 0
  | 1 => 1
  | k + 2 => 2 * Bd (k + 1) + Bd k
def Sl : Nat → Rat
  | 0 => 0
  | 1 => 0
  | k + 2 => 2 * Sl (k + 1) + Bd (k + 1) + Sl k

theorem abs_mul {x y a b : Rat} (ha : 0 ≤ a) (hb : 0 ≤ b) (hx : -a ≤ x ∧ x ≤ a) (hy : -b ≤ y ∧ y ≤ b) : -(a * b) ≤ x * y ∧ x * y ≤ a * b := by
  have h1 : 0 ≤ (a - x) * (b + y) := Rat.mul_nonneg (by grind) (by grind)
  have h2 : 0 ≤ (a + x) * (b - y) := Rat.mul_nonneg (by grind) (by grind)
  have h3 : 0 ≤ (a - x) * (b - y) := Rat.mul_nonneg (by grind) (by grind)
  have h4 : 0 ≤ (a + x) * (b + y) := Rat.mul_nonneg (by grind) (by grind)
  constructor <;> grind

theorem bd_nn : ∀ k, 0 ≤ Bd k ∧ 0 ≤ Bd (k + 1) := by
  intro k
  induction k with
  | zero => exact ⟨by show (0 : Rat) ≤ 0; grind, by show (0 : Rat) ≤ 1; grind⟩
  | succ k ih => exact ⟨ih.2, by show 0 ≤ 2 * Bd (k + 1) + Bd k; grind⟩
theorem sl_nn : ∀ k, 0 ≤ Sl k ∧ 0 ≤ Sl (k + 1) := by
  intro k
  induction k with
  | zero => exact ⟨by show (0 : Rat) ≤ 0; grind, by show (0 : Rat) ≤ 0; grind⟩
  | succ k ih => exact ⟨ih.2, by have := (bd_nn k).2; show 0 ≤ 2 * Sl (k + 1) + Bd (k + 1) + Sl k; grind⟩

theorem S_bd {x : Rat} (h0 : 0 ≤ x) (h2 : x ≤ 2) : ∀ k, (-Bd k ≤ S x k ∧ S x k ≤ Bd k) ∧ (-Bd (k + 1) ≤ S x (k + 1) ∧ S x (k + 1) ≤ Bd (k + 1)) := by
  intro k
  induction k with
  | zero => exact ⟨⟨by show -(0 : Rat) ≤ 0; grind, by show (0 : Rat) ≤ 0; grind⟩, ⟨by show -(1 : Rat) ≤ 1; grind, by show (1 : Rat) ≤ 1; grind⟩⟩
  | succ k ih =>
    refine ⟨ih.2, ?_⟩
    have a := abs_mul (x := x) (y := S x (k + 1)) (a := 2) (b := Bd (k + 1)) (by grind) (bd_nn k).2 ⟨by grind, h2⟩ ih.2
    have e : Bd (k + 1 + 1) = 2 * Bd (k + 1) + Bd k := rfl
    have f : S x (k + 1 + 1) = x * S x (k + 1) - S x k := S_step _ _
    rw [e, f]
    obtain ⟨⟨b1, b2⟩, _⟩ := ih
    constructor <;> grind

theorem S_sl {x y : Rat} (h0 : 0 ≤ x) (h2 : x ≤ 2) (g0 : 0 ≤ y) (g2 : y ≤ 2) (hxy : x ≤ y) : ∀ k,
    (-(Sl k * (y - x)) ≤ S y k - S x k ∧ S y k - S x k ≤ Sl k * (y - x)) ∧ (-(Sl (k + 1) * (y - x)) ≤ S y (k + 1) - S x (k + 1) ∧ S y (k + 1) - S x (k + 1) ≤ Sl (k + 1) * (y - x)) := by
  intro k
  induction k with
  | zero =>
    refine ⟨⟨by show -((0 : Rat) * (y - x)) ≤ 0 - 0; grind, by show (0 : Rat) - 0 ≤ 0 * (y - x); grind⟩, ⟨by show -((0 : Rat) * (y - x)) ≤ 1 - 1; grind, by show (1 : Rat) - 1 ≤ 0 * (y - x); grind⟩⟩
  | succ k ih =>
    refine ⟨ih.2, ?_⟩
    have hs := (sl_nn k).2
    have hd : 0 ≤ y - x := by grind
    have a := abs_mul (x := x) (y := S y (k + 1) - S x (k + 1)) (a := 2) (b := Sl (k + 1) * (y - x)) (by grind) (Rat.mul_nonneg hs hd) ⟨by grind, h2⟩ ih.2
    have b := abs_mul (x := y - x) (y := S y (k + 1)) (a := y - x) (b := Bd (k + 1)) hd (bd_nn k).2 ⟨by grind, by grind⟩ (S_bd g0 g2 k).2
    have e : Sl (k + 1 + 1) = 2 * Sl (k + 1) + Bd (k + 1) + Sl k := rfl
    have f : S x (k + 1 + 1) = x * S x (k + 1) - S x k := S_step _ _
    have f' : S y (k + 1 + 1) = y * S y (k + 1) - S y k := S_step _ _
    rw [e, f, f']
    obtain ⟨⟨b1, b2⟩, _⟩ := ih
    constructor <;> grind
end Go.Proofs.Ytogchohpnbeldaa.Rs
