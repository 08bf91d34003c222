/- The orders of words of finite order, for all orders that are allowed. -/
import Derived.Test.YtogchohpnbeldaaTorC
import Derived.Test.YtogchohpnbeldaaYm
namespace Go.Proofs.Ytogchohpnbeldaa.Rs
open Cx

noncomputable def cm (m : Nat) : Nat → Rat := if h : 2 ≤ m ∧ m ≤ 12 then Classical.choose (number_m h.1 h.2) else fun _ => 2

theorem cm_two (n : Nat) : cm 0 n = 2 := by
  unfold cm
  rw [dif_neg (by omega)]
theorem cm_ok {m : Nat} (h : 2 ≤ m ∧ m ≤ 12) : Set (cm m) ∧ Nul (fun n => S (cm m n) m) ∧ (∀ k, 1 ≤ k → k < m → Pos (fun n => S (cm m n) k)) ∧ ∀ n, lT m ≤ cm m n := by
  unfold cm
  rw [dif_pos h]
  exact Classical.choose_spec (number_m h.1 h.2)

noncomputable def cc (a b d : Nat) : Nat → Nat → Nat → Rat := fun i j => cm (Mo a b d i j)

theorem cm_ge {m : Nat} (h : Lim m) (n : Nat) : lT m ≤ cm m n := by
  rcases h with h | h
  · subst h
    rw [cm_two]
    show (2 : Rat) ≤ 2
    grind
  · exact (cm_ok h).2.2.2 n

theorem cc_ok {a b d : Nat} (ha : Lim a) (hb : Lim b) (hd : Lim d) : Ps (Mo a b d) (cc a b d) where
  sym := fun i j n => by unfold cc; rw [Mo_symm]
  set := fun i j => by
    unfold cc
    rcases Mo_lim ha hb hd i j with h | h
    · rw [h]; exact (set_const 2).congr cm_two
    · exact (cm_ok h).1
  nul := fun i j _ h0 => by
    unfold cc
    rcases Mo_lim ha hb hd i j with h | h
    · exact absurd h h0
    · exact (cm_ok h).2.1
  pos := fun i j _ k h1 hk => by
    unfold cc
    rcases Mo_lim ha hb hd i j with h | h
    · rw [h]
      refine ⟨1 / 2, by grind, 0, fun n _ => ?_⟩
      show (1 : Rat) / 2 < S (cm 0 n) k
      rw [cm_two, S_two]
      have : ((1 : Nat) : Rat) ≤ ((k : Nat) : Rat) := Rat.natCast_le_natCast.2 h1
      have e : ((1 : Nat) : Rat) = 1 := rfl
      grind
    · rcases hk with h0 | hk
      · omega
      · exact (cm_ok h).2.2.1 k h1 hk

/-- whole numbers for the lower ends -/
def li : Nat → Nat
  | 2 => 0
  | 3 => 10000000
  | 4 => 14142135
  | 5 => 16180339
  | 6 => 17320508
  | 7 => 18019377
  | 8 => 18477590
  | 9 => 18793852
  | 10 => 19021130
  | 11 => 19189859
  | 12 => 19318516
  | _ => 20000000
def turnG (a b d : Nat) (v : Nat × Nat × Nat) : Nat × Nat × Nat :=
  ((li a * v.2.1 + li d * v.2.2 + 20000000 * v.1) / 40000000, (li a * v.1 + li b * v.2.2 + 20000000 * v.2.1) / 40000000, (li d * v.1 + li b * v.2.1 + 20000000 * v.2.2) / 40000000)
def turnsG (a b d : Nat) : Nat → Nat × Nat × Nat
  | 0 => (1000000000, 1000000000, 1000000000)
  | n + 1 => turnG a b d (turnsG a b d n)

def limB (m : Nat) : Bool := m == 0 || (2 ≤ m && m ≤ 12)
def gB (a b d : Nat) : Bool :=
  let v := turnsG a b d 6
  0 < v.1 && 0 < v.2.1 && 0 < v.2.2 && 20000000 * v.1 ≤ li a * v.2.1 + li d * v.2.2 && 20000000 * v.2.1 ≤ li a * v.1 + li b * v.2.2 && 20000000 * v.2.2 ≤ li d * v.1 + li b * v.2.1

theorem gB_all : ∀ a b d : Fin 13, limB a.val = true → limB b.val = true → limB d.val = true → faultS a.val b.val d.val = 0 → gB a.val b.val d.val = true := by decide +kernel

theorem li_T : ∀ m : Fin 13, lT m.val * 10000000 = ((li m.val : Nat) : Rat) ∨ m.val = 1 := by decide +kernel


theorem limB_of {m : Nat} (h : Lim m) : limB m = true ∧ m < 13 ∧ m ≠ 1 := by
  unfold limB
  rcases h with h | h
  · subst h; exact ⟨rfl, by omega, by omega⟩
  · refine ⟨?_, by omega, by omega⟩
    simp [h.1, h.2]

theorem li_of {m : Nat} (h : Lim m) : lT m * 10000000 = ((li m : Nat) : Rat) := by
  obtain ⟨_, h1, h2⟩ := limB_of h
  rcases li_T ⟨m, h1⟩ with h3 | h3
  · exact h3
  · exact absurd h3 h2

theorem up_of {x y z : Nat} {m k : Nat} (hm : Lim m) (hk : Lim k) (h : 20000000 * x ≤ li m * y + li k * z) (n : Nat) : 0 ≤ (x : Rat) * -2 + (y : Rat) * cm m n + (z : Rat) * cm k n := by
  have h1 : ((20000000 * x : Nat) : Rat) ≤ ((li m * y + li k * z : Nat) : Rat) := Rat.natCast_le_natCast.2 h
  rw [Rat.natCast_add, Rat.natCast_mul, Rat.natCast_mul, Rat.natCast_mul, ← li_of hm, ← li_of hk] at h1
  have e : ((20000000 : Nat) : Rat) = 20000000 := rfl
  rw [e] at h1
  have y0 : (0 : Rat) ≤ (y : Rat) := Rat.natCast_nonneg
  have z0 : (0 : Rat) ≤ (z : Rat) := Rat.natCast_nonneg
  have a := Rat.mul_nonneg y0 (show 0 ≤ cm m n - lT m by have := cm_ge hm n; grind)
  have b := Rat.mul_nonneg z0 (show 0 ≤ cm k n - lT k by have := cm_ge hk n; grind)
  grind

theorem nn_of {f : Nat → Rat} (h : ∀ n, 0 ≤ f n) : Nn f := fun e he => ⟨0, fun n _ => by have := h n; grind⟩

theorem gs_ok {a b d : Nat} (hg : Good a b d) : ∃ g, Gs (cc a b d) g := by
  obtain ⟨a1, a2, _⟩ := limB_of hg.la
  obtain ⟨b1, b2, _⟩ := limB_of hg.lb
  obtain ⟨d1, d2, _⟩ := limB_of hg.lc
  have h := gB_all ⟨a, a2⟩ ⟨b, b2⟩ ⟨d, d2⟩ a1 b1 d1 hg.lf
  unfold gB at h
  simp only [Bool.and_eq_true, decide_eq_true_eq] at h
  generalize turnsG a b d 6 = v at h
  obtain ⟨⟨⟨⟨⟨p0, p1⟩, p2⟩, q0⟩, q1⟩, q2⟩ := h
  have cast : ∀ {x : Nat}, 0 < x → (0 : Rat) < (x : Rat) := fun {x} hx => by
    have : ((0 : Nat) : Rat) < ((x : Nat) : Rat) := Rat.natCast_lt_natCast.2 hx
    exact this
  refine ⟨fun t => if t = 0 then (v.1 : Rat) else if t = 1 then (v.2.1 : Rat) else (v.2.2 : Rat), ⟨fun t => ?_, fun t ht => ?_⟩⟩
  · by_cases h0 : t = 0
    · simp only [h0, if_true]; exact cast p0
    · by_cases h1 : t = 1
      · simp only [h1]; exact cast p1
      · simp only [h0, h1, if_false]; exact cast p2
  · have h3 : t = 0 ∨ t = 1 ∨ t = 2 := by omega
    rcases h3 with rfl | rfl | rfl
    · refine (nn_of (up_of hg.la hg.lc q0)).congr fun n => ?_
      show (v.1 : Rat) * -2 + (v.2.1 : Rat) * cm a n + (v.2.2 : Rat) * cm d n = _
      rfl
    · refine (nn_of (up_of hg.la hg.lb q1)).congr fun n => ?_
      show (v.1 : Rat) * cm a n + (v.2.1 : Rat) * -2 + (v.2.2 : Rat) * cm b n = _
      grind
    · refine (nn_of (up_of hg.lc hg.lb q2)).congr fun n => ?_
      show (v.1 : Rat) * cm d n + (v.2.1 : Rat) * cm b n + (v.2.2 : Rat) * -2 = _
      grind

/-- THE ORDERS: of a word of finite order, for all orders that are allowed -/
theorem orders_good {a b d : Nat} (hg : Good a b d) {y : List Nat} (hy : ∀ l ∈ y, l < 3) {k : Nat} (hk : (mk (rp y (k + 1)) : G (Mo a b d)) = mk []) :
    (y.length % 2 = 1 ∧ (mk (rp y 2) : G (Mo a b d)) = mk []) ∨
    (y.length % 2 = 0 ∧ ((mk y : G (Mo a b d)) = mk [] ∨ ∃ i j, i < 3 ∧ j < 3 ∧ i ≠ j ∧ Mo a b d i j ≠ 0 ∧ (mk (rp y (Mo a b d i j)) : G (Mo a b d)) = mk [])) := by
  obtain ⟨g, h⟩ := gs_ok hg
  exact orders (Mo_ords hg.la hg.lb hg.lc) (cc_ok hg.la hg.lb hg.lc) h hy hk
#print axioms orders_good
end Go.Proofs.Ytogchohpnbeldaa.Rs
