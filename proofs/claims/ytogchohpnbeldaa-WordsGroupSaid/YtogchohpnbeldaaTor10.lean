/- The orders of what is of finite order. -/
import Derived.Test.YtogchohpnbeldaaTor9
namespace Go.Proofs.Ytogchohpnbeldaa.Rs
open Cx

variable {M : Nat → Nat → Nat}

theorem rp_succ' (y : List Nat) (k : Nat) : rp y (k + 1) = rp y k ++ y := by
  induction k with
  | zero => simp [rp]
  | succ k ih =>
    show y ++ rp y (k + 1) = (y ++ rp y k) ++ y
    rw [ih, List.append_assoc]
theorem rp_mul (y : List Nat) (p : Nat) : ∀ q, rp (rp y p) q = rp y (p * q) := by
  have add : ∀ q p, rp y (p + q) = rp y p ++ rp y q := by
    intro q p
    induction p with
    | zero => simp [rp]
    | succ p ih => rw [Nat.add_right_comm]; show y ++ rp y (p + q) = (y ++ rp y p) ++ rp y q; rw [ih, List.append_assoc]
  intro q
  induction q with
  | zero => rfl
  | succ q ih =>
    show rp y p ++ rp (rp y p) q = _
    rw [ih, Nat.mul_succ, Nat.add_comm, add]
theorem rp_one {y : List Nat} (h : (mk y : G M) = mk []) (q : Nat) : (mk (rp y q) : G M) = mk [] := by
  induction q with
  | zero => rfl
  | succ q ih =>
    show (mk y * mk (rp y q) : G M) = mk []
    rw [h, ih]; rfl
theorem alt_rp (i j q : Nat) : alt i j (2 * q) = rp [i, j] q := by
  induction q with
  | zero => rfl
  | succ q ih =>
    show alt i j (2 * q + 2) = [i, j] ++ rp [i, j] q
    rw [← ih]; rfl

/-- a reduced word of two letters -/
theorem two_letters {i j : Nat} : ∀ {z : List Nat}, Red M z → (∀ l ∈ z, l = i ∨ l = j) → z = alt i j z.length ∨ z = alt j i z.length := by
  intro z
  induction z with
  | nil => intro _ _; exact .inl rfl
  | cons t z ih =>
    intro hr hl
    have ht := hl t List.mem_cons_self
    have h := ih (red_tail hr) fun l hm => hl l (List.mem_cons_of_mem _ hm)
    have hne : ∀ v, z = t :: v → False := by
      intro v e
      subst e
      have := hr v (mk_sq [] v t).symm
      simp at this
      omega
    cases z with
    | nil =>
      rcases ht with rfl | rfl
      · exact .inl rfl
      · exact .inr rfl
    | cons u z =>
      have hu : u ≠ t := fun e => hne z (by rw [e])
      have hz : ∀ x x', u :: z = alt x x' (z.length + 1) → u = x := by
        intro x x' e
        have e2 : alt x x' (z.length + 1) = x :: alt x' x z.length := rfl
        rw [e2] at e
        injection e
      rcases h with h | h
      · have e1 := hz i j h
        have : t = j := by
          rcases ht with ht | ht
          · exact absurd (e1.trans ht.symm) hu
          · exact ht
        right
        subst this
        show t :: u :: z = t :: alt i t (z.length + 1)
        rw [← List.length_cons (a := u), ← h]
      · have e1 := hz j i h
        have : t = i := by
          rcases ht with ht | ht
          · exact ht
          · exact absurd (e1.trans ht.symm) hu
        left
        subst this
        show t :: u :: z = t :: alt j t (z.length + 1)
        rw [← List.length_cons (a := u), ← h]

/-- an alternating word of finite order -/
theorem alt_order (hM : Ords M) {i j : Nat} (hij : i ≠ j) {n k : Nat} (hk : (mk (rp (alt i j n) (k + 1)) : G M) = mk []) :
    (n % 2 = 1 ∧ (mk (rp (alt i j n) 2) : G M) = mk []) ∨ (n % 2 = 0 ∧ ((mk (alt i j n) : G M) = mk [] ∨ (M i j ≠ 0 ∧ (mk (rp (alt i j n) (M i j)) : G M) = mk []))) := by
  by_cases hn : n % 2 = 0
  · right
    refine ⟨hn, ?_⟩
    obtain ⟨p, rfl⟩ : ∃ p, n = 2 * p := ⟨n / 2, by omega⟩
    by_cases h0 : M i j = 0
    · left
      rcases Nat.eq_zero_or_pos p with hp | hp
      · subst hp; rfl
      · exfalso
        rw [alt_rp, rp_mul, ← alt_rp] at hk
        exact alt_exact hM hij (Nat.mul_pos hp (Nat.succ_pos k)) (.inl h0) hk
    · right
      refine ⟨h0, ?_⟩
      rw [alt_rp, rp_mul, Nat.mul_comm p (M i j), ← rp_mul]
      refine rp_one ?_ p
      rw [← alt_rp]
      exact alt_two i j
  · left
    refine ⟨by omega, ?_⟩
    have e : (alt i j n).reverse = alt i j n := by rw [alt_reverse, if_neg hn]
    have h := mk_pal (M := M) (alt i j n)
    rw [e] at h
    show (mk (alt i j n ++ (alt i j n ++ [])) : G M) = mk []
    rw [List.append_nil]
    exact h

/-- powers of what is moved -/
theorem moved_rp {w y z : List Nat} (hz : (mk z : G M) = mk (w ++ (y ++ w.reverse))) (q : Nat) : (mk (rp z q) : G M) = mk w * mk (rp y q) * inv (mk w) := by
  induction q with
  | zero =>
    show (mk [] : G M) = mk w * mk [] * inv (mk w)
    rw [mul_one, mul_inv]
  | succ q ih =>
    show (mk z * mk (rp z q) : G M) = mk w * (mk y * mk (rp y q)) * inv (mk w)
    rw [ih, hz, ← mk_mul, ← mk_mul, ← inv_mk]
    simp only [mul_assoc]
    rw [← mul_assoc (inv (mk w)) (mk w), inv_mul_self, one_mul]
theorem moved_one {w y z : List Nat} (hz : (mk z : G M) = mk (w ++ (y ++ w.reverse))) {q : Nat} : (mk (rp z q) : G M) = mk [] ↔ (mk (rp y q) : G M) = mk [] := by
  rw [moved_rp hz]
  constructor
  · intro h
    have h1 : (mk w * mk (rp y q) : G M) * inv (mk w) = mk w * inv (mk w) := by rw [h, mul_inv]
    have h2 := cancel_right h1
    have h3 : (mk w * mk (rp y q) : G M) = mk w * mk [] := by rw [h2, mul_one]
    exact cancel_left h3
  · intro h
    rw [h, mul_one, mul_inv]

/-- THE ORDERS: of a word of finite order -/
theorem orders {a b d : Nat} {c : Nat → Nat → Nat → Rat} (hM : Ords (Mo a b d)) (hC : Ps (Mo a b d) c) {g : Nat → Rat} (hg : Gs c g) {y : List Nat} (hy : ∀ l ∈ y, l < 3) {k : Nat} (hk : (mk (rp y (k + 1)) : G (Mo a b d)) = mk []) :
    (y.length % 2 = 1 ∧ (mk (rp y 2) : G (Mo a b d)) = mk []) ∨
    (y.length % 2 = 0 ∧ ((mk y : G (Mo a b d)) = mk [] ∨ ∃ i j, i < 3 ∧ j < 3 ∧ i ≠ j ∧ Mo a b d i j ≠ 0 ∧ (mk (rp y (Mo a b d i j)) : G (Mo a b d)) = mk [])) := by
  obtain ⟨w, z, s, hr, hz, _, hzl, hs, hsz⟩ := finite_low hM hC hg hy hk
  obtain ⟨i, j, hi, hj, hij, hl⟩ : ∃ i j, i < 3 ∧ j < 3 ∧ i ≠ j ∧ ∀ l ∈ z, l = i ∨ l = j := by
    have hne : ∀ l ∈ z, l ≠ s := fun l h e => hsz (e ▸ h)
    have h3 : s = 0 ∨ s = 1 ∨ s = 2 := by omega
    rcases h3 with rfl | rfl | rfl
    · exact ⟨1, 2, by omega, by omega, by omega, fun l h => by have := hzl l h; have := hne l h; omega⟩
    · exact ⟨0, 2, by omega, by omega, by omega, fun l h => by have := hzl l h; have := hne l h; omega⟩
    · exact ⟨0, 1, by omega, by omega, by omega, fun l h => by have := hzl l h; have := hne l h; omega⟩
  have hpar : z.length % 2 = y.length % 2 := by
    have := len_parity hz
    simp only [List.length_append, List.length_reverse] at this
    omega
  have hzk := (moved_one hz (q := k + 1)).2 hk
  have one : ∀ {q : Nat}, (mk (rp z q) : G (Mo a b d)) = mk [] → (mk (rp y q) : G (Mo a b d)) = mk [] := fun h => (moved_one hz).1 h
  have oneone : (mk z : G (Mo a b d)) = mk [] → (mk y : G (Mo a b d)) = mk [] := fun h => by
    have h1 := one (q := 1) (by show (mk (z ++ []) : G (Mo a b d)) = mk []; rw [List.append_nil]; exact h)
    have h2 : rp y 1 = y := by show y ++ [] = y; rw [List.append_nil]
    rw [h2] at h1
    exact h1
  have fin : ∀ i j, i < 3 → j < 3 → i ≠ j → z = alt i j z.length →
      (y.length % 2 = 1 ∧ (mk (rp y 2) : G (Mo a b d)) = mk []) ∨
      (y.length % 2 = 0 ∧ ((mk y : G (Mo a b d)) = mk [] ∨ ∃ i j, i < 3 ∧ j < 3 ∧ i ≠ j ∧ Mo a b d i j ≠ 0 ∧ (mk (rp y (Mo a b d i j)) : G (Mo a b d)) = mk [])) := by
    intro i j hi hj hij e
    rw [e] at hzk
    rcases alt_order hM hij hzk with ⟨h1, h2⟩ | ⟨h1, h2 | ⟨h2, h3⟩⟩
    · rw [← e] at h2
      exact .inl ⟨by omega, one h2⟩
    · rw [← e] at h2
      exact .inr ⟨by omega, .inl (oneone h2)⟩
    · rw [← e] at h3
      exact .inr ⟨by omega, .inr ⟨i, j, hi, hj, hij, h2, one h3⟩⟩
  rcases two_letters hr hl with h | h
  · exact fin i j hi hj hij h
  · exact fin j i hj hi (Ne.symm hij) h
end Go.Proofs.Ytogchohpnbeldaa.Rs
