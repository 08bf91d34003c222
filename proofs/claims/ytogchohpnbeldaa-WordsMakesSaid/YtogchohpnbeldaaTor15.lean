/- The orders that the program finds. -/
import Derived.Test.YtogchohpnbeldaaTor14
import Derived.Test.YtogchohpnbeldaaYw
namespace Go.Proofs.Ytogchohpnbeldaa.Rs
open Cx

theorem rep_rp (s : ByteArray) (n : Nat) : rep s n = rp (bytesN s) n := by
  induction n with
  | zero => simp [rep, rp]
  | succ n ih => rw [rep_succ, ih]; rfl

theorem rp_add {M : Nat → Nat → Nat} (y : List Nat) (p q : Nat) : (mk (rp y (p + q)) : G M) = mk (rp y p) * mk (rp y q) := by
  induction p with
  | zero => rw [Nat.zero_add]; exact (one_mul _).symm
  | succ p ih =>
    rw [Nat.add_right_comm]
    show (mk y * mk (rp y (p + q)) : G M) = mk y * mk (rp y p) * mk (rp y q)
    rw [ih, mul_assoc]

/-- the least one divides all -/
theorem least_dvd {M : Nat → Nat → Nat} {y : List Nat} {k : Nat} (hk : 1 ≤ k) (h1 : (mk (rp y k) : G M) = mk []) (hmin : ∀ j, 1 ≤ j → j < k → (mk (rp y j) : G M) ≠ mk []) {q : Nat} (hq : (mk (rp y q) : G M) = mk []) : k ∣ q := by
  induction q using Nat.strongRecOn with
  | ind q ih =>
    rcases Nat.eq_zero_or_pos q with h0 | h0
    · subst h0; exact Nat.dvd_zero k
    · rcases Nat.lt_or_ge q k with h | h
      · exact absurd hq (hmin q h0 h)
      · obtain ⟨r, rfl⟩ : ∃ r, q = k + r := ⟨q - k, by omega⟩
        have h2 : (mk (rp y r) : G M) = mk [] := by
          rw [rp_add, h1, one_mul] at hq
          exact hq
        exact (Nat.dvd_add_iff_right (Nat.dvd_refl k)).1 (ih r (by omega) h2)

theorem round_orders {a b d : Nat} (hg : Good a b d) {s : ByteArray} (hs : checkS s = 0) {n : Int} (h : RRound a b d s n) :
    (s.size % 2 = 1 → n = 0 ∨ n = 2) ∧
    (n = 0 ∨ n = 1 ∨ n = 2 ∨ ∃ i j k, i < 3 ∧ j < 3 ∧ i ≠ j ∧ n = ((k : Nat) : Int) ∧ 0 < k ∧ Mo a b d i j ≠ 0 ∧ k ∣ Mo a b d i j) := by
  rcases h with ⟨h, _⟩ | ⟨k, rfl, h1, _, h2, h3⟩
  · exact ⟨fun _ => .inl h, .inl h⟩
  · obtain ⟨q, rfl⟩ : ∃ q, k = q + 1 := ⟨k - 1, by omega⟩
    rw [rep_rp] at h2
    have hmin : ∀ j, 1 ≤ j → j < q + 1 → (mk (rp (bytesN s) j) : G (Mo a b d)) ≠ mk [] := fun j a b => by rw [← rep_rp]; exact h3 j a b
    have hd := fun {p : Nat} (hp : (mk (rp (bytesN s) p) : G (Mo a b d)) = mk []) => least_dvd h1 h2 hmin hp
    have ho := orders_good hg (checkS_low hs).1 h2
    rw [bytesN_length] at ho
    have two : (mk (rp (bytesN s) 2) : G (Mo a b d)) = mk [] → q + 1 = 1 ∨ q + 1 = 2 := fun h => by
      have := Nat.le_of_dvd (by omega) (hd h)
      omega
    refine ⟨fun hodd => ?_, ?_⟩
    · rcases ho with ⟨_, ho⟩ | ⟨he, _⟩
      · rcases two ho with h | h
        · exfalso
          rw [h] at h2
          have h4 : rp (bytesN s) 1 = bytesN s := by show bytesN s ++ [] = bytesN s; rw [List.append_nil]
          rw [h4] at h2
          have := len_parity h2
          rw [bytesN_length] at this
          simp at this
          omega
        · right; omega
      · omega
    · rcases ho with ⟨_, ho⟩ | ⟨_, ho | ⟨i, j, hi, hj, hij, h0, ho⟩⟩
      · rcases two ho with h | h
        · right; left; omega
        · right; right; left; omega
      · right; left
        have h4 : rp (bytesN s) 1 = bytesN s := by show bytesN s ++ [] = bytesN s; rw [List.append_nil]
        have := Nat.le_of_dvd (by omega) (hd (p := 1) (by rw [h4]; exact ho))
        omega
      · exact .inr (.inr (.inr ⟨i, j, q + 1, hi, hj, hij, rfl, by omega, h0, hd ho⟩))
end Go.Proofs.Ytogchohpnbeldaa.Rs
