/- What the law of the group says of words. -/
import Derived.Test.YtogchohpnbeldaaXa
import Derived.Test.YtogchohpnbeldaaTor15
namespace Go.Proofs.Ytogchohpnbeldaa
open Go.RowKit Go.Shelf Cx

theorem nfW_mk (a b c : Nat) (ws : List ByteArray) : (mk (nfW a b c ws) : G (Mo a b c)) = mk (cat ws) := mk_nf _
theorem nfW_low {a b c : Nat} {ws : List ByteArray} (h : ∀ y ∈ cat ws, y < 3) : ∀ y ∈ nfW a b c ws, y < 3 := red_low (nfW_mk a b c ws) h (nf_greedy _).red
theorem nfW_len (a b c : Nat) (ws : List ByteArray) : (nfW a b c ws).length ≤ (cat ws).length := (nf_greedy _).red _ (nfW_mk a b c ws).symm
theorem cat_one (s : ByteArray) : cat [s] = bytesN s := by simp [cat]
theorem cat_two (s t : ByteArray) : cat [s, t] = bytesN s ++ bytesN t := by simp [cat]
theorem bytes_nfW {a b c : Nat} {ws : List ByteArray} (h : ∀ y ∈ cat ws, y < 3) : bytesN (str (nfW a b c ws)) = nfW a b c ws := bytesN_str (low256 (nfW_low h))
theorem nfW_same {a b c : Nat} {ws vs : List ByteArray} (h : (mk (cat ws) : G (Mo a b c)) = mk (cat vs)) : nfW a b c ws = nfW a b c vs := by
  unfold nfW; rw [h]

theorem rep_conj {a b c : Nat} {u s t : ByteArray} (ht : bytesN t = bytesN u ++ bytesN s ++ (bytesN u).reverse) (n : Nat) : (mk (rep t n) : G (Mo a b c)) = cj (mk (bytesN u)) (mk (rep s n)) := by
  induction n with
  | zero =>
    have e : (mk (rep t 0) : G (Mo a b c)) = mk [] := by simp [rep]
    have e2 : (mk (rep s 0) : G (Mo a b c)) = mk [] := by simp [rep]
    rw [e, e2]
    unfold cj
    rw [mul_one, mul_inv]
  | succ n ih =>
    rw [rep_succ, rep_succ, ← mk_mul, ih, ht, ← mk_mul, ← mk_mul, ← mk_mul]
    unfold cj
    rw [inv_mk]
    have h2 : (mk (bytesN u).reverse * mk (bytesN u) : G (Mo a b c)) = mk [] := inv_mul_self (mk (bytesN u))
    simp only [mul_assoc]
    rw [← mul_assoc (mk (bytesN u).reverse) (mk (bytesN u)), h2, one_mul]

theorem cj_one_iff {M : Nat → Nat → Nat} (x t : G M) : cj x t = mk [] ↔ t = mk [] := by
  constructor
  · intro h
    have : cj x t = cj x (mk []) := by
      rw [h]; unfold cj; rw [mul_one, mul_inv]
    exact cj_inj this
  · rintro rfl
    unfold cj; rw [mul_one, mul_inv]

theorem round_conj {a b c : Nat} {u s t : ByteArray} (ht : bytesN t = bytesN u ++ bytesN s ++ (bytesN u).reverse) {n : Int} (h : RRound a b c s n) : RRound a b c t n := by
  have e : ∀ k, (mk (rep t k) : G (Mo a b c)) = mk [] ↔ (mk (rep s k) : G (Mo a b c)) = mk [] := fun k => by rw [rep_conj ht]; exact cj_one_iff _ _
  rcases h with ⟨h1, h2⟩ | ⟨k, h1, h2, h3, h4, h5⟩
  · exact .inl ⟨h1, fun j a b hh => h2 j a b ((e j).1 hh)⟩
  · exact .inr ⟨k, h1, h2, h3, (e k).2 h4, fun j a b hh => h5 j a b ((e j).1 hh)⟩

theorem round_exists (a b c : Nat) (s : ByteArray) : ∃ n, RRound a b c s n := by
  have key : ∀ m, (∃ k, 1 ≤ k ∧ k ≤ m ∧ (mk (rep s k) : G (Mo a b c)) = mk [] ∧ ∀ j, 1 ≤ j → j < k → (mk (rep s j) : G (Mo a b c)) ≠ mk []) ∨ ∀ j, 1 ≤ j → j ≤ m → (mk (rep s j) : G (Mo a b c)) ≠ mk [] := by
    intro m
    induction m with
    | zero => exact .inr fun j h1 h2 => by omega
    | succ m ih =>
      rcases ih with ⟨k, h1, h2, h3, h4⟩ | h
      · exact .inl ⟨k, h1, by omega, h3, h4⟩
      · by_cases hm : (mk (rep s (m + 1)) : G (Mo a b c)) = mk []
        · exact .inl ⟨m + 1, by omega, Nat.le_refl _, hm, fun j h1 h2 => h j h1 (by omega)⟩
        · refine .inr fun j h1 h2 => ?_
          by_cases e : j = m + 1
          · subst e; exact hm
          · exact h j h1 (by omega)
  rcases key (mostS a b c).toNat with ⟨k, h1, h2, h3, h4⟩ | h
  · exact ⟨k, .inr ⟨k, rfl, h1, by omega, h3, h4⟩⟩
  · exact ⟨0, .inl ⟨rfl, fun j h1 h2 => h j h1 (by omega)⟩⟩

/-- does n divide an order that is not 0? -/
def divB (n m : Int) : Bool := decide (0 < n) && (decide (0 < m) && (m % n == 0))

set_option maxRecDepth 100000 in
theorem divides_any (n m : Nat) (w : World) :
    Calls Try.prog 24 #[.int .i64 n, .int .i64 m] w fun e w' => e = .returned (.bool (divB n m)) ∧ w' = w := by
  by_cases hn : 0 < n
  · have h1 : (0 : Int) < (n : Int) := by omega
    by_cases hm : 0 < m
    · have h2 : (0 : Int) < (m : Int) := by omega
      have hz : ¬ (n : Int) = 0 := by omega
      have hz2 : ((n : Int) == 0) = false := by simp; omega
      have e : divB n m = ((m : Int) % (n : Int) == 0) := by unfold divB; simp [hn, hm]
      rw [e]
      go_enter Try.func24, Try.ntmps24
      go_wp2_with fail
      go_ret
      refine ⟨?_, rfl⟩
      rfl
    · have h2 : decide ((0 : Int) < (m : Int)) = false := decide_eq_false (by omega)
      have e : divB n m = false := by unfold divB; rw [h2]; simp
      rw [e]
      go_enter Try.func24, Try.ntmps24
      go_wp2_with fail
      go_ret
      exact ⟨rfl, rfl⟩
  · have h1 : decide ((0 : Int) < (n : Int)) = false := decide_eq_false (by omega)
    have e : divB n m = false := by unfold divB; rw [h1]; rfl
    rw [e]
    go_enter Try.func24, Try.ntmps24
    go_wp2_with fail
    go_ret
    exact ⟨rfl, rfl⟩
end Go.Proofs.Ytogchohpnbeldaa
