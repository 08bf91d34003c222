/- The length of an element: a distance. TilesFar. -/
import Derived.Test.YtbioehaapcnjmaaCoxA
import Derived.Test.YtbioehaapcnjmaaSnA
import Derived.Test.YtbioehaapcnjmaaZd
namespace Go.Proofs.Ytbioehaapcnjmaa.Cx
variable {M : Nat → Nat → Nat}

noncomputable def len (x : G M) : Nat := (nf x).length
theorem len_le (w : List Nat) : len (mk w : G M) ≤ w.length := (nf_greedy _).red _ (mk_nf _).symm
theorem len_inv_le (x : G M) : len (inv x) ≤ len x := by
  have h := len_le (M := M) (nf x).reverse
  rw [← inv_mk, mk_nf, List.length_reverse] at h
  exact h
theorem len_inv (x : G M) : len (inv x) = len x := by
  have h1 := len_inv_le x
  have h2 := len_inv_le (inv x)
  rw [inv_inv] at h2
  omega
theorem len_mul (x y : G M) : len (x * y) ≤ len x + len y := by
  have h := len_le (M := M) (nf x ++ nf y)
  rw [← mk_mul, mk_nf, mk_nf, List.length_append] at h
  exact h
theorem len_zero {x : G M} : len x = 0 ↔ x = mk [] := by
  constructor
  · intro h
    have : nf x = [] := List.length_eq_zero_iff.1 h
    rw [← mk_nf x, this]
  · rintro rfl
    have := len_le (M := M) []
    simpa using this
theorem len_letter (i : Nat) : len (mk [i] : G M) = 1 := by
  have h1 := len_le (M := M) [i]
  have h2 := len_parity (M := M) (mk_nf (mk [i]))
  simp only [List.length_cons, List.length_nil] at h1 h2
  unfold len at *
  omega
/-- the distance of two words -/
noncomputable def farW (u v : List Nat) : Nat := len (mk (u.reverse ++ v) : G M)
theorem farW_eq (u v : List Nat) : farW (M := M) u v = len (inv (mk u) * mk v : G M) := rfl
theorem farW_symm (u v : List Nat) : farW (M := M) v u = farW (M := M) u v := by
  rw [farW_eq, farW_eq, ← len_inv, inv_mul, inv_inv]
theorem farW_zero (u v : List Nat) : farW (M := M) u v = 0 ↔ (mk u : G M) = mk v := by
  rw [farW_eq, len_zero]
  constructor
  · intro h
    have : (inv (mk u) * mk u : G M) = inv (mk u) * mk v := by rw [h, inv_mul_self]
    exact cancel_left this
  · intro h; rw [h, inv_mul_self]
theorem farW_tri (u v w : List Nat) : farW (M := M) u v ≤ farW (M := M) u w + farW (M := M) w v := by
  rw [farW_eq, farW_eq, farW_eq]
  have h := len_mul (inv (mk u) * mk w : G M) (inv (mk w) * mk v)
  rw [mul_assoc, ← mul_assoc (mk w), mul_inv, one_mul] at h
  exact h
theorem farW_move (u v w : List Nat) : farW (M := M) (w ++ u) (w ++ v) = farW (M := M) u v := by
  rw [farW_eq, farW_eq, ← mk_mul, ← mk_mul, inv_mul, mul_assoc, ← mul_assoc (inv (mk w)), inv_mul_self, one_mul]
theorem farW_side (u : List Nat) (i : Nat) : farW (M := M) u (u ++ [i]) = 1 := by
  rw [farW_eq, ← mk_mul, ← mul_assoc, inv_mul_self, one_mul, len_letter]
end Go.Proofs.Ytbioehaapcnjmaa.Cx

namespace Go.Proofs.Ytbioehaapcnjmaa
open Go.RowKit Go.Shelf Cx

/-- what the program answers of two words -/
structure FarF (a b c : Nat) (u v T N U V : ByteArray) : Prop where
  f1 : ∀ W, Calls Try.prog 31 #[.agg #[.int .i64 a, .int .i64 b, .int .i64 c], .string u, .string v] W fun e w' => e = .returned (.tuple #[.int .i64 N.size, .int .i64 0]) ∧ Below W.heap.size W w'
  f2 : ∀ W, Calls Try.prog 31 #[.agg #[.int .i64 a, .int .i64 b, .int .i64 c], .string v, .string u] W fun e w' => e = .returned (.tuple #[.int .i64 N.size, .int .i64 0]) ∧ Below W.heap.size W w'
  tu : ∀ W, Calls Try.prog 23 #[.string u] W fun e w' => e = .returned (.string T) ∧ w' = W
  s1 : ∀ W, (Op.stringOp .add T v).run Try.prog W = .ok (.string (T ++ v)) W
  w1 : ∀ W, Calls Try.prog 32 #[.agg #[.int .i64 a, .int .i64 b, .int .i64 c], .string (T ++ v)] W fun e w' => e = .returned (.string N) ∧ Below W.heap.size W w'
  w2 : ∀ W, Calls Try.prog 32 #[.agg #[.int .i64 a, .int .i64 b, .int .i64 c], .string u] W fun e w' => e = .returned (.string U) ∧ Below W.heap.size W w'
  w3 : ∀ W, Calls Try.prog 32 #[.agg #[.int .i64 a, .int .i64 b, .int .i64 c], .string v] W fun e w' => e = .returned (.string V) ∧ Below W.heap.size W w'
  eq : (N.size = 0 ∧ U = V) ∨ (N.size ≠ 0 ∧ U ≠ V)
  small : N.size ≤ 1000
  way : N.size = (wayS a b c u v).length
/-- and of a third -/
structure FarG (a b c : Nat) (u v s : ByteArray) (n A B : Nat) : Prop where
  f3 : ∀ W, Calls Try.prog 31 #[.agg #[.int .i64 a, .int .i64 b, .int .i64 c], .string u, .string s] W fun e w' => e = .returned (.tuple #[.int .i64 A, .int .i64 0]) ∧ Below W.heap.size W w'
  f4 : ∀ W, Calls Try.prog 31 #[.agg #[.int .i64 a, .int .i64 b, .int .i64 c], .string s, .string v] W fun e w' => e = .returned (.tuple #[.int .i64 B, .int .i64 0]) ∧ Below W.heap.size W w'
  tri : n ≤ A + B
  sa : A ≤ 1000
  sb : B ≤ 1000
  f5 : s.size + u.size ≤ 60 → s.size + v.size ≤ 60 → ∀ W, Calls Try.prog 31 #[.agg #[.int .i64 a, .int .i64 b, .int .i64 c], .string (s ++ u), .string (s ++ v)] W fun e w' => e = .returned (.tuple #[.int .i64 n, .int .i64 0]) ∧ Below W.heap.size W w'
  s2 : ∀ W, (Op.stringOp .add s u).run Try.prog W = .ok (.string (s ++ u)) W
  s3 : ∀ W, (Op.stringOp .add s v).run Try.prog W = .ok (.string (s ++ v)) W
  f6 : ∀ i, i < 3 → u.size < 60 → ∀ W, Calls Try.prog 31 #[.agg #[.int .i64 a, .int .i64 b, .int .i64 c], .string u, .string (u ++ str [i])] W fun e w' => e = .returned (.tuple #[.int .i64 1, .int .i64 0]) ∧ Below W.heap.size W w'
  s4 : ∀ i W, (Op.stringOp .add u (str [i])).run Try.prog W = .ok (.string (u ++ str [i])) W

theorem wayS_len (a b c : Nat) (u v : ByteArray) : (wayS a b c u v).length = farW (M := Mo a b c) (bytesN u) (bytesN v) := rfl
theorem wayS_small {a b c : Nat} {u v : ByteArray} (hu : checkS u = 0) (hv : checkS v = 0) : (wayS a b c u v).length ≤ 120 := by
  have h := len_le (M := Mo a b c) ((bytesN u).reverse ++ bytesN v)
  rw [List.length_append, List.length_reverse, bytesN_length, bytesN_length] at h
  have := (checkS_low hu).2
  have := (checkS_low hv).2
  have h2 : (wayS a b c u v).length = len (mk ((bytesN u).reverse ++ bytesN v) : G (Mo a b c)) := rfl
  omega

theorem far_facts {a b c : Nat} (hg : Good a b c) {u v : ByteArray} (hu : checkS u = 0) (hv : checkS v = 0) : ∃ T N U V, FarF a b c u v T N U V := by
  have cu := checkS_low hu
  have cv := checkS_low hv
  have hsm := wayS_small (a := a) (b := b) (c := c) hu hv
  have hlow : ∀ y ∈ bytesN (turnS u ++ v), y < 3 := by
    rw [bytesN_append, turnS_bytes]
    intro y hy
    rcases List.mem_append.1 hy with h | h
    · exact cu.1 y (List.mem_reverse.1 h)
    · exact cv.1 y h
  refine ⟨turnS u, str (wayS a b c u v), str (nfW a b c [u]), str (nfW a b c [v]), ?_, ?_, fun W => Turned_any u (by omega) W, fun W => run_string_add_sum W (turnS u) v (by rw [turnS_size]; omega), ?_, ?_, ?_, ?_, by rw [str_size]; omega, str_size _⟩
  · intro W; rw [str_size]; exact Far_ok a b c u v hg hu hv W
  · intro W
    have h := Far_ok a b c v u hg hv hu W
    have e : (wayS a b c v u).length = (wayS a b c u v).length := by rw [wayS_len, wayS_len, farW_symm]
    rw [e] at h
    rw [str_size]
    exact h
  · intro W
    have h := Word_ok hg (turnS u ++ v) hlow (by rw [ByteArray.size_append, turnS_size]; omega) W
    have e : nfW a b c [turnS u ++ v] = wayS a b c u v := by
      show nf _ = nf _
      rw [cat_one, bytesN_append, turnS_bytes]
    rw [e] at h
    exact h
  · intro W; exact Word_ok hg u cu.1 (by omega) W
  · intro W; exact Word_ok hg v cv.1 (by omega) W
  · have hz := farW_zero (M := Mo a b c) (bytesN u) (bytesN v)
    rw [str_size, wayS_len]
    have l1 : ∀ y ∈ cat [u], y < 3 := by rw [cat_one]; exact cu.1
    have l2 : ∀ y ∈ cat [v], y < 3 := by rw [cat_one]; exact cv.1
    by_cases h : (mk (bytesN u) : G (Mo a b c)) = mk (bytesN v)
    · refine .inl ⟨hz.2 h, ?_⟩
      rw [nfW_same (ws := [u]) (vs := [v]) (by rw [cat_one, cat_one]; exact h)]
    · refine .inr ⟨fun h2 => h (hz.1 h2), fun h2 => h ?_⟩
      have h3 : nfW a b c [u] = nfW a b c [v] := by rw [← bytes_nfW l1, ← bytes_nfW l2, h2]
      have h4 := nfW_mk a b c [u]
      have h5 := nfW_mk a b c [v]
      rw [cat_one] at h4 h5
      rw [← h4, ← h5, h3]

theorem check_join {s t : ByteArray} (hs : checkS s = 0) (ht : checkS t = 0) (h : s.size + t.size ≤ 60) : checkS (s ++ t) = 0 := by
  have h1 : s ++ t = str (bytesN s ++ bytesN t) := by rw [← bytesN_append, str_bytes]
  rw [h1]
  refine check_str ?_ (by rw [List.length_append, bytesN_length, bytesN_length]; exact h)
  intro y hy
  rcases List.mem_append.1 hy with h | h
  · exact (checkS_low hs).1 y h
  · exact (checkS_low ht).1 y h

theorem far_third {a b c : Nat} (hg : Good a b c) {u v s : ByteArray} (hu : checkS u = 0) (hv : checkS v = 0) (hs : checkS s = 0) {n : Nat} (hn : n = (wayS a b c u v).length) : ∃ A B, FarG a b c u v s n A B := by
  have cu := checkS_low hu
  have cv := checkS_low hv
  have cs := checkS_low hs
  subst hn
  have k1 : ∀ i, i < 3 → checkS (str [i]) = 0 := fun i hi => check_str (by intro y hy; simp at hy; omega) (by simp)
  refine ⟨_, _, fun W => Far_ok a b c u s hg hu hs W, fun W => Far_ok a b c s v hg hs hv W, ?_, ?_, ?_, ?_, fun W => run_string_add_sum W s u (by omega), fun W => run_string_add_sum W s v (by omega), ?_, fun i W => run_string_add_sum W u (str [i]) (by rw [str_size]; simp; omega)⟩
  · rw [wayS_len, wayS_len, wayS_len]; exact farW_tri _ _ _
  · have := wayS_small (a := a) (b := b) (c := c) hu hs; omega
  · have := wayS_small (a := a) (b := b) (c := c) hs hv; omega
  · intro h1 h2 W
    have h := Far_ok a b c (s ++ u) (s ++ v) hg (check_join hs hu h1) (check_join hs hv h2) W
    have e : (wayS a b c (s ++ u) (s ++ v)).length = (wayS a b c u v).length := by rw [wayS_len, wayS_len, bytesN_append, bytesN_append, farW_move]
    rw [e] at h
    exact h
  · intro i hi h1 W
    have h := Far_ok a b c u (u ++ str [i]) hg hu (check_join hu (k1 i hi) (by rw [str_size]; simp; omega)) W
    have e : (wayS a b c u (u ++ str [i])).length = 1 := by rw [wayS_len, bytesN_append, bytesN_str (by intro y hy; simp at hy; omega), farW_side]
    rw [e] at h
    exact h
end Go.Proofs.Ytbioehaapcnjmaa
