/- What is no descent stays above. -/
import Derived.Test.YtogchohpnbeldaaTor4
namespace Go.Proofs.Ytogchohpnbeldaa.Rs
open Cx

variable {M : Nat → Nat → Nat} {c : Nat → Nat → Nat → Rat}

theorem peel_from {t s : Nat} : ∀ (n k : Nat) (v w : List Nat), v.length = n → 1 ≤ k → (mk (alt t s k ++ v) : G M) = mk w → k + v.length = w.length →
    ∃ k v, 1 ≤ k ∧ (mk (alt t s k ++ v) : G M) = mk w ∧ k + v.length = w.length ∧ ¬ Ds (mk v : G M) (turn t s k) := by
  intro n
  induction n with
  | zero =>
    intro k v w hv hk he hl
    refine ⟨k, v, hk, he, hl, ?_⟩
    rw [List.length_eq_zero_iff.1 hv]
    exact not_ds_nil _
  | succ n ih =>
    intro k v w hv hk he hl
    by_cases hd : Ds (mk v : G M) (turn t s k)
    · obtain ⟨v', h1, h2⟩ := ds_word hd
      refine ih (k + 1) v' w (by omega) (by omega) ?_ (by omega)
      rw [alt_snoc, List.append_assoc]
      have : (mk (alt t s k ++ ([turn t s k] ++ v')) : G M) = mk (alt t s k) * mk (turn t s k :: v') := rfl
      rw [this, h2]
      exact he
    · exact ⟨k, v, hk, he, hl, hd⟩

theorem peel (hM : Ords M) {t s : Nat} (hts : s ≠ t) {w : List Nat} (hw : Red M (t :: w)) (hs : ¬ Ds (mk (t :: w) : G M) s) :
    ∃ k v, 1 ≤ k ∧ (mk (alt t s k ++ v) : G M) = mk (t :: w) ∧ k + v.length = w.length + 1 ∧ Red M v ∧ ¬ Ds (mk v : G M) t ∧ ¬ Ds (mk v : G M) s ∧ (M t s = 0 ∨ k < M t s) := by
  obtain ⟨k, v, hk, he, hl, hd⟩ := peel_from (M := M) (t := t) (s := s) w.length 1 w (t :: w) rfl (Nat.le_refl _) rfl (by simp; omega)
  have hlen : (alt t s k ++ v).length = (t :: w).length := by rw [List.length_append, alt_length]; exact hl
  have hr : Red M (alt t s k ++ v) := red_same hw he hlen
  obtain ⟨j, rfl⟩ : ∃ j, k = j + 1 := ⟨k - 1, by omega⟩
  have hr2 := hr
  rw [alt_snoc, List.append_assoc] at hr2
  have hr3 : Red M (turn t s j :: v) := red_drop hr2
  have hd2 : ¬ Ds (mk v : G M) (turn t s j) := by
    have := ds_of_head hr3
    exact (ds_front (turn t s j) (mk v : G M)).1 this
  have hcase : (turn t s (j + 1) = s ∧ turn t s j = t) ∨ (turn t s (j + 1) = t ∧ turn t s j = s) := by
    unfold turn
    by_cases h : j % 2 = 0
    · left; rw [if_neg (by omega), if_pos h]; exact ⟨rfl, rfl⟩
    · right; rw [if_pos (by omega), if_neg h]; exact ⟨rfl, rfl⟩
  have h2 : ¬ Ds (mk v : G M) t ∧ ¬ Ds (mk v : G M) s := by
    rcases hcase with ⟨h1, h2⟩ | ⟨h1, h2⟩
    · rw [h1] at hd; rw [h2] at hd2; exact ⟨hd2, hd⟩
    · rw [h1] at hd; rw [h2] at hd2; exact ⟨hd, hd2⟩
  refine ⟨j + 1, v, hk, he, by simpa using hl, red_drop hr, h2.1, h2.2, ?_⟩
  by_cases h0 : M t s = 0
  · exact .inl h0
  · right
    refine Nat.lt_of_not_le fun hle => hs ?_
    obtain ⟨d, hd⟩ : ∃ d, j + 1 = M t s + d := ⟨j + 1 - M t s, by omega⟩
    rw [hd, alt_add, List.append_assoc] at he hr
    have e2 : (mk (alt s t (M t s) ++ (alt (turn t s (M t s)) (turn s t (M t s)) d ++ v)) : G M) = mk (t :: w) := by
      have := mk_br (M := M) [] (alt (turn t s (M t s)) (turn s t (M t s)) d ++ v) t s
      exact this.symm.trans he
    have hr4 : Red M (alt s t (M t s) ++ (alt (turn t s (M t s)) (turn s t (M t s)) d ++ v)) := red_same hr (e2.trans he.symm) (by simp [alt_length])
    obtain ⟨m, hm⟩ : ∃ m, M t s = m + 1 := ⟨M t s - 1, by omega⟩
    rw [← e2]
    rw [hm] at hr4 ⊢
    exact ds_of_head hr4

/-- the numbers of the rows -/
structure Ps (M : Nat → Nat → Nat) (c : Nat → Nat → Nat → Rat) : Prop extends Cs M c where
  pos : ∀ i j, i ≠ j → ∀ k, 1 ≤ k → (M i j = 0 ∨ k < M i j) → Pos (fun n => S (c i j n) k)

theorem S_set (hC : Cs M c) (i j : Nat) : ∀ k, Set (fun n => S (c i j n) k) ∧ Set (fun n => S (c i j n) (k + 1)) := by
  intro k
  induction k with
  | zero => exact ⟨set_const 0, set_const 1⟩
  | succ k ih => exact ⟨ih.2, (((hC.set i j).mul ih.2).add ih.1.neg).congr fun n => by rw [S_step]; grind⟩

theorem Nn.mul {f g : Nat → Rat} (hf : Nn f) (hg : Pos g) (hb : Bnd g) : Nn (fun n => f n * g n) := by
  intro e he
  obtain ⟨d, hd, N, h1⟩ := hg
  obtain ⟨B, hB, M, h2⟩ := hb
  have hdB : 0 < e / B := by rw [Rat.div_def]; exact Rat.mul_pos he (Rat.inv_pos.2 hB)
  obtain ⟨K, h3⟩ := hf _ hdB
  refine ⟨N + M + K, fun n hn => ?_⟩
  have a := h1 n (by omega)
  have b := h2 n (by omega)
  have x := h3 n (by omega)
  have eB : e / B * B = e := by rw [Rat.div_def, Rat.mul_assoc, Rat.inv_mul_cancel _ (by grind), Rat.mul_one]
  have h4 : 0 < (f n + e / B) * g n := Rat.mul_pos (by grind) (by grind)
  have h5 : 0 < e / B * (B - g n) := Rat.mul_pos hdB (by grind)
  show -e < f n * g n
  grind

theorem Pos.nn_add {f g : Nat → Rat} (hf : Pos f) (hg : Nn g) : Pos (fun n => f n + g n) := by
  obtain ⟨e, he, N, h1⟩ := hf
  obtain ⟨M, h2⟩ := hg _ (half_pos he)
  refine ⟨e / 2, half_pos he, N + M, fun n hn => ?_⟩
  have a := h1 n (by omega)
  have b := h2 n (by omega)
  show e / 2 < f n + g n
  grind

theorem positive (hM : Ords M) (hC : Ps M c) {V : Vec} (hV : SetV V) : ∀ (n : Nat) (w : List Nat), w.length = n → Red M w → ∀ s, ¬ Ds (mk w : G M) s →
    ((∀ h, Nn (V h)) → Nn (Rs.acts c w V s)) ∧ ((∀ h, Pos (V h)) → Pos (Rs.acts c w V s)) := by
  intro n
  induction n using Nat.strongRecOn with
  | ind n ih =>
    intro w hn hw s hs
    cases w with
    | nil => exact ⟨fun h => h s, fun h => h s⟩
    | cons t w =>
      have hts : s ≠ t := by
        rintro rfl
        exact hs (ds_of_head hw)
      obtain ⟨k, v, hk, he, hl, hv, h1, h2, h3⟩ := peel hM hts hw hs
      have hlt : v.length < n := by simp at hn; omega
      have a1 := ih v.length hlt v rfl hv t h1
      have a2 := ih v.length hlt v rfl hv s h2
      have hsim := acts_sim hC.toCs hV he s
      have hVv := SetV.acts hC.toCs hV v
      have hS := S_set hC.toCs t s k
      have hSk := hC.pos t s (Ne.symm hts) k hk h3
      have hSk1 : Pos (fun n => S (c t s n) (k + 1)) ∨ Nul (fun n => S (c t s n) (k + 1)) := by
        by_cases h : M t s = 0 ∨ k + 1 < M t s
        · exact .inl (hC.pos t s (Ne.symm hts) (k + 1) (by omega) h)
        · right
          have hm : M t s = k + 1 := by omega
          have := hC.nul t s (Ne.symm hts) (by omega)
          rw [hm] at this
          exact this
      have hval : ∀ n, Rs.acts c (alt t s k ++ v) V s n = S (c t s n) (k + 1) * Rs.acts c v V (turn s t k) n + S (c t s n) k * Rs.acts c v V (turn t s k) n := by
        intro n
        rw [acts_append]
        exact (alt_next c hC.sym (Rs.acts c v V) n k).1 t s hts
      have hx : ∀ K : (Nat → Rat) → Prop, K (Rs.acts c v V t) → K (Rs.acts c v V s) → K (Rs.acts c v V (turn s t k)) ∧ K (Rs.acts c v V (turn t s k)) := by
        intro K h1 h2
        unfold turn
        by_cases h : k % 2 = 0
        · rw [if_pos h, if_pos h]; exact ⟨h2, h1⟩
        · rw [if_neg h, if_neg h]; exact ⟨h1, h2⟩
      have hfirst : (∀ h, Nn (V h)) → Nn (fun n => S (c t s n) (k + 1) * Rs.acts c v V (turn s t k) n) := by
        intro h
        obtain ⟨n1, _⟩ := hx Nn (a1.1 h) (a2.1 h)
        rcases hSk1 with hp | hz
        · exact (n1.mul hp hS.2.bnd).congr fun n => by grind
        · exact (hz.mul (hVv (turn s t k)).bnd).nn
      constructor
      · intro h
        obtain ⟨_, n2⟩ := hx Nn (a1.1 h) (a2.1 h)
        have := (hfirst h).add ((n2.mul hSk hS.1.bnd).congr fun n => by grind : Nn (fun n => S (c t s n) k * Rs.acts c v V (turn t s k) n))
        exact (this.add hsim.neg.nn).congr fun n => by rw [← hval]; grind
      · intro h
        obtain ⟨_, n2⟩ := hx Pos (a1.2 h) (a2.2 h)
        have := (hSk.mul n2).nn_add (hfirst fun x => (h x).nn)
        exact (this.nul hsim.neg).congr fun n => by rw [hval]; grind
end Go.Proofs.Ytogchohpnbeldaa.Rs
