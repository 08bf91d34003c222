/- The tiles around a corner. How many tiles a ring has: by descents. How many tiles a ring has: the series. -/
import Derived.Test.YtcpeeopdaakbaaaGreatVG
import Derived.Test.YtcpeeopdaakbaaaGreatCnA
namespace Go.Proofs.YtcpeeopdaakbaaaGreat.Cx
variable {M : Nat → Nat → Nat}

theorem mk_rev (w : List Nat) (x : G M) : x * mk w * mk w.reverse = x := by
  rw [mul_assoc, mk_mul, mk_pal, mul_one]
theorem mk_rev' (w : List Nat) (x : G M) : x * mk w.reverse * mk w = x := by
  have := mk_rev w.reverse x
  rwa [List.reverse_reverse] at this

/-- from a tile over neither of whose two sides one comes nearer each tile of a row is farther -/
theorem row_up (hM : Ords M) {s t : Nat} (hst : s ≠ t) {u : G M} (hs : ¬ Dr u s) (ht : ¬ Dr u t) : ∀ k, (M s t = 0 ∨ k ≤ M s t) → ln (u * mk (alt s t k)) = ln u + k
  | 0, _ => by show ln (u * mk []) = _; rw [mul_one]; rfl
  | k + 1, hk => by
    have ih := row_up hM hst hs ht k (by omega)
    rw [alt_snoc, ← mk_mul, ← mul_assoc]
    have hnd : ¬ Dr (u * mk (alt s t k)) (turn s t k) := by
      intro hd
      rcases Nat.eq_zero_or_pos k with rfl | hk0
      · apply hs
        have e : turn s t 0 = s := rfl
        rw [e] at hd
        have : u * mk (alt s t 0) = u := mul_one u
        rwa [this] at hd
      · obtain ⟨k', rfl⟩ : ∃ k', k = k' + 1 := ⟨k - 1, by omega⟩
        have hlast : Dr (u * mk (alt s t (k' + 1))) (turn s t k') := by
          rw [dr_iff]
          have e : u * mk (alt s t (k' + 1)) * mk [turn s t k'] = u * mk (alt s t k') := by
            rw [alt_snoc, ← mk_mul, ← mul_assoc, two_let]
          have := row_up hM hst hs ht k' (by omega)
          rw [e, this, ih]; omega
        have hb : M s t ≠ 0 ∧ ∃ v, (u * mk (alt s t (k' + 1)) : G M) = v * mk (alt s t (M s t)).reverse ∧ (u * mk (alt s t (k' + 1)) : G M) = v * mk (alt t s (M s t)).reverse ∧ ln v + M s t = ln (u * mk (alt s t (k' + 1))) := by
          rcases Nat.mod_two_eq_zero_or_one k' with h | h
          · have e1 : turn s t k' = s := by unfold turn; rw [if_pos h]
            have e2 : turn s t (k' + 1) = t := by unfold turn; rw [if_neg (by omega)]
            rw [e1] at hlast; rw [e2] at hd
            exact bothR hM hst hlast hd
          · have e1 : turn s t k' = t := by unfold turn; rw [if_neg (by omega)]
            have e2 : turn s t (k' + 1) = s := by unfold turn; rw [if_pos (by omega)]
            rw [e1] at hlast; rw [e2] at hd
            exact bothR hM hst hd hlast
        obtain ⟨h0, v, h1, h2, h3⟩ := hb
        have hkm : k' + 1 + 1 ≤ M s t := by omega
        obtain ⟨p, q, hpq, hx, hr⟩ : ∃ p q, (p = s ∧ q = t ∨ p = t ∧ q = s) ∧ (u * mk (alt s t (k' + 1)) : G M) = v * mk (alt p q (M s t)).reverse ∧ (alt p q (k' + 1)).reverse = alt s t (k' + 1) := by
          rcases Nat.mod_two_eq_zero_or_one (k' + 1) with h | h
          · exact ⟨t, s, .inr ⟨rfl, rfl⟩, h2, by rw [alt_reverse, if_pos h]⟩
          · exact ⟨s, t, .inl ⟨rfl, rfl⟩, h1, by rw [alt_reverse, if_neg (by omega)]⟩
        obtain ⟨r, hr2⟩ : ∃ r, M s t = (k' + 1) + (r + 1) := ⟨M s t - (k' + 1) - 1, by omega⟩
        rw [hr2, alt_add (k' + 1) (r + 1) p q, List.reverse_append, hr, ← mk_mul, ← mul_assoc] at hx
        have hu := cancel_right hx
        have hl : (alt (turn p q (k' + 1)) (turn q p (k' + 1)) (r + 1)).reverse = (alt (turn q p (k' + 1)) (turn p q (k' + 1)) r).reverse ++ [turn p q (k' + 1)] := by
          show (turn p q (k' + 1) :: alt (turn q p (k' + 1)) (turn p q (k' + 1)) r).reverse = _
          rw [List.reverse_cons]
        have hul : u * mk [turn p q (k' + 1)] = v * mk (alt (turn q p (k' + 1)) (turn p q (k' + 1)) r).reverse := by
          rw [hu, hl, ← mk_mul, ← mul_assoc, two_let]
        have hd2 : Dr u (turn p q (k' + 1)) := by
          rw [dr_iff, hul]
          have := ln_le_mul v (alt (turn q p (k' + 1)) (turn p q (k' + 1)) r).reverse
          rw [List.length_reverse, alt_length] at this
          omega
        have hz : turn p q (k' + 1) = s ∨ turn p q (k' + 1) = t := by
          unfold turn
          rcases hpq with ⟨rfl, rfl⟩ | ⟨rfl, rfl⟩ <;> split <;> simp
        rcases hz with e | e <;> rw [e] at hd2
        · exact hs hd2
        · exact ht hd2
    rw [ln_up hnd, ih]; rfl

/-- words of two letters -/
def Two (s t : Nat) (w : List Nat) : Prop := ∀ y ∈ w, y = s ∨ y = t
theorem two_alt (s t : Nat) : ∀ k, Two s t (alt s t k) ∧ Two s t (alt t s k)
  | 0 => ⟨fun y h => (by cases h), fun y h => (by cases h)⟩
  | k + 1 => by
    have ih := two_alt s t k
    refine ⟨fun y h => ?_, fun y h => ?_⟩
    · rcases List.mem_cons.1 (show y ∈ s :: alt t s k from h) with rfl | h
      · exact .inl rfl
      · exact ih.2 y h
    · rcases List.mem_cons.1 (show y ∈ t :: alt s t k from h) with rfl | h
      · exact .inr rfl
      · exact ih.1 y h
/-- a word of two letters is a row -/
theorem two_row (hM : Ords M) {s t : Nat} (h0 : M s t ≠ 0) : ∀ (n : Nat) (w : List Nat), w.length = n → Two s t w → ∃ k, k ≤ M s t ∧ ((mk w : G M) = mk (alt s t k) ∨ (mk w : G M) = mk (alt t s k))
  | 0, w, hn, _ => ⟨0, Nat.zero_le _, .inl (by rw [List.length_eq_zero_iff.1 hn]; rfl)⟩
  | n + 1, w, hn, hw => by
    have hne : w ≠ [] := by intro e; rw [e] at hn; cases hn
    obtain ⟨v, l, rfl⟩ : ∃ v l, w = v ++ [l] := ⟨_, _, (List.dropLast_concat_getLast hne).symm⟩
    have hl : l = s ∨ l = t := hw l (by simp)
    obtain ⟨k, hk, he⟩ := two_row hM h0 n v (by simp at hn; exact hn) (fun y hy => hw y (by simp [hy]))
    have hmt : M t s = M s t := hM.symm t s
    have key : ∀ p q : Nat, (p = s ∧ q = t ∨ p = t ∧ q = s) → M p q = M s t → M q p = M s t → (mk v : G M) = mk (alt p q k) → ∃ k', k' ≤ M s t ∧ ((mk (v ++ [l]) : G M) = mk (alt p q k') ∨ (mk (v ++ [l]) : G M) = mk (alt q p k')) := by
      intro p q hpq h1 h2 hv
      have hl2 : l = p ∨ l = q := by rcases hpq with ⟨rfl, rfl⟩ | ⟨rfl, rfl⟩ <;> omega
      rw [← mk_mul, hv]
      by_cases hlt : l = turn p q k
      · by_cases hkm : k = M s t
        · have hk1 : 1 ≤ k := by omega
          obtain ⟨k', rfl⟩ : ∃ k', k = k' + 1 := ⟨k - 1, by omega⟩
          refine ⟨k', by omega, .inr ?_⟩
          have e : (mk (alt p q (k' + 1)) : G M) = mk (alt q p (k' + 1)) := by
            rw [hkm]
            have := mk_alt (M := M) p q
            rw [h1] at this
            exact this
          rw [e, alt_snoc, ← mk_mul]
          have : turn q p k' = l := by rw [hlt, ← turn_swap q p k']
          rw [this, mul_assoc, let_sq, mul_one]
        · exact ⟨k + 1, by omega, .inl (by rw [alt_snoc, ← mk_mul, hlt])⟩
      · rcases Nat.eq_zero_or_pos k with rfl | hk0
        · have e : turn p q 0 = p := rfl
          rw [e] at hlt
          have hlq : l = q := by omega
          refine ⟨1, by omega, .inr ?_⟩
          rw [hlq]
          show mk [] * mk [q] = mk (alt q p 1)
          rw [one_mul]; rfl
        · obtain ⟨k', rfl⟩ : ∃ k', k = k' + 1 := ⟨k - 1, by omega⟩
          refine ⟨k', by omega, .inl ?_⟩
          have : turn p q k' = l := by
            unfold turn at hlt ⊢
            rcases Nat.mod_two_eq_zero_or_one k' with h | h
            · rw [if_pos h]; rw [if_neg (by omega)] at hlt; omega
            · rw [if_neg (by omega)]; rw [if_pos (by omega)] at hlt; omega
          rw [alt_snoc, ← mk_mul, this, mul_assoc, let_sq, mul_one]
    rcases he with he | he
    · exact key s t (.inl ⟨rfl, rfl⟩) rfl hmt he
    · obtain ⟨k', h1, h2⟩ := key t s (.inr ⟨rfl, rfl⟩) hmt rfl he
      exact ⟨k', h1, h2.symm⟩
/-- a row the other way round -/
theorem alt_other {s t : Nat} {k : Nat} (hk : k ≤ 2 * M s t) : (mk (alt t s k) : G M) = mk (alt s t (2 * M s t - k)) := by
  have h := alt_two (M := M) s t
  obtain ⟨r, hr⟩ : ∃ r, 2 * M s t = r + k := ⟨2 * M s t - k, by omega⟩
  rw [hr, alt_add, ← mk_mul] at h
  have hpar : r % 2 = k % 2 := by omega
  have e : (alt (turn s t r) (turn t s r) k).reverse = alt t s k := by
    rw [alt_reverse]
    unfold turn
    rcases Nat.mod_two_eq_zero_or_one k with h | h
    · rw [if_pos h, if_pos (by omega), if_pos (by omega)]
    · rw [if_neg (by omega), if_neg (by omega), if_neg (by omega)]
  have h2 := congrArg (fun x => x * mk (alt t s k)) h
  rw [show 2 * M s t - k = r by omega]
  have h3 : (mk (alt s t r) * mk (alt (turn s t r) (turn t s r) k) * mk (alt t s k) : G M) = mk [] * mk (alt t s k) := h2
  rw [← e, mk_rev, e, one_mul] at h3
  exact h3.symm

/-- the tile nearest to the first one of those around a corner -/
structure Foot (M : Nat → Nat → Nat) (s t : Nat) (x f : G M) : Prop where
  no1 : ¬ Dr f s
  no2 : ¬ Dr f t
  way : ∃ w, Two s t w ∧ x = f * mk w
theorem foot_near (hM : Ords M) {s t : Nat} (hst : s ≠ t) (h0 : M s t ≠ 0) {x f y : G M} (h : Foot M s t x f) {w : List Nat} (hw : Two s t w) (hy : y = x * mk w) : ln f ≤ ln y ∧ (ln y = ln f → y = f) := by
  obtain ⟨v, hv, hx⟩ := h.way
  have hvw : Two s t (v ++ w) := fun z hz => by
    rcases List.mem_append.1 hz with h1 | h1
    · exact hv z h1
    · exact hw z h1
  obtain ⟨k, hk, he⟩ := two_row hM h0 _ (v ++ w) rfl hvw
  have e : y = f * mk (v ++ w) := by rw [hy, hx, mul_assoc, mk_mul]
  have key : ln y = ln f + k := by
    rw [e]
    rcases he with he | he
    · rw [he]; exact row_up hM hst h.no1 h.no2 k (.inr hk)
    · rw [he]; exact row_up hM (Ne.symm hst) h.no2 h.no1 k (.inr (by rw [hM.symm]; exact hk))
  refine ⟨by omega, fun h2 => ?_⟩
  obtain rfl : k = 0 := by omega
  rw [e]
  rcases he with he | he <;> rw [he] <;> exact mul_one f
/-- the foot is in the circle -/
theorem foot_circle (hM : Ords M) {s t : Nat} (h0 : M s t ≠ 0) {x f : G M} (h : Foot M s t x f) : ∃ i, i < 2 * M s t ∧ f = x * mk (alt s t i) := by
  obtain ⟨v, hv, hx⟩ := h.way
  have hf : f = x * mk v.reverse := by rw [hx, mk_rev]
  obtain ⟨k, hk, he⟩ := two_row hM h0 _ v.reverse rfl (fun z hz => hv z (by simpa using hz))
  rcases he with he | he
  · exact ⟨k, by omega, by rw [hf, he]⟩
  · rcases Nat.eq_zero_or_pos k with rfl | hk0
    · exact ⟨0, by omega, by rw [hf, he]; rfl⟩
    · exact ⟨2 * M s t - k, by omega, by rw [hf, he, alt_other (by omega)]⟩
/-- all tiles around have one foot -/
theorem foot_same (hM : Ords M) {s t : Nat} (hst : s ≠ t) (h0 : M s t ≠ 0) {x y f g : G M} (h : Foot M s t x f) (k : Foot M s t y g) {w : List Nat} (hw : Two s t w) (hy : y = x * mk w) : g = f := by
  obtain ⟨v, hv, hy2⟩ := k.way
  have hg : g = x * mk (w ++ v.reverse) := by rw [← mk_mul, ← mul_assoc, ← hy, hy2, mk_rev]
  have t1 : Two s t (w ++ v.reverse) := fun z hz => by
    rcases List.mem_append.1 hz with h1 | h1
    · exact hw z h1
    · exact hv z (by simpa using h1)
  obtain ⟨n1, n2⟩ := foot_near hM hst h0 h t1 hg
  obtain ⟨u, hu, hx⟩ := h.way
  have hf : f = y * mk (w.reverse ++ u.reverse) := by
    rw [← mk_mul, ← mul_assoc, hy, mk_rev, hx, mk_rev]
  have t2 : Two s t (w.reverse ++ u.reverse) := fun z hz => by
    rcases List.mem_append.1 hz with h1 | h1
    · exact hw z (by simpa using h1)
    · exact hu z (by simpa using h1)
  obtain ⟨n3, _⟩ := foot_near hM hst h0 k t2 hf
  exact n2 (by omega)
theorem foot_step {s t : Nat} {x y f : G M} (h : Foot M s t y f) {w : List Nat} (hw : Two s t w) (hy : y = x * mk w) : Foot M s t x f := by
  obtain ⟨v, hv, hx⟩ := h.way
  refine ⟨h.no1, h.no2, v ++ w.reverse, fun z hz => ?_, ?_⟩
  · rcases List.mem_append.1 hz with h1 | h1
    · exact hv z h1
    · exact hw z (by simpa using h1)
  · rw [← mk_mul, ← mul_assoc, ← hx, hy, mk_rev]
theorem foot_self {s t : Nat} {x : G M} (h1 : ¬ Dr x s) (h2 : ¬ Dr x t) : Foot M s t x x := ⟨h1, h2, [], fun z hz => (by cases hz), (mul_one x).symm⟩
end Go.Proofs.YtcpeeopdaakbaaaGreat.Cx

namespace Go.Proofs.YtcpeeopdaakbaaaGreat.Cx
variable {M : Nat → Nat → Nat}
open Classical

/-- ahead, of words of one length -/
def Less : List Nat → List Nat → Prop
  | a :: u, b :: v => a < b ∨ a = b ∧ Less u v
  | _, _ => False
theorem Less.irrefl : ∀ u : List Nat, ¬ Less u u
  | [] => fun h => h
  | a :: u => fun h => by
    rcases h with h | ⟨_, h⟩
    · omega
    · exact Less.irrefl u h
theorem Less.more : ∀ {u v : List Nat} (x y : Nat), Less u v → Less (u ++ [x]) (v ++ [y])
  | a :: u, b :: v, x, y, h => by
    rcases h with h | ⟨h1, h2⟩
    · exact .inl h
    · exact .inr ⟨h1, Less.more x y h2⟩
theorem Less.last : ∀ (u : List Nat) {x y : Nat}, x < y → Less (u ++ [x]) (u ++ [y])
  | [], _, _, h => .inl h
  | _ :: u, _, _, h => .inr ⟨rfl, Less.last u h⟩

/-- the words that go on from a word -/
noncomputable def goOn (M : Nat → Nat → Nat) (w : List Nat) : List (List Nat) := [w ++ [0], w ++ [1], w ++ [2]].filter (fun v => decide (nf (mk v : G M) = v))
/-- a ring -/
noncomputable def ringS (M : Nat → Nat → Nat) : Nat → List (List Nat)
  | 0 => [[]]
  | n + 1 => (ringS M n).flatMap (goOn M)
theorem nf_nil : nf (mk [] : G M) = [] := nf_eq .nil
theorem greedy_iff (w : List Nat) : nf (mk w : G M) = w ↔ Greedy M w := ⟨fun h => h ▸ nf_greedy _, nf_eq⟩
theorem ring_mem : ∀ (n : Nat) (w : List Nat), w ∈ ringS M n ↔ nf (mk w : G M) = w ∧ w.length = n ∧ ∀ y ∈ w, y < 3
  | 0, w => by
    show w ∈ [[]] ↔ _
    rw [List.mem_singleton]
    constructor
    · rintro rfl; exact ⟨nf_nil, rfl, fun y h => by cases h⟩
    · rintro ⟨_, h, _⟩; exact List.length_eq_zero_iff.1 h
  | n + 1, w => by
    show w ∈ (ringS M n).flatMap (goOn M) ↔ _
    rw [List.mem_flatMap]
    constructor
    · rintro ⟨v, hv, hw⟩
      obtain ⟨h1, h2, h3⟩ := (ring_mem n v).1 hv
      unfold goOn at hw
      rw [List.mem_filter] at hw
      obtain ⟨hw1, hw2⟩ := hw
      have hw2 := of_decide_eq_true hw2
      have : ∃ x, x < 3 ∧ w = v ++ [x] := by
        simp only [List.mem_cons, List.not_mem_nil, or_false] at hw1
        rcases hw1 with rfl | rfl | rfl
        · exact ⟨0, by omega, rfl⟩
        · exact ⟨1, by omega, rfl⟩
        · exact ⟨2, by omega, rfl⟩
      obtain ⟨x, hx, rfl⟩ := this
      refine ⟨hw2, by simp [h2], fun y hy => ?_⟩
      rcases List.mem_append.1 hy with hy | hy
      · exact h3 y hy
      · rw [List.mem_singleton.1 hy]; exact hx
    · rintro ⟨h1, h2, h3⟩
      have hne : w ≠ [] := by intro e; rw [e] at h2; cases h2
      obtain ⟨v, x, rfl⟩ : ∃ v x, w = v ++ [x] := ⟨_, _, (List.dropLast_concat_getLast hne).symm⟩
      have hg := (greedy_iff _).1 h1
      refine ⟨v, (ring_mem n v).2 ⟨nf_eq hg.take, by simp at h2; exact h2, fun y hy => h3 y (by simp [hy])⟩, ?_⟩
      unfold goOn
      rw [List.mem_filter]
      refine ⟨?_, decide_eq_true h1⟩
      have hx := h3 x (by simp)
      have : x = 0 ∨ x = 1 ∨ x = 2 := by omega
      rcases this with rfl | rfl | rfl <;> simp
theorem goOn_less (w : List Nat) : (goOn M w).Pairwise Less := by
  unfold goOn
  refine List.Pairwise.filter _ ?_
  simp only [List.pairwise_cons, List.mem_cons, List.not_mem_nil, or_false, List.Pairwise.nil, and_true]
  refine ⟨?_, ?_, fun _ h => h.elim⟩
  · rintro a (rfl | rfl)
    · exact Less.last w (by omega)
    · exact Less.last w (by omega)
  · rintro a rfl
    exact Less.last w (by omega)
theorem goOn_form {w v : List Nat} (h : v ∈ goOn M w) : ∃ x, v = w ++ [x] := by
  unfold goOn at h
  rw [List.mem_filter] at h
  have := h.1
  simp only [List.mem_cons, List.not_mem_nil, or_false] at this
  rcases this with rfl | rfl | rfl <;> exact ⟨_, rfl⟩
theorem ring_less : ∀ n, (ringS M n).Pairwise Less
  | 0 => by show List.Pairwise Less [[]]; simp
  | n + 1 => by
    show ((ringS M n).flatMap (goOn M)).Pairwise Less
    rw [List.pairwise_flatMap]
    refine ⟨fun w _ => goOn_less w, (ring_less n).imp ?_⟩
    intro u v huv x hx y hy
    obtain ⟨a, rfl⟩ := goOn_form hx
    obtain ⟨b, rfl⟩ := goOn_form hy
    exact Less.more a b huv
theorem ring_nodup (n : Nat) : (ringS M n).Nodup := by
  unfold List.Nodup
  refine (ring_less n).imp ?_
  intro a b h e
  subst e
  exact Less.irrefl _ h

/-- the letters of the normal word are those of the three mirrors -/
def Low (x : G M) : Prop := ∀ y ∈ nf x, y < 3
/-- the tiles of a ring with a property -/
noncomputable def cnt (M : Nat → Nat → Nat) (n : Nat) (P : G M → Prop) : Nat := ((ringS M n).filter (fun w => decide (P (mk w)))).length
theorem low_mul (hL : Lows M) {x : G M} (h : Low x) {w : List Nat} (hw : ∀ y ∈ w, y < 3) : Low (x * mk w) := by
  refine hL (nf (x * mk w)) (nf x ++ w) ?_ ?_ (nf_greedy _).red
  · rw [mk_nf, ← mk_mul, mk_nf]
  · intro y hy
    rcases List.mem_append.1 hy with hy | hy
    · exact h y hy
    · exact hw y hy
theorem mem_cnt {n : Nat} {P : G M → Prop} {w : List Nat} : w ∈ (ringS M n).filter (fun w => decide (P (mk w))) ↔ nf (mk w : G M) = w ∧ Low (mk w : G M) ∧ ln (mk w : G M) = n ∧ P (mk w) := by
  rw [List.mem_filter, ring_mem]
  constructor
  · rintro ⟨⟨h1, h2, h3⟩, h4⟩
    exact ⟨h1, fun y hy => h3 y (by rwa [h1] at hy), by unfold ln; rw [h1, h2], of_decide_eq_true h4⟩
  · rintro ⟨h1, h2, h3, h4⟩
    refine ⟨⟨h1, by unfold ln at h3; rw [h1] at h3; exact h3, fun y hy => h2 y (by rw [h1]; exact hy)⟩, decide_eq_true h4⟩
theorem cnt_le {n m : Nat} {P Q : G M → Prop} (f : G M → G M) (hf : ∀ x, Low x → ln x = n → P x → Low (f x) ∧ ln (f x) = m ∧ Q (f x)) (hi : ∀ x y, f x = f y → x = y) : cnt M n P ≤ cnt M m Q := by
  unfold cnt
  have h1 : (((ringS M n).filter (fun w => decide (P (mk w)))).map (fun w => nf (f (mk w)))).Nodup := by
    refine Vc.nodup_map_on (List.Pairwise.filter _ (ring_nodup n)) ?_
    intro x hx y hy he
    have e := hi _ _ (nf_inj he)
    rw [← (mem_cnt.1 hx).1, ← (mem_cnt.1 hy).1, e]
  have h2 := nodup_le h1 (R := (ringS M m).filter (fun w => decide (Q (mk w)))) (by
    intro v hv
    obtain ⟨w, hw, rfl⟩ := List.mem_map.1 hv
    obtain ⟨a1, a2, a3, a4⟩ := mem_cnt.1 hw
    obtain ⟨b1, b2, b3⟩ := hf _ a2 a3 a4
    refine mem_cnt.2 ?_
    rw [mk_nf]
    exact ⟨rfl, b1, b2, b3⟩)
  rwa [List.length_map] at h2
theorem cnt_eq {n m : Nat} {P Q : G M → Prop} (f g : G M → G M) (hf : ∀ x, Low x → ln x = n → P x → Low (f x) ∧ ln (f x) = m ∧ Q (f x)) (hg : ∀ x, Low x → ln x = m → Q x → Low (g x) ∧ ln (g x) = n ∧ P (g x))
    (hi : ∀ x y, f x = f y → x = y) (hj : ∀ x y, g x = g y → x = y) : cnt M n P = cnt M m Q := Nat.le_antisymm (cnt_le f hf hi) (cnt_le g hg hj)
theorem cnt_none {n : Nat} {P : G M → Prop} (h : ∀ x, Low x → ln x = n → ¬ P x) : cnt M n P = 0 := by
  unfold cnt
  rw [List.length_eq_zero_iff, List.filter_eq_nil_iff]
  intro w hw
  obtain ⟨h1, h2, h3⟩ := (ring_mem n w).1 hw
  simp only [decide_eq_true_eq]
  exact h _ (fun y hy => h3 y (by rwa [h1] at hy)) (by unfold ln; rw [h1, h2])
/-- counts of a list -/
theorem count_lin {α : Type} (l : List α) (p q r s : α → Bool) (h : ∀ x ∈ l, (if p x then 1 else 0) + (if q x then 1 else 0) = (if r x then 1 else 0) + (if s x then 1 else 0)) :
    (l.filter p).length + (l.filter q).length = (l.filter r).length + (l.filter s).length := by
  induction l with
  | nil => rfl
  | cons x l ih =>
    have ih := ih (fun y hy => h y (List.mem_cons_of_mem _ hy))
    have hx := h x List.mem_cons_self
    simp only [List.filter_cons]
    split <;> split <;> split <;> split <;> simp_all <;> omega

/-- 1 where it holds -/
noncomputable def idc (p : Prop) : Nat := if p then 1 else 0
theorem idc_pos {p : Prop} (h : p) : idc p = 1 := by unfold idc; rw [if_pos h]
theorem idc_neg {p : Prop} (h : ¬ p) : idc p = 0 := by unfold idc; rw [if_neg h]
theorem cnt_lin (n : Nat) (P Q A B : G M → Prop) (h : ∀ x, Low x → ln x = n → idc (P x) + idc (Q x) = idc (A x) + idc (B x)) : cnt M n P + cnt M n Q = cnt M n A + cnt M n B := by
  unfold cnt
  refine count_lin (ringS M n) _ _ _ _ (fun w hw => ?_)
  obtain ⟨h1, h2, h3⟩ := (ring_mem n w).1 hw
  have := h (mk w) (fun y hy => h3 y (by rwa [h1] at hy)) (by unfold ln; rw [h1, h2])
  unfold idc at this
  simpa using this
theorem cnt_false (n : Nat) : cnt M n (fun _ => False) = 0 := cnt_none (fun _ _ _ h => h)
/-- all tiles of a ring -/
noncomputable def all (M : Nat → Nat → Nat) (n : Nat) : Nat := cnt M n (fun _ => True)
theorem all_eq (n : Nat) : all M n = (ringS M n).length := by
  unfold all cnt
  congr 1
  rw [List.filter_eq_self]
  intro a _; simp
theorem cnt_split (n : Nat) (P : G M → Prop) : cnt M n P + cnt M n (fun x => ¬ P x) = all M n := by
  have := cnt_lin n P (fun x => ¬ P x) (fun _ => True) (fun _ => False) (fun x _ _ => by
    by_cases h : P x
    · rw [idc_pos h, idc_neg (fun k => k h), idc_pos trivial, idc_neg id]
    · rw [idc_neg h, idc_pos h, idc_pos trivial, idc_neg id])
  rw [cnt_false] at this
  exact this

section
variable (hM : Ords M) (hL : Lows M)
include hL
/-- descents of a mirror -/
theorem down_next (n : Nat) {s : Nat} (hs : s < 3) : cnt M (n + 1) (fun x => Dr x s) + cnt M n (fun x => Dr x s) = all M n := by
  have hsl : ∀ y ∈ [s], y < 3 := by intro y hy; rw [List.mem_singleton.1 hy]; exact hs
  have e : cnt M (n + 1) (fun x => Dr x s) = cnt M n (fun x => ¬ Dr x s) := by
    refine cnt_eq (fun x => x * mk [s]) (fun x => x * mk [s]) ?_ ?_ (fun x y h => cancel_right h) (fun x y h => cancel_right h)
    · intro x h1 h2 h3
      have := ln_down h3
      exact ⟨low_mul hL h1 hsl, by show ln (x * mk [s]) = n; omega, fun h => (dr_back x s).1 h h3⟩
    · intro x h1 h2 h3
      have := ln_up h3
      exact ⟨low_mul hL h1 hsl, by show ln (x * mk [s]) = n + 1; omega, (dr_back x s).2 h3⟩
  rw [e, Nat.add_comm]
  exact cnt_split n (fun x => Dr x s)
omit hL in
theorem not_dr_one (s : Nat) : ¬ Dr (mk [] : G M) s := fun h => by
  have := ln_down h
  rw [ln_one] at this; omega
omit hL in
theorem down_zero (s : Nat) : cnt M 0 (fun x => Dr x s) = 0 := cnt_none (fun x _ h hd => by
  rw [ln_zero h] at hd; exact not_dr_one s hd)
omit hL in
theorem all_zero : all M 0 = 1 := by rw [all_eq]; rfl
omit hL in
/-- neither of two -/
theorem incl (n s t : Nat) : cnt M n (fun x => ¬ Dr x s ∧ ¬ Dr x t) + cnt M n (fun x => Dr x s) + cnt M n (fun x => Dr x t) = all M n + cnt M n (fun x => Dr x s ∧ Dr x t) := by
  have h1 := cnt_lin n (fun x : G M => Dr x s) (fun x => Dr x t) (fun x => Dr x s ∧ Dr x t) (fun x => ¬ (¬ Dr x s ∧ ¬ Dr x t)) (fun x _ _ => by
    by_cases h1 : Dr x s <;> by_cases h2 : Dr x t <;> simp [h1, h2, idc])
  have h2 := cnt_split (M := M) n (fun x => ¬ Dr x s ∧ ¬ Dr x t)
  omega
include hM
theorem both_up (n : Nat) {s t : Nat} (hs : s < 3) (ht : t < 3) (hst : s ≠ t) (h0 : M s t ≠ 0) : cnt M (n + M s t) (fun x => Dr x s ∧ Dr x t) = cnt M n (fun x => ¬ Dr x s ∧ ¬ Dr x t) := by
  have hlow : ∀ y ∈ alt s t (M s t), y < 3 := alt_low hs ht _
  have hrr : ∀ y ∈ (alt s t (M s t)).reverse, y < 3 := fun y hy => hlow y (by simpa using hy)
  have hts : (mk (alt t s (M s t)) : G M) = mk (alt s t (M s t)) := (mk_alt s t).symm
  have hend : ∀ (x : G M) {l : Nat}, (l = s ∨ l = t) → ∃ w, w.length + 1 = M s t ∧ x * mk (alt s t (M s t)) * mk [l] = x * mk w := by
    intro x l hl
    obtain ⟨k, hk⟩ : ∃ k, M s t = k + 1 := ⟨M s t - 1, by omega⟩
    by_cases h : turn s t k = l
    · refine ⟨alt s t k, by rw [alt_length]; omega, ?_⟩
      rw [hk, alt_snoc, h, ← mk_mul, ← mul_assoc, two_let]
    · have h2 : turn t s k = l := by
        unfold turn at h ⊢
        split at h <;> simp_all <;> omega
      refine ⟨alt t s k, by rw [alt_length]; omega, ?_⟩
      rw [← hts, hk, alt_snoc, h2, ← mk_mul, ← mul_assoc, two_let]
  refine cnt_eq (fun x => x * mk (alt s t (M s t)).reverse) (fun x => x * mk (alt s t (M s t))) ?_ ?_ (fun x y h => cancel_right h) (fun x y h => cancel_right h)
  · intro x h1 h2 h3
    obtain ⟨_, u, e1, e2, e3⟩ := bothR hM hst h3.1 h3.2
    have eu : x * mk (alt s t (M s t)).reverse = u := by
      have hsq : (mk (alt s t (M s t)).reverse : G M) * mk (alt s t (M s t)).reverse = mk [] := by
        rcases Nat.mod_two_eq_zero_or_one (M s t) with h | h
        · have e : (mk (alt s t (M s t)).reverse : G M) = mk (alt s t (M s t)) := by rw [alt_reverse, if_pos h]; exact hts
          have := mk_pal (M := M) (alt s t (M s t))
          rw [← mk_mul, e] at this
          rw [e]; exact this
        · have e : (alt s t (M s t)).reverse = alt s t (M s t) := by rw [alt_reverse, if_neg (by omega)]
          have := mk_pal (M := M) (alt s t (M s t))
          rw [← mk_mul, e] at this
          rw [e]; exact this
      rw [e1, mul_assoc, hsq, mul_one]
    have hln : ln u = n := by omega
    have hnd : ∀ l, (l = s ∨ l = t) → ¬ Dr u l := by
      intro l hl hd
      have e4 : x = u * mk (alt s t (M s t)) := by
        rcases Nat.mod_two_eq_zero_or_one (M s t) with h | h
        · rw [e2, alt_reverse, if_pos h]
        · rw [e1, alt_reverse, if_neg (by omega)]
      have e5 : ∃ w, w.length + 1 = M s t ∧ x = u * mk [l] * mk w := by
        obtain ⟨k, hk⟩ : ∃ k, M s t = k + 1 := ⟨M s t - 1, by omega⟩
        rcases hl with rfl | rfl
        · refine ⟨alt t l k, by rw [alt_length]; omega, ?_⟩
          rw [e4, hk, mul_assoc]; rfl
        · refine ⟨alt s l k, by rw [alt_length]; omega, ?_⟩
          rw [e4, ← hts, hk, mul_assoc]; rfl
      obtain ⟨w, hw1, hw2⟩ := e5
      have a1 := ln_down hd
      have a2 := ln_le_mul (u * mk [l]) w
      rw [← hw2] at a2
      omega
    refine ⟨low_mul hL h1 hrr, by show ln (x * _) = n; rw [eu]; exact hln, ?_⟩
    show ¬ Dr (x * mk (alt s t (M s t)).reverse) s ∧ ¬ Dr (x * mk (alt s t (M s t)).reverse) t
    rw [eu]
    exact ⟨hnd s (.inl rfl), hnd t (.inr rfl)⟩
  · intro x h1 h2 h3
    have hl := row_up hM hst h3.1 h3.2 (M s t) (.inr (Nat.le_refl _))
    refine ⟨low_mul hL h1 hlow, by show ln (x * _) = _; omega, ?_, ?_⟩
    · obtain ⟨w, hw1, hw2⟩ := hend x (.inl rfl)
      rw [dr_iff, hw2, hl]
      have := ln_le_mul x w
      omega
    · obtain ⟨w, hw1, hw2⟩ := hend x (.inr rfl)
      rw [dr_iff, hw2, hl]
      have := ln_le_mul x w
      omega
omit hL in
theorem both_low {n : Nat} {s t : Nat} (hst : s ≠ t) (h : M s t = 0 ∨ n < M s t) : cnt M n (fun x => Dr x s ∧ Dr x t) = 0 := cnt_none (fun x _ hx hd => by
  obtain ⟨h0, u, _, _, e3⟩ := bothR hM hst hd.1 hd.2
  omega)
omit hL hM in
/-- of the three descents one or two stand -/
theorem three_incl (hno : ∀ x : G M, Low x → ¬ (Dr x 0 ∧ Dr x 1 ∧ Dr x 2)) (n : Nat) (hn : 1 ≤ n) (hl3 : ∀ x : G M, Low x → x ≠ mk [] → Dr x 0 ∨ Dr x 1 ∨ Dr x 2) :
    all M n + cnt M n (fun x => Dr x 0 ∧ Dr x 1) + cnt M n (fun x => Dr x 1 ∧ Dr x 2) + cnt M n (fun x => Dr x 0 ∧ Dr x 2) = cnt M n (fun x => Dr x 0) + cnt M n (fun x => Dr x 1) + cnt M n (fun x => Dr x 2) := by
  have h1 := incl (M := M) n 0 1
  have hh : ∀ x : G M, ln x = n → x ≠ mk [] := fun x hx e => by rw [e, ln_one] at hx; omega
  have key := cnt_lin n (fun x : G M => ¬ Dr x 0 ∧ ¬ Dr x 1) (fun x => Dr x 1 ∧ Dr x 2 ∨ Dr x 0 ∧ Dr x 2) (fun x => Dr x 2) (fun _ => False) (fun x hx hn => by
    have b1 := hno _ hx
    have b2 := hl3 _ hx (hh x hn)
    by_cases d0 : Dr x 0 <;> by_cases d1 : Dr x 1 <;> by_cases d2 : Dr x 2 <;> simp_all [idc])
  have key2 := cnt_lin n (fun x : G M => Dr x 1 ∧ Dr x 2) (fun x => Dr x 0 ∧ Dr x 2) (fun x => Dr x 1 ∧ Dr x 2 ∨ Dr x 0 ∧ Dr x 2) (fun _ => False) (fun x hx hn => by
    have b1 := hno _ hx
    by_cases d0 : Dr x 0 <;> by_cases d1 : Dr x 1 <;> by_cases d2 : Dr x 2 <;> simp_all [idc])
  rw [cnt_false] at key key2
  omega
end
end Go.Proofs.YtcpeeopdaakbaaaGreat.Cx

namespace Go.Proofs.YtcpeeopdaakbaaaGreat.Cx
open Ps
variable {M : Nat → Nat → Nat}

noncomputable def fa (M : Nat → Nat → Nat) : Nat → Int := fun n => (all M n : Int)
noncomputable def fd (M : Nat → Nat → Nat) (s : Nat) : Nat → Int := fun n => (cnt M n (fun x => Dr x s) : Int)
noncomputable def fb (M : Nat → Nat → Nat) (s t : Nat) : Nat → Int := fun n => (cnt M n (fun x => Dr x s ∧ Dr x t) : Int)
noncomputable def fn (M : Nat → Nat → Nat) (s t : Nat) : Nat → Int := fun n => (cnt M n (fun x => ¬ Dr x s ∧ ¬ Dr x t) : Int)
theorem cv_on (f : Nat → Int) : cv on f = ad f (sh f) := by unfold on; rw [cv_ad, cv_un, cv_sh, cv_un]
/-- 1 - t -/
def om : Nat → Int := ad un (sc (-1) (sh un))
theorem cv_om (f : Nat → Int) : cv om f = ad f (sc (-1) (sh f)) := by unfold om; rw [cv_ad, cv_un, cv_sc, cv_sh, cv_un]
theorem om_ones {m : Nat} (hm : 1 ≤ m) : cv om (ones m) = ad un (sc (-1) (shN m un)) := by
  rw [cv_om]
  funext n
  show ones m n + -1 * sh (ones m) n = un n + -1 * shN m un n
  rw [shN_at]
  cases n with
  | zero =>
    show (if 0 < m then (1 : Int) else 0) + -1 * 0 = 1 + -1 * (if m ≤ 0 then _ else 0)
    rw [if_pos (by omega), if_neg (by omega)]
  | succ n =>
    show (if n + 1 < m then (1 : Int) else 0) + -1 * (if n < m then 1 else 0) = 0 + -1 * (if m ≤ n + 1 then un (n + 1 - m) else 0)
    rcases Nat.lt_trichotomy (n + 1) m with h | h | h
    · rw [if_pos h, if_pos (by omega), if_neg (by omega)]; rfl
    · subst h
      rw [if_neg (by omega), if_pos (by omega), if_pos (by omega), Nat.sub_self]; rfl
    · rw [if_neg (by omega), if_neg (by omega), if_pos (by omega)]
      obtain ⟨k, hk⟩ : ∃ k, n + 1 - m = k + 1 := ⟨n + 1 - m - 1, by omega⟩
      rw [hk]; rfl

section
variable (hM : Ords M) (hL : Lows M)
include hL
theorem fd_on {s : Nat} (hs : s < 3) : cv on (fd M s) = sh (fa M) := by
  rw [cv_on]
  funext n
  cases n with
  | zero => show ((cnt M 0 _ : Nat) : Int) + 0 = 0; rw [down_zero]; rfl
  | succ n =>
    show ((cnt M (n + 1) _ : Nat) : Int) + ((cnt M n _ : Nat) : Int) = ((all M n : Nat) : Int)
    have := down_next hL n hs
    omega
theorem fd_same {s t : Nat} (hs : s < 3) (ht : t < 3) : fd M s = fd M t := cv_cancel (d := on) rfl (by rw [fd_on hL hs, fd_on hL ht])
omit hL in
theorem fn_eq (s t : Nat) : ad (ad (fn M s t) (fd M s)) (fd M t) = ad (fa M) (fb M s t) := by
  funext n
  have := incl (M := M) n s t
  show ((cnt M n _ : Nat) : Int) + ((cnt M n _ : Nat) : Int) + ((cnt M n _ : Nat) : Int) = ((all M n : Nat) : Int) + ((cnt M n _ : Nat) : Int)
  omega
include hM
theorem fb_up {s t : Nat} (hs : s < 3) (ht : t < 3) (hst : s ≠ t) (h0 : M s t ≠ 0) : fb M s t = shN (M s t) (fn M s t) := by
  funext n
  rw [shN_at]
  show ((cnt M n _ : Nat) : Int) = _
  split
  · rename_i h
    have := both_up hM hL (n - M s t) hs ht hst h0
    rw [show n - M s t + M s t = n by omega] at this
    rw [this]; rfl
  · rw [both_low hM hst (.inr (by omega))]; rfl
omit hL in
theorem fb_zero {s t : Nat} (hst : s ≠ t) (h0 : M s t = 0) : fb M s t = fun _ => 0 := by
  funext n
  show ((cnt M n _ : Nat) : Int) = 0
  rw [both_low hM hst (.inl h0)]; rfl
theorem fb_side {s t : Nat} (hs : s < 3) (ht : t < 3) (hst : s ≠ t) (h0 : M s t ≠ 0) : cv (cv on (ones (M s t))) (fb M s t) = shN (M s t) (fa M) := by
  have hb := fb_up hM hL hs ht hst h0
  have key : cv (cv on (ones (M s t))) (fn M s t) = fa M := by
    refine cv_cancel (d := om) rfl ?_
    have e1 : cv om (cv (cv on (ones (M s t))) (fn M s t)) = cv on (cv (cv om (ones (M s t))) (fn M s t)) := by simp only [cv_assoc, cv_left]
    have e2 : cv (cv om (ones (M s t))) (fn M s t) = ad (fn M s t) (sc (-1) (fb M s t)) := by
      rw [om_ones (by omega), cv_ad, cv_un, cv_sc, cv_shN, cv_un, hb]
    have e3 : cv on (ad (ad (fn M s t) (fd M s)) (fd M t)) = cv on (ad (fa M) (fb M s t)) := congrArg _ (fn_eq s t)
    rw [cv_ad', cv_ad', cv_ad', fd_on hL hs, fd_on hL ht] at e3
    rw [e1, e2, cv_ad', cv_sc', cv_om]
    funext n
    have := congrFun e3 n
    have h2 := congrFun (cv_on (fa M)) n
    simp only [ad, sc] at this h2 ⊢
    omega
  rw [hb, shN_cv, cv_left, key, ← shN_cv]
end

theorem z_step {z : (Nat → Int) × (Nat → Int)} {P B f : Nat → Int} {m : Nat} (hz : cv z.2 P = cv z.1 f) (h0 : m = 0 → B = fun _ => 0) (h1 : m ≠ 0 → cv (cv on (ones m)) B = shN m f) :
    cv (zStep z m).2 (ad P B) = cv (zStep z m).1 f := by
  unfold zStep
  by_cases hm : m = 0
  · rw [if_pos hm, h0 hm]
    have : ad P (fun _ => 0) = P := by funext n; show P n + 0 = P n; omega
    rw [this, hz]
  · rw [if_neg hm]
    show cv (cv z.2 (cv on (ones m))) (ad P B) = cv (ad (cv z.1 (cv on (ones m))) (shN m z.2)) f
    have e := h1 hm
    generalize cv on (ones m) = s at e
    rw [cv_ad', cv_ad, cv_assoc z.2 s B, e, cv_shN, shN_cv m f, cv_left z.2, ← shN_cv]
    congr 1
    rw [cv_comm z.2 s, cv_assoc, hz, cv_comm z.1 s, cv_assoc]

/-- the series of the rings -/
theorem all_series (hM : Ords M) (hL : Lows M) (hno : ∀ x : G M, Low x → ¬ (Dr x 0 ∧ Dr x 1 ∧ Dr x 2)) (hl3 : ∀ x : G M, Low x → x ≠ mk [] → Dr x 0 ∨ Dr x 1 ∨ Dr x 2) :
    cv (zz [M 0 1, M 1 2, M 0 2] 3).1 (fa M) = (zz [M 0 1, M 1 2, M 0 2] 3).2 := by
  have p0 : cv (zz [M 0 1, M 1 2, M 0 2] 0).2 (ad (fa M) (sc (-1) (ad (fd M 0) (ad (fd M 1) (fd M 2))))) = cv (zz [M 0 1, M 1 2, M 0 2] 0).1 (fa M) := by
    show cv on _ = cv (ad un (sc (-2) (sh un))) (fa M)
    rw [cv_ad', cv_sc', cv_ad', cv_ad', fd_on hL (by omega), fd_on hL (by omega), fd_on hL (by omega), cv_on, cv_ad, cv_un, cv_sc, cv_sh, cv_un]
    funext n
    simp only [ad, sc]
    omega
  have p1 := z_step (m := M 0 1) p0 (fun h => fb_zero hM (by omega) h) (fun h => fb_side hM hL (s := 0) (t := 1) (by omega) (by omega) (by omega) h)
  have p2 := z_step (m := M 1 2) p1 (fun h => fb_zero hM (by omega) h) (fun h => fb_side hM hL (s := 1) (t := 2) (by omega) (by omega) (by omega) h)
  have p3 := z_step (m := M 0 2) p2 (fun h => fb_zero hM (by omega) h) (fun h => fb_side hM hL (s := 0) (t := 2) (by omega) (by omega) (by omega) h)
  have e : ad (ad (ad (ad (fa M) (sc (-1) (ad (fd M 0) (ad (fd M 1) (fd M 2))))) (fb M 0 1)) (fb M 1 2)) (fb M 0 2) = un := by
    funext n
    cases n with
    | zero =>
      show ((all M 0 : Nat) : Int) + -1 * (((cnt M 0 _ : Nat) : Int) + (((cnt M 0 _ : Nat) : Int) + ((cnt M 0 _ : Nat) : Int))) + ((cnt M 0 _ : Nat) : Int) + ((cnt M 0 _ : Nat) : Int) + ((cnt M 0 _ : Nat) : Int) = 1
      rw [all_zero, down_zero, down_zero, down_zero, both_low hM (by omega) (by omega), both_low hM (by omega) (by omega), both_low hM (by omega) (by omega)]
      rfl
    | succ n =>
      show ((all M (n + 1) : Nat) : Int) + -1 * (((cnt M (n + 1) _ : Nat) : Int) + (((cnt M (n + 1) _ : Nat) : Int) + ((cnt M (n + 1) _ : Nat) : Int))) + ((cnt M (n + 1) _ : Nat) : Int) + ((cnt M (n + 1) _ : Nat) : Int) + ((cnt M (n + 1) _ : Nat) : Int) = 0
      have := three_incl hno (n + 1) (by omega) hl3
      omega
  have p4 : cv (zz [M 0 1, M 1 2, M 0 2] 3).2 (ad (ad (ad (ad (fa M) (sc (-1) (ad (fd M 0) (ad (fd M 1) (fd M 2))))) (fb M 0 1)) (fb M 1 2)) (fb M 0 2)) = cv (zz [M 0 1, M 1 2, M 0 2] 3).1 (fa M) := p3
  rw [e, cv_un'] at p4
  exact p4.symm
end Go.Proofs.YtcpeeopdaakbaaaGreat.Cx
