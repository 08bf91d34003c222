/- How many rows of yes and no there are, if no few places show them all (Sauer, Shelah). Four rows of three numbers hang together; four walls never part the tiles in all ways. Tiles that some walls part from the first one: not many. How many letters a tile has; letters that can stand last; both of two letters can. Tiles that were met, as a graph: what is known of it. A tile is met over a side that leads up: the steps that lead to all that is known of it. The tile that is met: how it begins, how a side is joined; how many tiles there are. -/
import Derived.Test.YtcpeeopdaakbaaaGreatTorX
import Derived.Test.YtcpeeopdaakbaaaGreatCoxA
namespace Go.Proofs.YtcpeeopdaakbaaaGreat.Vc
set_option linter.unusedVariables false

/-- the most rows of n places, if no d places show all -/
def B : Nat → Nat → Nat
  | 0, _ => 0
  | _ + 1, 0 => 1
  | d + 1, n + 1 => B (d + 1) n + B d n

/-- the places S show all -/
def Shows (l : List (List Bool)) (S : List Nat) : Prop := ∀ b : List Bool, b.length = S.length → ∃ x ∈ l, S.map (fun i => x[i]?) = b.map some

theorem card_split (l : List (List Bool)) (n : Nat) (hl : ∀ x ∈ l, x.length = n + 1) :
    l.length = (l.filter (fun x => x.head? == some false)).length + (l.filter (fun x => x.head? == some true)).length := by
  induction l with
  | nil => rfl
  | cons x l ih =>
    have ih := ih (fun y hy => hl y (List.mem_cons_of_mem _ hy))
    have hx := hl x List.mem_cons_self
    cases x with
    | nil => simp at hx
    | cons b x =>
      cases b
      · simp; omega
      · simp; omega

theorem nodup_map_on {α β : Type} {f : α → β} {l : List α} (h : l.Nodup) (hf : ∀ x ∈ l, ∀ y ∈ l, f x = f y → x = y) : (l.map f).Nodup := by
  induction l with
  | nil => simp
  | cons a l ih =>
    rw [List.nodup_cons] at h
    rw [List.map_cons, List.nodup_cons]
    refine ⟨fun hm => ?_, ih h.2 (fun x hx y hy => hf x (List.mem_cons_of_mem _ hx) y (List.mem_cons_of_mem _ hy))⟩
    obtain ⟨b, hb, he⟩ := List.mem_map.1 hm
    have := hf b (List.mem_cons_of_mem _ hb) a List.mem_cons_self he
    subst this
    exact h.1 hb

theorem len_filter {α : Type} (l : List α) (p : α → Bool) : l.length = (l.filter p).length + (l.filter (fun x => !p x)).length := by
  induction l with
  | nil => rfl
  | cons x l ih =>
    simp only [List.filter_cons, List.length_cons]
    cases p x <;> simp <;> omega

theorem sauer : ∀ (n d : Nat) (l : List (List Bool)), l.Nodup → (∀ x ∈ l, x.length = n) → (∀ S : List Nat, S.length = d → (∀ i ∈ S, i < n) → ¬ Shows l S) → l.length ≤ B d n := by
  intro n
  induction n with
  | zero =>
    intro d l hn hl hS
    cases d with
    | zero =>
      cases l with
      | nil => exact Nat.zero_le _
      | cons x l =>
        exfalso
        refine hS [] rfl (fun i hi => by cases hi) fun b hb => ⟨x, List.mem_cons_self, ?_⟩
        rw [List.length_eq_zero_iff.1 hb]; rfl
    | succ d =>
      show l.length ≤ 1
      cases l with
      | nil => simp
      | cons x l =>
        cases l with
        | nil => simp
        | cons y l =>
          exfalso
          have h1 := hl x List.mem_cons_self
          have h2 := hl y (List.mem_cons_of_mem _ List.mem_cons_self)
          rw [List.length_eq_zero_iff] at h1 h2
          subst h1 h2
          simp at hn
  | succ n ih =>
    intro d l hn hl hS
    cases d with
    | zero =>
      cases l with
      | nil => exact Nat.zero_le _
      | cons x l =>
        exfalso
        refine hS [] rfl (fun i hi => by cases hi) fun b hb => ⟨x, List.mem_cons_self, ?_⟩
        rw [List.length_eq_zero_iff.1 hb]; rfl
    | succ d =>
      rw [card_split l n hl]
      obtain ⟨l1, h1⟩ : ∃ l1, l1 = (l.filter (fun x => x.head? == some false)).map List.tail := ⟨_, rfl⟩
      obtain ⟨l2, h2⟩ : ∃ l2, l2 = (l.filter (fun x => x.head? == some true)).map List.tail := ⟨_, rfl⟩
      have m1 : ∀ {x}, x ∈ l1 ↔ false :: x ∈ l := by
        intro x
        rw [h1, List.mem_map]
        constructor
        · rintro ⟨y, hy, rfl⟩
          rw [List.mem_filter] at hy
          cases y with
          | nil => simp at hy
          | cons b y => obtain ⟨h, h'⟩ := hy; simp at h'; subst h'; exact h
        · intro h
          exact ⟨_, List.mem_filter.2 ⟨h, by simp⟩, rfl⟩
      have m2 : ∀ {x}, x ∈ l2 ↔ true :: x ∈ l := by
        intro x
        rw [h2, List.mem_map]
        constructor
        · rintro ⟨y, hy, rfl⟩
          rw [List.mem_filter] at hy
          cases y with
          | nil => simp at hy
          | cons b y => obtain ⟨h, h'⟩ := hy; simp at h'; subst h'; exact h
        · intro h
          exact ⟨_, List.mem_filter.2 ⟨h, by simp⟩, rfl⟩
      have inj : ∀ (b : Bool), ((l.filter (fun x => x.head? == some b)).map List.tail).Nodup := by
        intro b
        refine nodup_map_on (hn.filter _) fun x hx y hy he => ?_
        rw [List.mem_filter] at hx hy
        cases x with
        | nil => simp at hx
        | cons p x =>
          cases y with
          | nil => simp at hy
          | cons q y =>
            have e1 := hx.2; have e2 := hy.2
            simp at e1 e2 he
            rw [e1, e2, he]
      have n1 : l1.Nodup := by rw [h1]; exact inj false
      have n2 : l2.Nodup := by rw [h2]; exact inj true
      have e1 : (l.filter (fun x => x.head? == some false)).length = l1.length := by rw [h1, List.length_map]
      have e2 : (l.filter (fun x => x.head? == some true)).length = l2.length := by rw [h2, List.length_map]
      rw [e1, e2, len_filter l1 (fun x => l2.contains x)]
      have len1 : ∀ x ∈ l1, x.length = n := fun x hx => by have := hl _ (m1.1 hx); simpa using this
      have len2 : ∀ x ∈ l2, x.length = n := fun x hx => by have := hl _ (m2.1 hx); simpa using this
      have a1 : (l1.filter (fun x => !l2.contains x) ++ l2).length ≤ B (d + 1) n := by
        refine ih (d + 1) _ ?_ ?_ ?_
        · refine List.nodup_append.2 ⟨n1.filter _, n2, fun a ha b hb => ?_⟩
          rw [List.mem_filter] at ha
          rintro rfl
          simp [hb] at ha
        · intro x hx
          rcases List.mem_append.1 hx with h | h
          · exact len1 x (List.mem_filter.1 h).1
          · exact len2 x h
        · intro S hSl hSn hs
          refine hS (S.map (· + 1)) (by simpa using hSl) (fun i hi => ?_) fun b hb => ?_
          · obtain ⟨j, hj, rfl⟩ := List.mem_map.1 hi
            have := hSn j hj; omega
          · obtain ⟨x, hx, he⟩ := hs b (by simpa using hb)
            have : ∃ p, p :: x ∈ l := by
              rcases List.mem_append.1 hx with h | h
              · exact ⟨_, m1.1 (List.mem_filter.1 h).1⟩
              · exact ⟨_, m2.1 h⟩
            obtain ⟨p, hp⟩ := this
            refine ⟨_, hp, ?_⟩
            rw [List.map_map, ← he]
            exact List.map_congr_left fun i _ => by simp
      have a2 : (l1.filter (fun x => l2.contains x)).length ≤ B d n := by
        refine ih d _ (n1.filter _) (fun x hx => len1 x (List.mem_filter.1 hx).1) ?_
        intro S hSl hSn hs
        refine hS (0 :: S.map (· + 1)) (by simpa using hSl) (fun i hi => ?_) fun b hb => ?_
        · rcases List.mem_cons.1 hi with rfl | hi
          · omega
          · obtain ⟨j, hj, rfl⟩ := List.mem_map.1 hi
            have := hSn j hj; omega
        · cases b with
          | nil => simp at hb
          | cons p b =>
            obtain ⟨x, hx, he⟩ := hs b (by simpa using hb)
            rw [List.mem_filter] at hx
            have hp : p :: x ∈ l := by
              cases p
              · exact m1.1 hx.1
              · exact m2.1 (by simpa using hx.2)
            refine ⟨_, hp, ?_⟩
            rw [List.map_cons, List.map_map, List.map_cons, ← he]
            simp
      rw [List.length_append] at a1
      show _ ≤ B (d + 1) n + B d n
      omega

theorem B1 (n : Nat) : B 1 n ≤ 1 := by
  induction n with
  | zero => exact Nat.le_refl _
  | succ n ih => rw [B]; have : B 0 n = 0 := by cases n <;> rfl
                 have ih : B (0 + 1) n ≤ 1 := ih
                 omega
theorem B2 (n : Nat) : B 2 n ≤ n + 1 := by
  induction n with
  | zero => exact Nat.le_refl _
  | succ n ih => show B 2 n + B 1 n ≤ n + 1 + 1; have := B1 n; omega
theorem B3 (n : Nat) : B 3 n ≤ (n + 1) * (n + 1) := by
  induction n with
  | zero => exact Nat.le_refl _
  | succ n ih =>
    show B 3 n + B 2 n ≤ (n + 1 + 1) * (n + 1 + 1)
    have := B2 n
    have e : (n + 1 + 1) * (n + 1 + 1) = (n + 1) * (n + 1) + (n + 1) + (n + 1 + 1) := by
      rw [Nat.add_mul (n + 1) 1, Nat.mul_add (n + 1) (n + 1) 1, Nat.mul_one, Nat.one_mul]
    omega
theorem B4 (n : Nat) : B 4 n ≤ (n + 1) * ((n + 1) * (n + 1)) := by
  induction n with
  | zero => exact Nat.le_refl _
  | succ n ih =>
    show B 4 n + B 3 n ≤ _
    have h3 := B3 n
    have h1 : (n + 1) * ((n + 1) * (n + 1)) + (n + 1) * (n + 1) ≤ (n + 1 + 1) * ((n + 1 + 1) * (n + 1 + 1)) := by
      have e : (n + 1) * ((n + 1) * (n + 1)) + (n + 1) * (n + 1) = (n + 1 + 1) * ((n + 1) * (n + 1)) := by
        rw [Nat.add_mul (n + 1) 1, Nat.one_mul]
      rw [e]
      exact Nat.mul_le_mul (Nat.le_refl _) (Nat.mul_le_mul (by omega) (by omega))
    omega
end Go.Proofs.YtcpeeopdaakbaaaGreat.Vc

namespace Go.Proofs.YtcpeeopdaakbaaaGreat.Vc
set_option linter.unusedVariables false
open Cx Rs

/-- two rows of one number -/
theorem dep1 (a b : Rat) : ∃ x y : Rat, (x ≠ 0 ∨ y ≠ 0) ∧ x * a + y * b = 0 := by
  by_cases h : a = 0
  · exact ⟨1, 0, .inl (by grind), by grind⟩
  · exact ⟨b, -a, .inr (by grind), by grind⟩

/-- three rows of two numbers -/
theorem dep2 (a b c a' b' c' : Rat) : ∃ x y z : Rat, (x ≠ 0 ∨ y ≠ 0 ∨ z ≠ 0) ∧ x * a + y * b + z * c = 0 ∧ x * a' + y * b' + z * c' = 0 := by
  by_cases h : a = 0
  · by_cases h2 : b = 0
    · obtain ⟨x, y, h3, h4⟩ := dep1 a' b'
      exact ⟨x, y, 0, by rcases h3 with h | h <;> simp [h], by grind, by grind⟩
    · -- y = - z c / b
      obtain ⟨x, z, h3, h4⟩ := dep1 (a' * b) (c' * b - b' * c)
      refine ⟨x * b, - z * c, z * b, ?_, by grind, by grind⟩
      rcases h3 with h | h
      · left; grind
      · right; right; grind
  · obtain ⟨y, z, h3, h4⟩ := dep1 (b' * a - a' * b) (c' * a - a' * c)
    refine ⟨-(y * b + z * c), y * a, z * a, ?_, by grind, by grind⟩
    rcases h3 with h | h
    · right; left; grind
    · right; right; grind

/-- four rows of three numbers -/
theorem dep3 (a b c d a' b' c' d' a'' b'' c'' d'' : Rat) : ∃ x y z u : Rat, (x ≠ 0 ∨ y ≠ 0 ∨ z ≠ 0 ∨ u ≠ 0) ∧ x * a + y * b + z * c + u * d = 0 ∧ x * a' + y * b' + z * c' + u * d' = 0 ∧ x * a'' + y * b'' + z * c'' + u * d'' = 0 := by
  by_cases h : a = 0
  · by_cases h2 : b = 0
    · by_cases h3 : c = 0
      · obtain ⟨x, y, z, h4, h5, h6⟩ := dep2 a' b' c' a'' b'' c''
        exact ⟨x, y, z, 0, by rcases h4 with h | h | h <;> simp [h], by grind, by grind, by grind⟩
      · obtain ⟨x, y, u, h4, h5, h6⟩ := dep2 (a' * c) (b' * c) (d' * c - c' * d) (a'' * c) (b'' * c) (d'' * c - c'' * d)
        refine ⟨x * c, y * c, -(u * d), u * c, ?_, by grind, by grind, by grind⟩
        rcases h4 with h | h | h
        · left; grind
        · right; left; grind
        · right; right; right; grind
    · obtain ⟨x, z, u, h4, h5, h6⟩ := dep2 (a' * b) (c' * b - b' * c) (d' * b - b' * d) (a'' * b) (c'' * b - b'' * c) (d'' * b - b'' * d)
      refine ⟨x * b, -(z * c + u * d), z * b, u * b, ?_, by grind, by grind, by grind⟩
      rcases h4 with h | h | h
      · left; grind
      · right; right; left; grind
      · right; right; right; grind
  · obtain ⟨y, z, u, h4, h5, h6⟩ := dep2 (b' * a - a' * b) (c' * a - a' * c) (d' * a - a' * d) (b'' * a - a'' * b) (c'' * a - a'' * c) (d'' * a - a'' * d)
    refine ⟨-(y * b + z * c + u * d), y * a, z * a, u * a, ?_, by grind, by grind, by grind⟩
    rcases h4 with h | h | h
    · right; left; grind
    · right; right; left; grind
    · right; right; right; grind

/-- what moves a vector is a sum of its three numbers -/
theorem acts_lin (c : Nat → Nat → Nat → Rat) (n : Nat) : ∀ (w : List Nat), (∀ y ∈ w, y < 3) → ∀ s, s < 3 → ∃ a b d : Rat, ∀ V : Vec, acts c w V s n = a * V 0 n + b * V 1 n + d * V 2 n := by
  intro w
  induction w with
  | nil =>
    intro _ s hs
    rcases s with _ | _ | _ | s
    · exact ⟨1, 0, 0, fun V => by show V 0 n = _; grind⟩
    · exact ⟨0, 1, 0, fun V => by show V 1 n = _; grind⟩
    · exact ⟨0, 0, 1, fun V => by show V 2 n = _; grind⟩
    · omega
  | cons t w ih =>
    intro hlow s hs
    have hl := fun y hy => hlow y (List.mem_cons_of_mem _ hy)
    have ht := hlow t List.mem_cons_self
    obtain ⟨a, b, d, h1⟩ := ih hl s hs
    obtain ⟨a', b', d', h2⟩ := ih hl t ht
    by_cases e : s = t
    · subst e
      refine ⟨-a, -b, -d, fun V => ?_⟩
      rw [acts_cons, act_at, h1]; grind
    · refine ⟨a + c t s n * a', b + c t s n * b', d + c t s n * d', fun V => ?_⟩
      rw [acts_cons, act_off c e, h1, h2]; grind

/-- many promises, each from some place on -/
theorem from_all {α : Type} (l : List α) (P : α → Nat → Prop) (h : ∀ a ∈ l, ∃ N, ∀ n, N ≤ n → P a n) : ∃ N, ∀ a ∈ l, ∀ n, N ≤ n → P a n := by
  induction l with
  | nil => exact ⟨0, fun a ha => by cases ha⟩
  | cons x l ih =>
    obtain ⟨N, hN⟩ := ih (fun a ha => h a (List.mem_cons_of_mem _ ha))
    obtain ⟨K, hK⟩ := h x List.mem_cons_self
    refine ⟨N + K, fun a ha n hn => ?_⟩
    rcases List.mem_cons.1 ha with rfl | ha
    · exact hK n (by omega)
    · exact hN a ha n (by omega)

variable {M : Nat → Nat → Nat} {c : Nat → Nat → Nat → Rat}

/-- the height above a wall: the wall of the letter s of the tile of u -/
def Hi (c : Nat → Nat → Nat → Rat) (u : List Nat) (s : Nat) (v : List Nat) : Nat → Rat := acts c (u.reverse ++ v) (fun _ _ => 1) s

theorem setV_one : SetV (fun _ _ => 1) := fun _ => set_const 1
theorem pos_one : ∀ h : Nat, Pos ((fun _ _ => 1 : Vec) h) := fun _ => ⟨1 / 2, by grind, 0, fun n _ => by show (1 : Rat) / 2 < 1; grind⟩

theorem hi_sign (hM : Ords M) (hC : Ps M c) (u v : List Nat) (s : Nat) :
    (¬ Ds (inv (mk u) * mk v : G M) s → Pos (Hi c u s v)) ∧ (Ds (inv (mk u) * mk v : G M) s → Pos (fun n => - Hi c u s v n)) := by
  obtain ⟨w, hw, hr⟩ := red_exists (M := M) (inv (mk u) * mk v)
  have e : (mk w : G M) = mk (u.reverse ++ v) := hw
  have hsim := acts_sim hC.toCs setV_one e s
  constructor
  · intro h
    rw [← hw] at h
    have := (positive hM hC setV_one w.length w rfl hr s h).2 pos_one
    exact (this.nul hsim.neg).congr fun n => by unfold Hi; grind
  · intro h
    rw [← hw] at h
    obtain ⟨x, hx, he⟩ := ds_word h
    have hr2 : Red M (s :: x) := red_same hr he (by simpa using hx)
    have hn : ¬ Ds (mk x : G M) s := (ds_front s (mk x : G M)).1 (ds_of_head hr2)
    have hp := (positive hM hC setV_one x.length x rfl (red_tail hr2) s hn).2 pos_one
    have hsim2 := acts_sim hC.toCs setV_one he s
    refine ((hp.nul hsim2).nul hsim).congr fun n => ?_
    unfold Hi
    rw [acts_cons, act_at]
    grind

/-- is the wall between the first tile and v? -/
theorem eta_wall (u : List Nat) (s : Nat) (v : G M) : eta v (cj (mk u) (mk [s])) = (eta (mk u : G M) (cj (mk u) (mk [s])) ^^ eta (inv (mk u) * v) (mk [s])) := by
  have h := eta_mul (mk u) (inv (mk u) * v) (cj (mk u) (mk [s]) : G M)
  rw [cj_inv, ← mul_assoc, mul_inv, one_mul] at h
  exact h

theorem xor_eq {p q r : Bool} (h : (p ^^ q) = (p ^^ r)) : q = r := by
  cases p <;> cases q <;> cases r <;> simp_all

/-- four walls never part the tiles in all ways -/
theorem four (hM : Ords M) (hC : Ps M c) (us : Nat → List Nat) (ss : Nat → Nat) (hu : ∀ i, i < 4 → (∀ y ∈ us i, y < 3) ∧ ss i < 3)
    (vs : List Bool → List Nat) (h : ∀ b : List Bool, b.length = 4 → ∀ i, i < 4 → b[i]? = some (eta (mk (vs b) : G M) (cj (mk (us i)) (mk [ss i])))) : False := by
  have hall : ∀ b ∈ ([false, true].flatMap fun p => [false, true].flatMap fun q => [false, true].flatMap fun r => [false, true].map fun s => [p, q, r, s]), b.length = 4 := by decide
  have hN : ∃ N, ∀ b ∈ ([false, true].flatMap fun p => [false, true].flatMap fun q => [false, true].flatMap fun r => [false, true].map fun s => [p, q, r, s]), ∀ n, N ≤ n → ∀ i, i < 4 →
      ((¬ Ds (inv (mk (us i)) * mk (vs b) : G M) (ss i) → 0 < Hi c (us i) (ss i) (vs b) n) ∧ (Ds (inv (mk (us i)) * mk (vs b) : G M) (ss i) → 0 < - Hi c (us i) (ss i) (vs b) n)) := by
    refine from_all _ _ fun b _ => ?_
    obtain ⟨N, hN⟩ := from_all [0, 1, 2, 3] (fun i n => (¬ Ds (inv (mk (us i)) * mk (vs b) : G M) (ss i) → 0 < Hi c (us i) (ss i) (vs b) n) ∧ (Ds (inv (mk (us i)) * mk (vs b) : G M) (ss i) → 0 < - Hi c (us i) (ss i) (vs b) n)) (fun i _ => by
      by_cases hd : Ds (inv (mk (us i)) * mk (vs b) : G M) (ss i)
      · obtain ⟨e, he, N, hN⟩ := (hi_sign hM hC (us i) (vs b) (ss i)).2 hd
        exact ⟨N, fun n hn => ⟨fun h => absurd hd h, fun _ => by have := hN n hn; grind⟩⟩
      · obtain ⟨e, he, N, hN⟩ := (hi_sign hM hC (us i) (vs b) (ss i)).1 hd
        exact ⟨N, fun n hn => ⟨fun _ => by have := hN n hn; grind, fun h => absurd h hd⟩⟩)
    refine ⟨N, fun n hn i hi => hN i ?_ n hn⟩
    rcases i with _ | _ | _ | _ | i <;> first | omega | simp
  obtain ⟨n, hn⟩ := hN
  replace hn := fun b hb => hn b hb n (Nat.le_refl _)
  have lin := fun i hi => acts_lin c n (us i).reverse (fun y hy => (hu i hi).1 y (by simpa using hy)) (ss i) (hu i hi).2
  obtain ⟨a0, b0, d0, l0⟩ := lin 0 (by omega)
  obtain ⟨a1, b1, d1, l1⟩ := lin 1 (by omega)
  obtain ⟨a2, b2, d2, l2⟩ := lin 2 (by omega)
  obtain ⟨a3, b3, d3, l3⟩ := lin 3 (by omega)
  obtain ⟨x, y, z, u, hne, s1, s2, s3⟩ := dep3 a0 a1 a2 a3 b0 b1 b2 b3 d0 d1 d2 d3
  -- which way each of them
  have pick : ∀ (x : Rat) (i : Nat), i < 4 → ∃ q : Bool, ∀ b : List Bool, b ∈ ([false, true].flatMap fun p => [false, true].flatMap fun q => [false, true].flatMap fun r => [false, true].map fun s => [p, q, r, s]) → b[i]? = some q →
      0 ≤ x * Hi c (us i) (ss i) (vs b) n ∧ (x ≠ 0 → 0 < x * Hi c (us i) (ss i) (vs b) n) := by
    intro x i hi
    refine ⟨eta (mk (us i) : G M) (cj (mk (us i)) (mk [ss i])) ^^ decide (x < 0), fun b hb hq => ?_⟩
    have e1 := h b (hall b hb) i hi
    rw [hq, Option.some.injEq, eta_wall (us i) (ss i) (mk (vs b))] at e1
    have e2 : decide (x < 0) = eta (inv (mk (us i)) * mk (vs b) : G M) (mk [ss i]) := by
      exact xor_eq e1
    have hs := hn b hb i hi
    unfold Ds at hs
    rw [← e2] at hs
    by_cases hx : x < 0
    · have h1 := hs.2 (by simpa using hx)
      have h2 : 0 < (-x) * (- Hi c (us i) (ss i) (vs b) n) := Rat.mul_pos (by grind) h1
      constructor
      · grind
      · intro _; grind
    · have h1 := hs.1 (by simpa using hx)
      by_cases h0 : x = 0
      · subst h0
        constructor
        · grind
        · intro h; exact absurd rfl h
      · have h2 : 0 < x * Hi c (us i) (ss i) (vs b) n := Rat.mul_pos (by grind) h1
        exact ⟨by grind, fun _ => h2⟩
  obtain ⟨q0, p0⟩ := pick x 0 (by omega)
  obtain ⟨q1, p1⟩ := pick y 1 (by omega)
  obtain ⟨q2, p2⟩ := pick z 2 (by omega)
  obtain ⟨q3, p3⟩ := pick u 3 (by omega)
  have hmem : [q0, q1, q2, q3] ∈ ([false, true].flatMap fun p => [false, true].flatMap fun q => [false, true].flatMap fun r => [false, true].map fun s => [p, q, r, s]) := by
    cases q0 <;> cases q1 <;> cases q2 <;> cases q3 <;> decide
  have r0 := p0 _ hmem rfl
  have r1 := p1 _ hmem rfl
  have r2 := p2 _ hmem rfl
  have r3 := p3 _ hmem rfl
  have g0 : Hi c (us 0) (ss 0) (vs [q0, q1, q2, q3]) n = a0 * acts c (vs [q0, q1, q2, q3]) (fun _ _ => 1) 0 n + b0 * acts c (vs [q0, q1, q2, q3]) (fun _ _ => 1) 1 n + d0 * acts c (vs [q0, q1, q2, q3]) (fun _ _ => 1) 2 n := by unfold Hi; rw [acts_append]; exact l0 _
  have g1 : Hi c (us 1) (ss 1) (vs [q0, q1, q2, q3]) n = a1 * acts c (vs [q0, q1, q2, q3]) (fun _ _ => 1) 0 n + b1 * acts c (vs [q0, q1, q2, q3]) (fun _ _ => 1) 1 n + d1 * acts c (vs [q0, q1, q2, q3]) (fun _ _ => 1) 2 n := by unfold Hi; rw [acts_append]; exact l1 _
  have g2 : Hi c (us 2) (ss 2) (vs [q0, q1, q2, q3]) n = a2 * acts c (vs [q0, q1, q2, q3]) (fun _ _ => 1) 0 n + b2 * acts c (vs [q0, q1, q2, q3]) (fun _ _ => 1) 1 n + d2 * acts c (vs [q0, q1, q2, q3]) (fun _ _ => 1) 2 n := by unfold Hi; rw [acts_append]; exact l2 _
  have g3 : Hi c (us 3) (ss 3) (vs [q0, q1, q2, q3]) n = a3 * acts c (vs [q0, q1, q2, q3]) (fun _ _ => 1) 0 n + b3 * acts c (vs [q0, q1, q2, q3]) (fun _ _ => 1) 1 n + d3 * acts c (vs [q0, q1, q2, q3]) (fun _ _ => 1) 2 n := by unfold Hi; rw [acts_append]; exact l3 _
  generalize Hi c (us 0) (ss 0) (vs [q0, q1, q2, q3]) n = k0 at *
  generalize Hi c (us 1) (ss 1) (vs [q0, q1, q2, q3]) n = k1 at *
  generalize Hi c (us 2) (ss 2) (vs [q0, q1, q2, q3]) n = k2 at *
  generalize Hi c (us 3) (ss 3) (vs [q0, q1, q2, q3]) n = k3 at *
  generalize acts c (vs [q0, q1, q2, q3]) (fun _ _ => 1) 0 n = t0 at *
  generalize acts c (vs [q0, q1, q2, q3]) (fun _ _ => 1) 1 n = t1 at *
  generalize acts c (vs [q0, q1, q2, q3]) (fun _ _ => 1) 2 n = t2 at *
  have hz : x * k0 + y * k1 + z * k2 + u * k3 = 0 := by
    have : x * k0 + y * k1 + z * k2 + u * k3 = (x * a0 + y * a1 + z * a2 + u * a3) * t0 + (x * b0 + y * b1 + z * b2 + u * b3) * t1 + (x * d0 + y * d1 + z * d2 + u * d3) * t2 := by
      rw [g0, g1, g2, g3]; clear r0 r1 r2 r3 g0 g1 g2 g3 s1 s2 s3; grind
    rw [this, s1, s2, s3]; grind
  clear g0 g1 g2 g3 s1 s2 s3 l0 l1 l2 l3 p0 p1 p2 p3 hn h
  rcases hne with h | h | h | h
  · have := r0.2 h; grind
  · have := r1.2 h; grind
  · have := r2.2 h; grind
  · have := r3.2 h; grind
end Go.Proofs.YtcpeeopdaakbaaaGreat.Vc

namespace Go.Proofs.YtcpeeopdaakbaaaGreat.Vc
set_option linter.unusedVariables false
open Cx Rs

variable {M : Nat → Nat → Nat} {c : Nat → Nat → Nat → Rat}

/-- the walls tell the tile -/
theorem eta_inj {x y : G M} (h : ∀ t, eta x t = eta y t) : x = y := by
  have h1 : ∀ t, eta (inv x * y) t = false := by
    intro t
    have a := eta_mul (inv x) y t
    have b := eta_mul (inv x) x t
    rw [inv_mul_self] at b
    rw [h] at b
    rw [a, ← b, eta_mk]
    rfl
  obtain ⟨w, hw, hr⟩ := red_exists (inv x * y)
  cases w with
  | nil =>
    have h2 : x * (inv x * y) = x * mk [] := by rw [← hw]
    rw [← mul_assoc, mul_inv, one_mul, mul_one] at h2
    exact h2.symm
  | cons s w =>
    exfalso
    have h2 := ds_of_head hr
    unfold Ds at h2
    rw [hw, h1] at h2
    cases h2

/-- the walls of a word's letters -/
def Wall (t : G M) : Prop := ∃ u s, (∀ y ∈ u, y < 3) ∧ s < 3 ∧ t = cj (mk u) (mk [s])

theorem refs_wall {w : List Nat} (h : ∀ y ∈ w, y < 3) : ∀ t ∈ (refs w : List (G M)), Wall t := by
  induction w with
  | nil => intro t ht; cases ht
  | cons s w ih =>
    intro t ht
    have hs := h s List.mem_cons_self
    simp only [refs, List.mem_cons, List.mem_map] at ht
    rcases ht with rfl | ⟨t', ht', rfl⟩
    · exact ⟨[], s, (fun y hy => by cases hy), hs, (cj_one _).symm⟩
    · obtain ⟨u, r, h1, h2, rfl⟩ := ih (fun y hy => h y (List.mem_cons_of_mem _ hy)) t' ht'
      refine ⟨s :: u, r, fun y hy => ?_, h2, ?_⟩
      · rcases List.mem_cons.1 hy with rfl | hy
        · exact hs
        · exact h1 y hy
      · rw [← cj_mul]; rfl

theorem nodup_trace {α β γ : Type} {f : α → β} {g : α → γ} {l : List α} (h : (l.map f).Nodup) (hf : ∀ x ∈ l, ∀ y ∈ l, g x = g y → f x = f y) : (l.map g).Nodup := by
  induction l with
  | nil => simp
  | cons a l ih =>
    rw [List.map_cons, List.nodup_cons] at h
    rw [List.map_cons, List.nodup_cons]
    refine ⟨fun hm => ?_, ih h.2 (fun x hx y hy => hf x (List.mem_cons_of_mem _ hx) y (List.mem_cons_of_mem _ hy))⟩
    obtain ⟨b, hb, he⟩ := List.mem_map.1 hm
    exact h.1 (List.mem_map.2 ⟨b, hb, hf b (List.mem_cons_of_mem _ hb) a List.mem_cons_self he⟩)

theorem bound (hM : Ords M) (hC : Ps M c) (R : List (G M)) (hR : ∀ t ∈ R, Wall t) (l : List (List Nat)) (hl : ∀ w ∈ l, ∀ y ∈ w, y < 3)
    (hd : (l.map (fun w => (mk w : G M))).Nodup) (hsub : ∀ w ∈ l, ∀ t, eta (mk w : G M) t = true → t ∈ R) : l.length ≤ (R.length + 1) * ((R.length + 1) * (R.length + 1)) := by
  have hn : (l.map (fun w => R.map (eta (mk w : G M)))).Nodup := by
    refine nodup_trace hd fun x hx y hy he => eta_inj fun t => ?_
    by_cases ht : t ∈ R
    · exact List.map_inj_left.1 he t ht
    · have h1 : eta (mk x : G M) t = false := by
        cases h : eta (mk x : G M) t
        · rfl
        · exact absurd (hsub x hx t h) ht
      have h2 : eta (mk y : G M) t = false := by
        cases h : eta (mk y : G M) t
        · rfl
        · exact absurd (hsub y hy t h) ht
      rw [h1, h2]
  have := sauer R.length 4 _ hn (fun x hx => by obtain ⟨w, _, rfl⟩ := List.mem_map.1 hx; simp) ?_
  · rw [List.length_map] at this
    exact Nat.le_trans this (B4 _)
  · intro S hS hSn hshow
    have hw : ∀ i, ∃ u s, i < 4 → (∀ y ∈ u, y < 3) ∧ s < 3 ∧ ∃ j, S[i]? = some j ∧ R[j]? = some (cj (mk u) (mk [s]) : G M) := by
      intro i
      by_cases hi : i < 4
      · have hj : S[i]? = some (S[i]'(by omega)) := List.getElem?_eq_getElem (by omega)
        have hlt : S[i]'(by omega) < R.length := hSn _ (List.getElem_mem (by omega))
        obtain ⟨u, s, h1, h2, h3⟩ := hR (R[S[i]'(by omega)]) (List.getElem_mem hlt)
        exact ⟨u, s, fun _ => ⟨h1, h2, _, hj, by rw [List.getElem?_eq_getElem hlt, h3]⟩⟩
      · exact ⟨[], 0, fun h => absurd h hi⟩
    obtain ⟨us, hus⟩ := Classical.axiomOfChoice hw
    obtain ⟨ss, hss⟩ := Classical.axiomOfChoice hus
    have hv : ∀ b : List Bool, ∃ w, b.length = 4 → ∀ i, i < 4 → b[i]? = some (eta (mk w : G M) (cj (mk (us i)) (mk [ss i]))) := by
      intro b
      by_cases hb : b.length = 4
      · obtain ⟨x, hx, he⟩ := hshow b (by rw [hb, hS])
        obtain ⟨w, hw, rfl⟩ := List.mem_map.1 hx
        refine ⟨w, fun _ i hi => ?_⟩
        obtain ⟨_, _, j, h1, h2⟩ := hss i hi
        have h3 := congrArg (fun l => l[i]?) he
        simp only [List.getElem?_map, h1, h2, Option.map_some] at h3
        cases hbi : b[i]? with
        | none => rw [hbi] at h3; simp at h3
        | some q =>
          rw [hbi] at h3
          simpa using h3.symm
      · exact ⟨[], fun h => absurd h hb⟩
    obtain ⟨vs, hvs⟩ := Classical.axiomOfChoice hv
    exact four hM hC us ss (fun i hi => ⟨(hss i hi).1, (hss i hi).2.1⟩) vs (fun b hb => hvs b hb)
end Go.Proofs.YtcpeeopdaakbaaaGreat.Vc

namespace Go.Proofs.YtcpeeopdaakbaaaGreat.Cx
set_option linter.unusedVariables false

section
variable {M : Nat → Nat → Nat}

/-- how many letters the tile has -/
noncomputable def ln (x : G M) : Nat := (nf x).length

theorem ln_red {w : List Nat} (h : Red M w) : ln (mk w : G M) = w.length := red_len (nf_greedy _).red h (mk_nf _)
theorem ln_le (w : List Nat) : ln (mk w : G M) ≤ w.length := (nf_greedy (mk w : G M)).red w (mk_nf _).symm
theorem red_of_ln {w : List Nat} (h : w.length ≤ ln (mk w : G M)) : Red M w := fun v hv => by
  have := ln_le (M := M) v
  rw [hv] at this
  omega
theorem ln_one : ln (mk [] : G M) = 0 := ln_red red_nil
theorem ln_zero {x : G M} (h : ln x = 0) : x = mk [] := by
  rw [← mk_nf x, List.length_eq_zero_iff.1 h]
theorem ln_mul (x y : G M) : ln (x * y) ≤ ln x + ln y := by
  have := ln_le (M := M) (nf x ++ nf y)
  rw [← mk_mul, mk_nf, mk_nf, List.length_append] at this
  exact this
theorem ln_inv_le (x : G M) : ln (inv x) ≤ ln x := by
  have := ln_le (M := M) (nf x).reverse
  rw [← inv_mk, mk_nf, List.length_reverse] at this
  exact this
theorem ln_inv (x : G M) : ln (inv x) = ln x := by
  have h1 := ln_inv_le x
  have h2 := ln_inv_le (inv x)
  rw [inv_inv] at h2
  omega

/-- the letter s can stand last -/
def Dr (x : G M) (s : Nat) : Prop := Ds (inv x) s

theorem inv_let (x : G M) (s : Nat) : inv (x * mk [s]) = mk [s] * inv x := by rw [inv_mul, let_inv]
theorem two_let (x : G M) (s : Nat) : x * mk [s] * mk [s] = x := by rw [mul_assoc, let_sq, mul_one]

theorem dr_back (x : G M) (s : Nat) : Dr (x * mk [s]) s ↔ ¬ Dr x s := by
  unfold Dr
  rw [inv_let]
  exact ds_front s (inv x)

theorem ln_front_up {x : G M} {s : Nat} (h : ¬ Ds x s) : ln (mk [s] * x) = ln x + 1 := by
  have h1 := nf_greedy x
  have h2 : ¬ Ds (mk (nf x) : G M) s := by rw [mk_nf]; exact h
  have := ln_red (red_cons h1.red h2)
  rw [show (mk (s :: nf x) : G M) = mk [s] * mk (nf x) from rfl, mk_nf] at this
  rw [this]; rfl

theorem ln_up {x : G M} {s : Nat} (h : ¬ Dr x s) : ln (x * mk [s]) = ln x + 1 := by
  have := ln_front_up h
  rw [← inv_let, ln_inv, ln_inv] at this
  exact this
theorem ln_down {x : G M} {s : Nat} (h : Dr x s) : ln (x * mk [s]) + 1 = ln x := by
  have h1 : ¬ Dr (x * mk [s]) s := fun h2 => (dr_back x s).1 h2 h
  have := ln_up h1
  rw [two_let] at this
  exact this.symm
theorem dr_iff (x : G M) (s : Nat) : Dr x s ↔ ln (x * mk [s]) < ln x := by
  constructor
  · intro h; have := ln_down h; omega
  · intro h
    exact Classical.byContradiction fun hn => by
      have := ln_up hn
      omega
theorem ln_step (x : G M) (s : Nat) : ln (x * mk [s]) = ln x + 1 ∨ ln (x * mk [s]) + 1 = ln x := by
  by_cases h : Dr x s
  · exact .inr (ln_down h)
  · exact .inl (ln_up h)

theorem ln_le_mul (x : G M) (w : List Nat) : ln (x * mk w) ≤ ln x + w.length := Nat.le_trans (ln_mul x (mk w)) (Nat.add_le_add_left (ln_le w) _)

/-- no letter is lost: then none is lost on the way -/
theorem ln_way {x : G M} {u v : List Nat} (h : ln (x * mk (u ++ v)) = ln x + (u ++ v).length) : ln (x * mk u) = ln x + u.length := by
  have h1 := ln_le_mul x u
  have h2 := ln_le_mul (x * mk u) v
  rw [mul_assoc, mk_mul, h, List.length_append] at h2
  omega

/-- both letters can stand last: then a whole row of them can -/
theorem bothR (hM : Ords M) {s t : Nat} (hst : s ≠ t) {x : G M} (hs : Dr x s) (ht : Dr x t) :
    M s t ≠ 0 ∧ ∃ u, x = u * mk (alt s t (M s t)).reverse ∧ x = u * mk (alt t s (M s t)).reverse ∧ ln u + M s t = ln x := by
  have e := mk_nf (inv x)
  have h1 : Ds (mk (nf (inv x)) : G M) s := by rw [e]; exact hs
  have h2 : Ds (mk (nf (inv x)) : G M) t := by rw [e]; exact ht
  obtain ⟨h0, v, hv, hl⟩ := both hM hst h1 h2
  refine ⟨h0, inv (mk v), ?_, ?_, ?_⟩
  · rw [e] at hv
    have := congrArg inv hv
    rw [inv_inv, ← mk_mul, inv_mul] at this
    exact this.symm
  · rw [e, ← mk_mul, mk_alt, mk_mul] at hv
    have := congrArg inv hv
    rw [inv_inv, ← mk_mul, inv_mul] at this
    exact this.symm
  · rw [ln_inv]
    have hr : Red M (alt s t (M s t) ++ v) := red_same (nf_greedy _).red hv (by rw [List.length_append, alt_length]; exact hl)
    rw [ln_red (red_drop hr)]
    have : (nf (inv x)).length = ln x := ln_inv x
    omega

/-- the normal word of a tile, over the side that leads down: one of those -/
theorem nf_last {x : G M} (h : x ≠ mk []) : ∃ s, Dr x s ∧ nf x = nf (x * mk [s]) ++ [s] := by
  have hg := nf_greedy x
  have hm := mk_nf x
  have hne : nf x ≠ [] := fun e => h (by rw [← hm, e])
  obtain ⟨w, s, hw⟩ : ∃ w s, nf x = w ++ [s] := ⟨_, _, (List.dropLast_concat_getLast hne).symm⟩
  rw [hw] at hg hm
  have h1 : x * mk [s] = mk w := by rw [← hm, ← mk_mul, two_let]
  have h2 : nf (x * mk [s]) = w := by rw [h1]; exact nf_eq hg.take
  refine ⟨s, (dr_iff x s).2 ?_, by rw [h2, hw]⟩
  have e1 : ln x = (w ++ [s]).length := by unfold ln; rw [hw]
  rw [h1, ln_red hg.take.red, e1]
  simp

/-- a word over a side that leads down is one of the shortest -/
theorem nf_side {x : G M} {s : Nat} (h : Dr x s) : (mk (nf (x * mk [s]) ++ [s]) : G M) = x ∧ (nf (x * mk [s]) ++ [s]).length = ln x := by
  refine ⟨by rw [← mk_mul, mk_nf, two_let], ?_⟩
  have := ln_down h
  rw [List.length_append]
  exact this

theorem Ahead.antisymm : ∀ {u v : List Nat}, Ahead u v → Ahead v u → u.length = v.length → u = v := by
  intro u
  induction u with
  | nil => intro v _ _ h; exact (List.length_eq_zero_iff.1 h.symm).symm
  | cons a u ih =>
    intro v h1 h2 hl
    cases v with
    | nil => simp at hl
    | cons b v =>
      rcases h1 with h1 | ⟨rfl, h1⟩
      · rcases h2 with h2 | ⟨h, _⟩ <;> omega
      · rcases h2 with h2 | ⟨_, h2⟩
        · omega
        · rw [ih h1 h2 (by simpa using hl)]

/-- the walls between the first tile and one on the way are among those of the end -/
theorem eta_way {x : G M} {w : List Nat} (h : ln (x * mk w) = ln x + w.length) {t : G M} (ht : eta x t = true) : eta (x * mk w) t = true := by
  have h1 : (mk (nf x ++ w) : G M) = x * mk w := by rw [← mk_mul, mk_nf]
  have hr : Red M (nf x ++ w) := red_of_ln (by rw [h1, h, List.length_append]; exact Nat.le_refl _)
  rw [← h1, eta_red hr, refs_append, List.mem_append]
  left
  rw [← eta_red (nf_greedy x).red, mk_nf]
  exact ht

/-- the walls of a word's letters are all that part -/
theorem eta_refs (w : List Nat) {t : G M} (h : eta (mk w) t = true) : t ∈ refs w := par_mem h
end
end Go.Proofs.YtcpeeopdaakbaaaGreat.Cx

namespace Go.Proofs.YtcpeeopdaakbaaaGreat.Cx
set_option linter.unusedVariables false

/-- a tile: its letters, the tiles over its sides, which of them lead down, a word -/
structure Nd where
  len : Nat
  to : List Int
  down : List Bool
  word : List Nat

def nd (ns : List Nd) (i : Nat) : Nd := ns.getD i ⟨0, [], [], []⟩
def tb (a : Nd) (s : Nat) : Int := a.to.getD s (-1)
def db (a : Nd) (s : Nat) : Bool := a.down.getD s false

theorem nd_get {ns : List Nd} {i : Nat} (h : i < ns.length) : ns[i]? = some (nd ns i) := by
  unfold nd; rw [List.getD_eq_getElem?_getD, List.getElem?_eq_getElem h]; rfl
theorem nd_set {ns : List Nd} {i : Nat} (h : i < ns.length) (a : Nd) (j : Nat) : nd (ns.set i a) j = if i = j then a else nd ns j := by
  unfold nd
  rw [List.getD_eq_getElem?_getD, List.getD_eq_getElem?_getD, List.getElem?_set]
  by_cases e : i = j
  · subst e; simp [h]
  · simp [e]
theorem nd_app {ns : List Nd} (a : Nd) {j : Nat} (h : j < ns.length) : nd (ns ++ [a]) j = nd ns j := by
  unfold nd
  rw [List.getD_eq_getElem?_getD, List.getD_eq_getElem?_getD, List.getElem?_append_left h]
theorem nd_end (ns : List Nd) (a : Nd) : nd (ns ++ [a]) ns.length = a := by
  unfold nd
  rw [List.getD_eq_getElem?_getD, List.getElem?_append_right (Nat.le_refl _)]
  simp

theorem tb_set {a b : Nd} {s : Nat} {v : Int} (h : b.to = a.to.set s v) (hs : s < a.to.length) (t : Nat) : tb b t = if s = t then v else tb a t := by
  unfold tb
  rw [h, List.getD_eq_getElem?_getD, List.getD_eq_getElem?_getD, List.getElem?_set]
  by_cases e : s = t
  · subst e; simp [hs]
  · simp [e]
theorem db_set {a b : Nd} {s : Nat} {v : Bool} (h : b.down = a.down.set s v) (hs : s < a.down.length) (t : Nat) : db b t = if s = t then v else db a t := by
  unfold db
  rw [h, List.getD_eq_getElem?_getD, List.getD_eq_getElem?_getD, List.getElem?_set]
  by_cases e : s = t
  · subst e; simp [hs]
  · simp [e]

section
variable {M : Nat → Nat → Nat}

/-- the tile of a node -/
def El (M : Nat → Nat → Nat) (ns : List Nd) (i : Nat) : G M := mk (nd ns i).word

/-- what holds of the nodes at all times; R: what holds of all tiles that are met -/
structure Ok (M : Nat → Nat → Nat) (R : G M → Prop) (ns : List Nd) : Prop where
  pos : 0 < ns.length
  first : El M ns 0 = mk []
  len : ∀ i, i < ns.length → (nd ns i).len = ln (El M ns i)
  wlen : ∀ i, i < ns.length → (nd ns i).word.length = (nd ns i).len
  low : ∀ i, i < ns.length → ∀ y ∈ (nd ns i).word, y < 3
  shp : ∀ i, i < ns.length → (nd ns i).to.length = 3 ∧ (nd ns i).down.length = 3
  inj : ∀ i j, i < ns.length → j < ns.length → El M ns i = El M ns j → i = j
  to : ∀ i, i < ns.length → ∀ s, s < 3 → tb (nd ns i) s = -1 ∨ ∃ j : Nat, j < ns.length ∧ tb (nd ns i) s = (j : Int) ∧ El M ns j = El M ns i * mk [s] ∧ tb (nd ns j) s = (i : Int)
  sub : ∀ i, i < ns.length → R (El M ns i)

/-- all is known of a node -/
structure Full (M : Nat → Nat → Nat) (ns : List Nd) (i : Nat) : Prop where
  down : ∀ s, s < 3 → (db (nd ns i) s = true ↔ Dr (El M ns i) s)
  known : ∀ s, s < 3 → Dr (El M ns i) s → tb (nd ns i) s ≠ -1
  word : (nd ns i).word = nf (El M ns i)

/-- the graph has grown, by tiles of at most b letters -/
structure Ext (M : Nat → Nat → Nat) (b : Nat) (ns ns' : List Nd) : Prop where
  size : ns.length ≤ ns'.length
  len : ∀ i, i < ns.length → (nd ns' i).len = (nd ns i).len
  word : ∀ i, i < ns.length → (nd ns' i).word = (nd ns i).word
  down : ∀ i, i < ns.length → (nd ns' i).down = (nd ns i).down
  to : ∀ i, i < ns.length → ∀ s, s < 3 → tb (nd ns i) s ≠ -1 → tb (nd ns' i) s = tb (nd ns i) s
  top : ∀ i, i < ns.length → b < (nd ns i).len → nd ns' i = nd ns i
  new : ∀ i, ns.length ≤ i → i < ns'.length → Full M ns' i ∧ (nd ns' i).len ≤ b

/-- all is known of the tiles of at most b letters -/
def Fl (M : Nat → Nat → Nat) (b : Nat) (ns : List Nd) : Prop := ∀ i, i < ns.length → (nd ns i).len ≤ b → Full M ns i

theorem Ext.el {b : Nat} {ns ns' : List Nd} (h : Ext M b ns ns') {i : Nat} (hi : i < ns.length) : El M ns' i = El M ns i := by
  unfold El; rw [h.word i hi]
theorem Ext.refl (b : Nat) (ns : List Nd) : Ext M b ns ns := ⟨Nat.le_refl _, fun _ _ => rfl, fun _ _ => rfl, fun _ _ => rfl, fun _ _ _ _ _ => rfl, fun _ _ _ => rfl, fun i h1 h2 => by omega⟩
theorem Ext.full {b : Nat} {ns ns' : List Nd} (h : Ext M b ns ns') {i : Nat} (hi : i < ns.length) (hf : Full M ns i) : Full M ns' i where
  down := fun s hs => by
    rw [h.el hi, ← hf.down s hs]; unfold db; rw [h.down i hi]
  known := fun s hs hd => by
    rw [h.el hi] at hd
    have := hf.known s hs hd
    rw [h.to i hi s hs this]; exact this
  word := by rw [h.el hi, h.word i hi]; exact hf.word
theorem Ext.trans {b b' : Nat} {ns ns' ns'' : List Nd} (h : Ext M b ns ns') (k : Ext M b' ns' ns'') (hb : b' ≤ b) : Ext M b ns ns'' where
  size := Nat.le_trans h.size k.size
  len := fun i hi => (k.len i (Nat.lt_of_lt_of_le hi h.size)).trans (h.len i hi)
  word := fun i hi => (k.word i (Nat.lt_of_lt_of_le hi h.size)).trans (h.word i hi)
  down := fun i hi => (k.down i (Nat.lt_of_lt_of_le hi h.size)).trans (h.down i hi)
  to := fun i hi s hs hn => by
    have h1 := h.to i hi s hs hn
    rw [k.to i (Nat.lt_of_lt_of_le hi h.size) s hs (by rw [h1]; exact hn), h1]
  top := fun i hi hn => by
    have h1 := h.top i hi hn
    rw [k.top i (Nat.lt_of_lt_of_le hi h.size) (by rw [h1]; omega), h1]
  new := fun i h1 h2 => by
    by_cases h3 : i < ns'.length
    · have := h.new i h1 h3
      exact ⟨k.full h3 this.1, by rw [k.len i h3]; exact this.2⟩
    · have := k.new i (by omega) h2
      exact ⟨this.1, by omega⟩
theorem Ext.more {b b' : Nat} {ns ns' : List Nd} (h : Ext M b ns ns') (hb : b ≤ b') : Ext M b' ns ns' :=
  ⟨h.size, h.len, h.word, h.down, h.to, fun i hi hn => h.top i hi (by omega), fun i h1 h2 => ⟨(h.new i h1 h2).1, by have := (h.new i h1 h2).2; omega⟩⟩
theorem Ext.fl {b b' : Nat} {ns ns' : List Nd} (h : Ext M b ns ns') (hf : Fl M b' ns) : Fl M b' ns' := by
  intro i hi hl
  by_cases h1 : i < ns.length
  · rw [h.len i h1] at hl
    exact h.full h1 (hf i h1 hl)
  · exact (h.new i (by omega) hi).1
theorem Fl.less {b b' : Nat} {ns : List Nd} (h : Fl M b ns) (hb : b' ≤ b) : Fl M b' ns := fun i hi hl => h i hi (by omega)

/-- a node that is known leads on -/
theorem ok_over {R : G M → Prop} {ns : List Nd} (h : Ok M R ns) {i s : Nat} (hi : i < ns.length) (hs : s < 3) (ht : tb (nd ns i) s ≠ -1) :
    ∃ j : Nat, j < ns.length ∧ tb (nd ns i) s = (j : Int) ∧ El M ns j = El M ns i * mk [s] := by
  rcases h.to i hi s hs with h1 | ⟨j, h1, h2, h3, _⟩
  · exact absurd h1 ht
  · exact ⟨j, h1, h2, h3⟩

/-- what isn't known leads up, to a tile that was not met -/
theorem ok_fresh {R : G M → Prop} {ns : List Nd} (h : Ok M R ns) {x s : Nat} (hx : x < ns.length) (hs : s < 3) (ht : tb (nd ns x) s = -1) (hf : Fl M ((nd ns x).len + 1) ns) :
    ¬ Dr (El M ns x) s ∧ ∀ j, j < ns.length → El M ns j ≠ El M ns x * mk [s] := by
  have h1 : ¬ Dr (El M ns x) s := fun hd => (hf x hx (by omega)).known s hs hd ht
  refine ⟨h1, fun j hj he => ?_⟩
  have h2 := ln_up h1
  have h3 : Dr (El M ns j) s := by
    rw [he]; exact (dr_back _ s).2 h1
  have h4 : (nd ns j).len = (nd ns x).len + 1 := by rw [h.len j hj, h.len x hx, he, h2]
  have h5 := (hf j hj (by omega)).known s hs h3
  rcases h.to j hj s hs with h6 | ⟨i, h6, h7, h8, h9⟩
  · exact h5 h6
  · rw [he, two_let] at h8
    have := h.inj i x h6 hx h8
    subst this
    rw [ht] at h9
    omega

theorem three {t : Nat} (h : t < 3) : t = 0 ∨ t = 1 ∨ t = 2 := by omega

/-- a new tile, that no side leads to yet -/
theorem ok_push {R : G M → Prop} {ns : List Nd} (h : Ok M R ns) {a : Nd} (hl : a.len = ln (mk a.word : G M)) (hw : a.word.length = a.len) (hlow : ∀ y ∈ a.word, y < 3) (hto : a.to = [-1, -1, -1]) (hd : a.down.length = 3)
    (hn : ∀ j, j < ns.length → El M ns j ≠ mk a.word) (hsub : R (mk a.word)) : Ok M R (ns ++ [a]) := by
  have e1 : ∀ {j}, j < ns.length → nd (ns ++ [a]) j = nd ns j := fun h => nd_app a h
  have e2 := nd_end ns a
  have c : ∀ {i}, i < (ns ++ [a]).length → i < ns.length ∨ i = ns.length := fun h => by rw [List.length_append] at h; simp at h; omega
  have l1 : (ns ++ [a]).length = ns.length + 1 := by simp
  have ta : ∀ s, tb a s = -1 := fun s => by unfold tb; rw [hto]; rcases s with _ | _ | _ | s <;> rfl
  refine ⟨by omega, ?_, ?_, ?_, ?_, ?_, ?_, ?_, ?_⟩
  · unfold El; rw [e1 h.pos]; exact h.first
  · intro i hi
    rcases c hi with h1 | rfl
    · unfold El; rw [e1 h1]; exact h.len i h1
    · unfold El; rw [e2]; exact hl
  · intro i hi
    rcases c hi with h1 | rfl
    · rw [e1 h1]; exact h.wlen i h1
    · rw [e2]; exact hw
  · intro i hi
    rcases c hi with h1 | rfl
    · rw [e1 h1]; exact h.low i h1
    · rw [e2]; exact hlow
  · intro i hi
    rcases c hi with h1 | rfl
    · rw [e1 h1]; exact h.shp i h1
    · rw [e2, hto]; exact ⟨rfl, hd⟩
  · intro i j hi hj he
    unfold El at he
    rcases c hi with h1 | rfl <;> rcases c hj with h2 | rfl
    · rw [e1 h1, e1 h2] at he; exact h.inj i j h1 h2 he
    · rw [e1 h1, e2] at he; exact absurd he (hn i h1)
    · rw [e2, e1 h2] at he; exact absurd he.symm (hn j h2)
    · rfl
  · intro i hi s hs
    rcases c hi with h1 | rfl
    · rcases h.to i h1 s hs with h3 | ⟨j, h3, h4, h5, h6⟩
      · left; rw [e1 h1]; exact h3
      · right
        refine ⟨j, by omega, by rw [e1 h1]; exact h4, ?_, by rw [e1 h3]; exact h6⟩
        unfold El; rw [e1 h1, e1 h3]; exact h5
    · left; rw [e2]; exact ta s
  · intro i hi
    rcases c hi with h1 | rfl
    · unfold El; rw [e1 h1]; exact h.sub i h1
    · unfold El; rw [e2]; exact hsub

/-- two tiles are joined over a side -/
theorem ok_link {R : G M → Prop} {ns ns' : List Nd} (h : Ok M R ns) (hl : ns'.length = ns.length) {i j s : Nat} (hi : i < ns.length) (hj : j < ns.length) (hij : i ≠ j) (hs : s < 3)
    (he : El M ns j = El M ns i * mk [s]) (ti : tb (nd ns i) s = -1) (tj : tb (nd ns j) s = -1)
    (hni : (nd ns' i).len = (nd ns i).len ∧ (nd ns' i).word = (nd ns i).word ∧ (nd ns' i).down = (nd ns i).down ∧ (nd ns' i).to = (nd ns i).to.set s (j : Int))
    (hnj : (nd ns' j).len = (nd ns j).len ∧ (mk (nd ns' j).word : G M) = mk (nd ns j).word ∧ (nd ns' j).word.length = (nd ns j).word.length ∧ (∀ y ∈ (nd ns' j).word, y < 3) ∧ (nd ns' j).down.length = 3 ∧ (nd ns' j).to = (nd ns j).to.set s (i : Int))
    (ho : ∀ k, k < ns.length → k ≠ i → k ≠ j → nd ns' k = nd ns k) : Ok M R ns' := by
  have el : ∀ k, k < ns.length → El M ns' k = El M ns k := by
    intro k hk
    unfold El
    by_cases h1 : k = i
    · subst h1; rw [hni.2.1]
    · by_cases h2 : k = j
      · subst h2; exact hnj.2.1
      · rw [ho k hk h1 h2]
  have ln' : ∀ k, k < ns.length → (nd ns' k).len = (nd ns k).len := by
    intro k hk
    by_cases h1 : k = i
    · subst h1; exact hni.1
    · by_cases h2 : k = j
      · subst h2; exact hnj.1
      · rw [ho k hk h1 h2]
  have tbi : ∀ t, tb (nd ns' i) t = if s = t then (j : Int) else tb (nd ns i) t := tb_set hni.2.2.2 (by rw [(h.shp i hi).1]; exact hs)
  have tbj : ∀ t, tb (nd ns' j) t = if s = t then (i : Int) else tb (nd ns j) t := tb_set hnj.2.2.2.2.2 (by rw [(h.shp j hj).1]; exact hs)
  -- sides that were known are as they were
  have old : ∀ k, k < ns.length → ∀ t, tb (nd ns k) t ≠ -1 → tb (nd ns' k) t = tb (nd ns k) t := by
    intro k hk t hn
    by_cases h1 : k = i
    · subst h1
      rw [tbi]
      by_cases e : s = t
      · subst e; exact absurd ti hn
      · rw [if_neg e]
    · by_cases h2 : k = j
      · subst h2
        rw [tbj]
        by_cases e : s = t
        · subst e; exact absurd tj hn
        · rw [if_neg e]
      · rw [ho k hk h1 h2]
  refine ⟨by rw [hl]; exact h.pos, by rw [el 0 h.pos]; exact h.first, ?_, ?_, ?_, ?_, ?_, ?_, ?_⟩
  · intro k hk; rw [hl] at hk; rw [ln' k hk, el k hk]; exact h.len k hk
  · intro k hk
    rw [hl] at hk
    rw [ln' k hk]
    by_cases h1 : k = i
    · subst h1; rw [hni.2.1]; exact h.wlen k hk
    · by_cases h2 : k = j
      · subst h2; rw [hnj.2.2.1]; exact h.wlen k hk
      · rw [ho k hk h1 h2]; exact h.wlen k hk
  · intro k hk
    rw [hl] at hk
    by_cases h1 : k = i
    · subst h1; rw [hni.2.1]; exact h.low k hk
    · by_cases h2 : k = j
      · subst h2; exact hnj.2.2.2.1
      · rw [ho k hk h1 h2]; exact h.low k hk
  · intro k hk
    rw [hl] at hk
    by_cases h1 : k = i
    · subst h1; rw [hni.2.2.1, hni.2.2.2, List.length_set]; exact h.shp k hk
    · by_cases h2 : k = j
      · subst h2; rw [hnj.2.2.2.2.2, List.length_set]; exact ⟨(h.shp k hk).1, hnj.2.2.2.2.1⟩
      · rw [ho k hk h1 h2]; exact h.shp k hk
  · intro k k' hk hk' hh
    rw [hl] at hk hk'
    rw [el k hk, el k' hk'] at hh
    exact h.inj k k' hk hk' hh
  · intro k hk t ht
    rw [hl] at hk
    by_cases e1 : k = i ∧ s = t
    · obtain ⟨rfl, rfl⟩ := e1
      right
      refine ⟨j, by omega, by rw [tbi, if_pos rfl], by rw [el _ hk, el _ hj]; exact he, by rw [tbj, if_pos rfl]⟩
    · by_cases e2 : k = j ∧ s = t
      · obtain ⟨rfl, rfl⟩ := e2
        right
        refine ⟨i, by omega, by rw [tbj, if_pos rfl], by rw [el _ hk, el _ hi, he, two_let], by rw [tbi, if_pos rfl]⟩
      · have same : tb (nd ns' k) t = tb (nd ns k) t := by
          by_cases h1 : k = i
          · subst h1; rw [tbi, if_neg (fun e => e1 ⟨rfl, e⟩)]
          · by_cases h2 : k = j
            · subst h2; rw [tbj, if_neg (fun e => e2 ⟨rfl, e⟩)]
            · rw [ho k hk h1 h2]
        rcases h.to k hk t ht with h3 | ⟨q, h3, h4, h5, h6⟩
        · left; rw [same]; exact h3
        · right
          refine ⟨q, by omega, by rw [same]; exact h4, by rw [el k hk, el q h3]; exact h5, ?_⟩
          rw [old q h3 t (by rw [h6]; omega)]
          exact h6
  · intro k hk
    rw [hl] at hk
    rw [el k hk]
    exact h.sub k hk
end
end Go.Proofs.YtcpeeopdaakbaaaGreat.Cx

namespace Go.Proofs.YtcpeeopdaakbaaaGreat.Cx
set_option linter.unusedVariables false

section
variable {M : Nat → Nat → Nat}

/-! the row of letters around the corner, down and up again -/

/-- k sides down from the tile a -/
structure Dn (M : Nat → Nat → Nat) (ns : List Nd) (a : G M) (t s k v : Nat) : Prop where
  lt : v < ns.length
  el : El M ns v = a * mk (alt t s k)
  ln : ln (El M ns v) + k = ln a

theorem turn_lt {t s : Nat} (ht : t < 3) (hs : s < 3) (k : Nat) : turn t s k < 3 := by
  unfold turn; split <;> assumption

theorem dn_start {ns : List Nd} {x : Nat} (hx : x < ns.length) (t s : Nat) : Dn M ns (El M ns x) t s 0 x := ⟨hx, (mul_one _).symm, rfl⟩

theorem dn_next {R : G M → Prop} {ns : List Nd} (h : Ok M R ns) {a : G M} {t s k v : Nat} (ht : t < 3) (hs : s < 3) (hf : Fl M (ln a) ns) (hd : Dn M ns a t s k v) (hb : db (nd ns v) (turn t s k) = true) :
    ∃ j : Nat, j < ns.length ∧ tb (nd ns v) (turn t s k) = (j : Int) ∧ Dn M ns a t s (k + 1) j := by
  have h3 := turn_lt ht hs k
  have hfull := hf v hd.lt (by rw [h.len v hd.lt]; have := hd.ln; omega)
  have h1 := (hfull.down _ h3).1 hb
  obtain ⟨j, h4, h5, h6⟩ := ok_over h hd.lt h3 (hfull.known _ h3 h1)
  refine ⟨j, h4, h5, h4, ?_, ?_⟩
  · rw [h6, hd.el, alt_snoc, ← mk_mul, mul_assoc]
  · rw [h6]
    have := ln_down h1
    have := hd.ln
    omega

theorem alt_rev_succ (s t k : Nat) : (alt s t (k + 1)).reverse = (alt t s k).reverse ++ [s] := by
  show (s :: alt t s k).reverse = _
  rw [List.reverse_cons]

theorem mk_alt_rev (s t : Nat) : (mk (alt s t (M s t)).reverse : G M) = mk (alt t s (M s t)).reverse := by
  rw [← inv_mk, ← inv_mk, mk_alt]

/-- all the way down: the tile over the side s stands farthest around the corner -/
theorem dn_all {ns : List Nd} {a : G M} {t s v m : Nat} (hm : M s t = m + 1) (hd : Dn M ns a t s m v) (hs : ¬ Dr a s) :
    a * mk [s] = El M ns v * mk (alt t s (m + 1)).reverse ∧ ln (a * mk [s]) = ln (El M ns v) + (m + 1) ∧ Dr (a * mk [s]) t ∧ a * mk [s] * mk [t] = El M ns v * mk (alt s t m).reverse := by
  have h1 : a = El M ns v * mk (alt t s m).reverse := by
    rw [hd.el, ← inv_mk, mul_assoc, mul_inv, mul_one]
  have h2 : a * mk [s] = El M ns v * mk (alt t s (m + 1)).reverse := by
    have e := mk_alt_rev (M := M) s t
    rw [hm] at e
    rw [← e, alt_rev_succ, ← mk_mul, ← mul_assoc, ← h1]
  have h3 : ln (a * mk [s]) = ln (El M ns v) + (m + 1) := by
    rw [ln_up hs]
    have := hd.ln
    omega
  have h4 : a * mk [s] * mk [t] = El M ns v * mk (alt s t m).reverse := by
    rw [h2, alt_rev_succ, ← mk_mul, ← mul_assoc, two_let]
  refine ⟨h2, h3, ?_, h4⟩
  rw [dr_iff, h4, h3]
  have := ln_le_mul (El M ns v) (alt s t m).reverse
  rw [List.length_reverse, alt_length] at this
  omega

/-- the row breaks off -/
theorem dn_stop (hM : Ords M) {R : G M → Prop} {ns : List Nd} (h : Ok M R ns) {a : G M} {t s k v m : Nat} (hst : s ≠ t) (ht : t < 3) (hs3 : s < 3) (hm : M s t = m + 1) (hk : k < m) (hf : Fl M (ln a) ns) (hd : Dn M ns a t s k v) (hs : ¬ Dr a s)
    (hb : db (nd ns v) (turn t s k) = false) : ¬ Dr (a * mk [s]) t := by
  intro hdt
  have h3 := turn_lt ht hs3 k
  have hfull := hf v hd.lt (by rw [h.len v hd.lt]; have := hd.ln; omega)
  have hn : ¬ Dr (El M ns v) (turn t s k) := fun hx => by
    have := (hfull.down _ h3).2 hx
    rw [hb] at this; cases this
  obtain ⟨_, u, h1, _, h2⟩ := bothR hM hst ((dr_back a s).2 hs) hdt
  rw [hm] at h1 h2
  -- a = u (alt t s m).reverse
  have ha : a = u * mk (alt t s m).reverse := by
    rw [alt_rev_succ, ← mk_mul, ← mul_assoc] at h1
    exact cancel_right h1
  have hla : ln a = ln u + m := by
    have := ln_up hs
    omega
  -- v = u (alt .. (m - k)).reverse, one letter more than the next
  have hrow : ∀ j, j ≤ m → a * mk (alt t s j) = u * mk (alt (turn t s j) (turn s t j) (m - j)).reverse := by
    intro j hj
    have e : alt t s m = alt t s j ++ alt (turn t s j) (turn s t j) (m - j) := by
      rw [← alt_add]; congr 1; omega
    rw [ha, e, List.reverse_append, ← mk_mul, mul_assoc, mul_assoc, ← inv_mk (alt t s j), inv_mul_self, mul_one]
  have hlen : ∀ j, j ≤ m → ln (a * mk (alt t s j)) + j = ln a := by
    intro j hj
    have e1 := hrow j hj
    have e : alt t s m = alt t s j ++ alt (turn t s j) (turn s t j) (m - j) := by
      rw [← alt_add]; congr 1; omega
    have e2 : (alt t s m).reverse = (alt (turn t s j) (turn s t j) (m - j)).reverse ++ (alt t s j).reverse := by rw [e, List.reverse_append]
    have e3 := ln_way (x := u) (u := (alt (turn t s j) (turn s t j) (m - j)).reverse) (v := (alt t s j).reverse) (by
      rw [← e2, ← ha, hla, List.length_reverse, alt_length])
    rw [e1, e3, List.length_reverse, alt_length, hla]
    omega
  have g1 := hlen (k + 1) (by omega)
  rw [alt_snoc, ← mk_mul, ← mul_assoc, ← hd.el] at g1
  have g2 := hd.ln
  exact hn ((dr_iff _ _).2 (by omega))

/-- up again, j letters -/
structure Up (M : Nat → Nat → Nat) (ns : List Nd) (u : G M) (t s m j v : Nat) : Prop where
  lt : v < ns.length
  el : El M ns v = u * mk ((alt s t m).reverse.take j)
  ln : ln (El M ns v) = ln u + j

theorem up_start {ns : List Nd} {v : Nat} (hv : v < ns.length) (t s m : Nat) : Up M ns (El M ns v) t s m 0 v := ⟨hv, by rw [List.take_zero, mul_one], rfl⟩

theorem rev_letter (s t : Nat) {m j : Nat} (hj : j < m) : (alt s t m).reverse.take (j + 1) = (alt s t m).reverse.take j ++ [turn s t (m - 1 - j)] := by
  rw [List.take_succ_eq_append_getElem (by simpa [alt_length] using hj)]
  congr 2
  rw [List.getElem_reverse, alt_get, alt_length]

theorem up_len {u : G M} {t s m : Nat} (hl : ln (u * mk (alt t s (m + 1)).reverse) = ln u + (m + 1)) (hm : M s t = m + 1) {j : Nat} (hj : j ≤ m) : ln (u * mk ((alt s t m).reverse.take j)) = ln u + j ∧
    ∀ w : G M, eta (u * mk ((alt s t m).reverse.take j)) w = true → eta (u * mk (alt t s (m + 1)).reverse) w = true := by
  have e : (alt t s (m + 1)).reverse = (alt s t m).reverse.take j ++ ((alt s t m).reverse.drop j ++ [t]) := by
    rw [← List.append_assoc, List.take_append_drop, alt_rev_succ]
  have hlen : ((alt s t m).reverse.take j).length = j := by simp [alt_length]; omega
  have h1 := ln_way (x := u) (u := (alt s t m).reverse.take j) (v := (alt s t m).reverse.drop j ++ [t]) (by
    rw [← e, hl, List.length_reverse, alt_length])
  rw [hlen] at h1
  refine ⟨h1, fun w hw => ?_⟩
  rw [e, ← mk_mul, ← mul_assoc]
  refine eta_way ?_ hw
  rw [mul_assoc, mk_mul, ← e, hl, h1]
  have : ((alt s t m).reverse.drop j ++ [t]).length = m - j + 1 := by simp [alt_length]
  rw [this]
  omega

theorem up_next {ns ns' : List Nd} {u : G M} {t s m j v v' : Nat} (hl : ln (u * mk (alt t s (m + 1)).reverse) = ln u + (m + 1)) (hm : M s t = m + 1) (hj : j < m) (h : Up M ns u t s m j v) (hv : v' < ns'.length) (he : El M ns' v' = El M ns v * mk [turn s t (m - 1 - j)]) :
    Up M ns' u t s m (j + 1) v' := by
  have e1 : El M ns' v' = u * mk ((alt s t m).reverse.take (j + 1)) := by
    rw [he, h.el, rev_letter s t hj, ← mk_mul, mul_assoc]
  exact ⟨hv, e1, by rw [e1]; exact (up_len hl hm (by omega)).1⟩

/-! the tile that is met -/

/-- behind the sides below k -/
structure St (M : Nat → Nat → Nat) (R : G M → Prop) (ns0 : List Nd) (x s k : Nat) (ns : List Nd) : Prop where
  ok : Ok M R ns
  size : ns0.length < ns.length
  len : ∀ i, i < ns0.length → (nd ns i).len = (nd ns0 i).len
  word : ∀ i, i < ns0.length → (nd ns i).word = (nd ns0 i).word
  down : ∀ i, i < ns0.length → (nd ns i).down = (nd ns0 i).down
  to : ∀ i, i < ns0.length → ∀ t, t < 3 → tb (nd ns0 i) t ≠ -1 → tb (nd ns i) t = tb (nd ns0 i) t
  top : ∀ i, i < ns0.length → (nd ns0 x).len + 1 < (nd ns0 i).len → nd ns i = nd ns0 i
  new : ∀ i, ns0.length < i → i < ns.length → Full M ns i ∧ (nd ns i).len ≤ (nd ns0 x).len
  ylen : (nd ns ns0.length).len = (nd ns0 x).len + 1
  yel : El M ns ns0.length = El M ns0 x * mk [s]
  dn : ∀ t, t < 3 → (db (nd ns ns0.length) t = true ↔ Dr (El M ns0 x * mk [s]) t ∧ (t = s ∨ t < k))
  kn : ∀ t, t < 3 → (db (nd ns ns0.length) t = true ↔ tb (nd ns ns0.length) t ≠ -1)
  wd : ∃ t, t < 3 ∧ (t = s ∨ t < k) ∧ Dr (El M ns0 x * mk [s]) t ∧ (nd ns ns0.length).word = nf (El M ns0 x * mk [s] * mk [t]) ++ [t]
  mn : ∀ t, t < 3 → (t = s ∨ t < k) → Dr (El M ns0 x * mk [s]) t → Ahead (nd ns ns0.length).word (nf (El M ns0 x * mk [s] * mk [t]) ++ [t])

theorem ahead_refl : ∀ u : List Nat, Ahead u u := by
  intro u
  induction u with
  | nil => trivial
  | cons a u ih => exact .inr ⟨rfl, ih⟩
theorem ahead_trans : ∀ {u v w : List Nat}, Ahead u v → Ahead v w → Ahead u w := by
  intro u
  induction u with
  | nil => intro v w _ _; trivial
  | cons a u ih =>
    intro v w h1 h2
    cases v with
    | nil => exact h1.elim
    | cons b v =>
      cases w with
      | nil => exact h2.elim
      | cons c w =>
        rcases h1 with h1 | ⟨rfl, h1⟩
        · rcases h2 with h2 | ⟨rfl, _⟩
          · exact .inl (by omega)
          · exact .inl h1
        · rcases h2 with h2 | ⟨rfl, h2⟩
          · exact .inl h2
          · exact .inr ⟨rfl, ih h1 h2⟩

theorem st_elOld {R : G M → Prop} {ns0 ns : List Nd} {x s k : Nat} (h : St M R ns0 x s k ns) {i : Nat} (hi : i < ns0.length) : El M ns i = El M ns0 i := by
  unfold El; rw [h.word i hi]

theorem st_fl {R : G M → Prop} {ns0 ns : List Nd} {x s k : Nat} (h : St M R ns0 x s k ns) (hf : Fl M ((nd ns0 x).len + 1) ns0) : Fl M (nd ns0 x).len ns := by
  intro i hi hl
  by_cases h1 : i < ns0.length
  · rw [h.len i h1] at hl
    have := hf i h1 (by omega)
    refine ⟨fun t ht => ?_, fun t ht hd => ?_, ?_⟩
    · rw [st_elOld h h1, ← this.down t ht]; unfold db; rw [h.down i h1]
    · rw [st_elOld h h1] at hd
      have hk := this.known t ht hd
      rw [h.to i h1 t ht hk]; exact hk
    · rw [st_elOld h h1, h.word i h1]; exact this.word
  · by_cases h2 : i = ns0.length
    · subst h2
      rw [h.ylen] at hl; omega
    · exact (h.new i (by omega) hi).1

/-- tiles of fewer letters come to it -/
theorem st_ext {R : G M → Prop} {ns0 ns ns' : List Nd} {x s k b : Nat} (h : St M R ns0 x s k ns) (hok : Ok M R ns') (he : Ext M b ns ns') (hb : b ≤ (nd ns0 x).len) : St M R ns0 x s k ns' := by
  have hy : nd ns' ns0.length = nd ns ns0.length := he.top _ h.size (by rw [h.ylen]; omega)
  have hey : El M ns' ns0.length = El M ns ns0.length := by unfold El; rw [hy]
  refine ⟨hok, Nat.lt_of_lt_of_le h.size he.size, ?_, ?_, ?_, ?_, ?_, ?_, by rw [hy]; exact h.ylen, by rw [hey]; exact h.yel, by rw [hy]; exact h.dn, by rw [hy]; exact h.kn, by rw [hy]; exact h.wd, by rw [hy]; exact h.mn⟩
  · intro i hi; rw [he.len i (by have := h.size; omega)]; exact h.len i hi
  · intro i hi; rw [he.word i (by have := h.size; omega)]; exact h.word i hi
  · intro i hi; rw [he.down i (by have := h.size; omega)]; exact h.down i hi
  · intro i hi t ht hn
    have h1 := h.to i hi t ht hn
    rw [he.to i (by have := h.size; omega) t ht (by rw [h1]; exact hn), h1]
  · intro i hi hn
    rw [he.top i (by have := h.size; omega) (by rw [h.len i hi]; omega)]
    exact h.top i hi hn
  · intro i h1 h2
    by_cases h3 : i < ns.length
    · have := h.new i h1 h3
      exact ⟨he.full h3 this.1, by rw [he.len i h3]; exact this.2⟩
    · have := he.new i (by omega) h2
      exact ⟨this.1, by omega⟩

/-- a side that leads up, too -/
theorem st_skip {R : G M → Prop} {ns0 ns : List Nd} {x s k : Nat} (h : St M R ns0 x s k ns) (hk : k = s ∨ ¬ Dr (El M ns0 x * mk [s]) k) : St M R ns0 x s (k + 1) ns := by
  have c : ∀ t, Dr (El M ns0 x * mk [s]) t → ((t = s ∨ t < k + 1) ↔ (t = s ∨ t < k)) := by
    intro t hd
    constructor
    · rintro (h1 | h1)
      · exact .inl h1
      · by_cases h2 : t = k
        · subst h2
          rcases hk with hk | hk
          · exact .inl hk
          · exact absurd hd hk
        · exact .inr (by omega)
    · rintro (h1 | h1)
      · exact .inl h1
      · exact .inr (by omega)
  refine { h with dn := ?_, wd := ?_, mn := ?_ }
  · intro t ht
    rw [h.dn t ht]
    constructor
    · rintro ⟨h1, h2⟩; exact ⟨h1, (c t h1).2 h2⟩
    · rintro ⟨h1, h2⟩; exact ⟨h1, (c t h1).1 h2⟩
  · obtain ⟨t, h1, h2, h3, h4⟩ := h.wd
    exact ⟨t, h1, (c t h3).2 h2, h3, h4⟩
  · intro t h1 h2 h3
    exact h.mn t h1 ((c t h3).1 h2) h3

/-- shortest words have no letters but those below 3 -/
def Lows (M : Nat → Nat → Nat) : Prop := ∀ u v, (mk u : G M) = mk v → (∀ y ∈ v, y < 3) → Red M u → ∀ y ∈ u, y < 3

/-- in the end all is known of it -/
theorem st_done (hL : Lows M) {R : G M → Prop} {ns0 ns : List Nd} {x s : Nat} (h : St M R ns0 x s 3 ns) : Ext M ((nd ns0 x).len + 1) ns0 ns := by
  have hy : Full M ns ns0.length := by
    refine ⟨fun t ht => ?_, fun t ht hd => ?_, ?_⟩
    · rw [h.yel, h.dn t ht]
      exact ⟨fun h => h.1, fun hd => ⟨hd, .inr ht⟩⟩
    · rw [h.yel] at hd
      exact (h.kn t ht).1 ((h.dn t ht).2 ⟨hd, .inr ht⟩)
    · rw [h.yel]
      obtain ⟨t, h1, _, h3, h4⟩ := h.wd
      have hne : El M ns0 x * mk [s] ≠ mk [] := by
        intro e
        rw [e] at h3
        have := ln_down h3
        rw [ln_one] at this
        omega
      obtain ⟨q, hq, hw⟩ := nf_last hne
      have hq3 : q < 3 := by
        have e : (mk (nf (El M ns0 x * mk [s])) : G M) = mk (nd ns ns0.length).word := by rw [mk_nf]; exact h.yel.symm
        refine hL _ _ e (h.ok.low ns0.length h.size) (nf_greedy _).red q ?_
        rw [hw]; simp
      have side := nf_side h3
      have a1 := (nf_greedy (El M ns0 x * mk [s])).ahead (v := (nd ns ns0.length).word) (by rw [h4, mk_nf]; exact side.1) (by rw [h4, side.2]; rfl)
      have a2 := h.mn q hq3 (.inr hq3) hq
      rw [← hw] at a2
      exact (a1.antisymm a2 (by rw [h4, side.2]; rfl)).symm
  exact ⟨Nat.le_of_lt h.size, h.len, h.word, h.down, h.to, h.top, fun i h1 h2 => by
    by_cases e : i = ns0.length
    · subst e; exact ⟨hy, by rw [h.ylen]; exact Nat.le_refl _⟩
    · have := h.new i (by omega) h2
      exact ⟨this.1, by omega⟩⟩
end
end Go.Proofs.YtcpeeopdaakbaaaGreat.Cx

namespace Go.Proofs.YtcpeeopdaakbaaaGreat.Cx
set_option linter.unusedVariables false

section
variable {M : Nat → Nat → Nat}

theorem tb_first (s t : Nat) (v : Int) (hs : s < 3) : tb ⟨0, [-1, -1, -1].set s v, [], []⟩ t = if s = t then v else -1 := by
  have h := tb_set (a := ⟨0, [-1, -1, -1], [], []⟩) (b := ⟨0, [-1, -1, -1].set s v, [], []⟩) (s := s) (v := v) rfl (by simpa using hs) t
  rw [h]
  split
  · rfl
  · unfold tb; rcases t with _ | _ | _ | t <;> rfl
theorem db_first (s t : Nat) (hs : s < 3) : db ⟨0, [], [false, false, false].set s true, []⟩ t = decide (s = t) := by
  have h := db_set (a := ⟨0, [], [false, false, false], []⟩) (b := ⟨0, [], [false, false, false].set s true, []⟩) (s := s) (v := true) rfl (by simpa using hs) t
  rw [h]
  split
  · rename_i h; simp [h]
  · rename_i h; simp [h]; unfold db; rcases t with _ | _ | _ | t <;> rfl

/-- a tile over a side that leads up -/
theorem st_start {R : G M → Prop} {ns0 ns : List Nd} {x s : Nat} (h0 : Ok M R ns0) (hx : x < ns0.length) (hs : s < 3) (ht : tb (nd ns0 x) s = -1) (hf : Fl M ((nd ns0 x).len + 1) ns0)
    (hR : R (El M ns0 x * mk [s])) (hl : ns.length = ns0.length + 1)
    (hnx : nd ns x = { nd ns0 x with to := (nd ns0 x).to.set s (ns0.length : Int) })
    (hny : nd ns ns0.length = ⟨(nd ns0 x).len + 1, [-1, -1, -1].set s (x : Int), [false, false, false].set s true, (nd ns0 x).word ++ [s]⟩)
    (ho : ∀ k, k < ns0.length → k ≠ x → nd ns k = nd ns0 k) : St M R ns0 x s 0 ns := by
  obtain ⟨hup, hnew⟩ := ok_fresh h0 hx hs ht hf
  have hfx := hf x hx (by omega)
  have hel : (mk ((nd ns0 x).word ++ [s]) : G M) = El M ns0 x * mk [s] := rfl
  have hwl : ((nd ns0 x).word ++ [s]).length = (nd ns0 x).len + 1 := by rw [List.length_append, h0.wlen x hx]; rfl
  have hlow : ∀ y ∈ (nd ns0 x).word ++ [s], y < 3 := by
    intro y hy
    rcases List.mem_append.1 hy with h | h
    · exact h0.low x hx y h
    · rw [List.mem_singleton.1 h]; exact hs
  have hp := ok_push h0 (a := ⟨(nd ns0 x).len + 1, [-1, -1, -1], [false, false, false].set s true, (nd ns0 x).word ++ [s]⟩) (by show _ + 1 = ln (mk ((nd ns0 x).word ++ [s]) : G M); rw [hel, ln_up hup, h0.len x hx]) hwl hlow rfl (by simp)
    (fun j hj => by show _ ≠ (mk ((nd ns0 x).word ++ [s]) : G M); rw [hel]; exact hnew j hj) (by show R (mk ((nd ns0 x).word ++ [s])); rw [hel]; exact hR)
  have e1 : ∀ {j}, j < ns0.length → nd (ns0 ++ [⟨(nd ns0 x).len + 1, [-1, -1, -1], [false, false, false].set s true, (nd ns0 x).word ++ [s]⟩]) j = nd ns0 j := fun h => nd_app _ h
  have e2 := nd_end ns0 ⟨(nd ns0 x).len + 1, [-1, -1, -1], [false, false, false].set s true, (nd ns0 x).word ++ [s]⟩
  have hok : Ok M R ns := by
    refine ok_link hp (by rw [hl]; simp) (i := x) (j := ns0.length) (s := s) (by simp; omega) (by simp) (by omega) hs ?_ (by rw [e1 hx]; exact ht) ?_ ?_ ?_ ?_
    · unfold El; rw [e2, e1 hx]; exact hel
    · rw [e2]; unfold tb; rcases s with _ | _ | _ | s <;> rfl
    · rw [hnx, e1 hx]; exact ⟨rfl, rfl, rfl, rfl⟩
    · rw [hny, e2]; exact ⟨rfl, rfl, rfl, hlow, by simp, rfl⟩
    · intro k hk h1 h2
      have hk' : k < ns0.length := by rw [List.length_append] at hk; simp at hk; omega
      rw [e1 hk', ho k hk' h1]
  have tbx : ∀ t, tb (nd ns x) t = if s = t then (ns0.length : Int) else tb (nd ns0 x) t := by
    intro t
    rw [hnx]
    exact tb_set (a := nd ns0 x) rfl (by rw [(h0.shp x hx).1]; exact hs) t
  have tby : ∀ t, tb (nd ns ns0.length) t = if s = t then (x : Int) else -1 := by
    intro t; rw [hny]; exact tb_first s t x hs
  have dby : ∀ t, db (nd ns ns0.length) t = decide (s = t) := by
    intro t; rw [hny]; exact db_first s t hs
  have hyel : El M ns ns0.length = El M ns0 x * mk [s] := by unfold El; rw [hny]; exact hel
  have hds : Dr (El M ns0 x * mk [s]) s := (dr_back _ s).2 hup
  refine ⟨hok, by omega, ?_, ?_, ?_, ?_, ?_, fun i h1 h2 => by omega, by rw [hny], hyel, ?_, ?_, ⟨s, hs, .inl rfl, hds, ?_⟩, ?_⟩
  · intro i hi
    by_cases e : i = x
    · subst e; rw [hnx]
    · rw [ho i hi e]
  · intro i hi
    by_cases e : i = x
    · subst e; rw [hnx]
    · rw [ho i hi e]
  · intro i hi
    by_cases e : i = x
    · subst e; rw [hnx]
    · rw [ho i hi e]
  · intro i hi t ht' hn
    by_cases e : i = x
    · subst e
      rw [tbx]
      by_cases e2 : s = t
      · subst e2; exact absurd ht hn
      · rw [if_neg e2]
    · rw [ho i hi e]
  · intro i hi hn
    rw [ho i hi (by rintro rfl; omega)]
  · intro t ht'
    rw [dby, decide_eq_true_eq]
    constructor
    · rintro rfl; exact ⟨hds, .inl rfl⟩
    · rintro ⟨_, h | h⟩
      · exact h.symm
      · omega
  · intro t ht'
    rw [dby, tby, decide_eq_true_eq]
    by_cases e : s = t
    · rw [if_pos e]; exact ⟨fun _ => by omega, fun _ => e⟩
    · rw [if_neg e]; exact ⟨fun h => absurd h e, fun h => absurd rfl h⟩
  · rw [hny, two_let, ← hfx.word]
  · intro t ht' h1 h2
    rcases h1 with rfl | h1
    · rw [hny, two_let, ← hfx.word]; exact ahead_refl _
    · omega

/-- one more side leads down -/
theorem st_add {R : G M → Prop} {ns0 ns ns' : List Nd} {x s k v : Nat} (h : St M R ns0 x s k ns) (h0 : Ok M R ns0) (hx : x < ns0.length) (hf : Fl M ((nd ns0 x).len + 1) ns0) (hup : ¬ Dr (El M ns0 x) s) (hk : k < 3) (hks : k ≠ s)
    (hd : Dr (El M ns0 x * mk [s]) k) (hv : v < ns.length) (he : El M ns v = El M ns0 x * mk [s] * mk [k]) (hl : ns'.length = ns.length) {w' : List Nat}
    (hw : (w' = (nd ns ns0.length).word ∧ Ahead (nd ns ns0.length).word ((nd ns v).word ++ [k])) ∨ (w' = (nd ns v).word ++ [k] ∧ Ahead ((nd ns v).word ++ [k]) (nd ns ns0.length).word))
    (hnv : nd ns' v = { nd ns v with to := (nd ns v).to.set k (ns0.length : Int) })
    (hny : nd ns' ns0.length = ⟨(nd ns ns0.length).len, (nd ns ns0.length).to.set k (v : Int), (nd ns ns0.length).down.set k true, w'⟩)
    (ho : ∀ i, i < ns.length → i ≠ v → i ≠ ns0.length → nd ns' i = nd ns i) : St M R ns0 x s (k + 1) ns' := by
  have hlv : (nd ns v).len = (nd ns0 x).len := by
    rw [h.ok.len v hv, he, h0.len x hx]
    have h1 := ln_down hd
    have h2 := ln_up hup
    omega
  have hfv := (st_fl h hf) v hv (by omega)
  have hwv : (nd ns v).word = nf (El M ns0 x * mk [s] * mk [k]) := by rw [hfv.word, he]
  have hvy : v ≠ ns0.length := by
    rintro rfl
    have := h.ylen
    omega
  have tyk : tb (nd ns ns0.length) k = -1 := Classical.byContradiction fun hn => by
    have := (h.dn k hk).1 ((h.kn k hk).2 hn)
    rcases this.2 with h1 | h1
    · exact hks h1
    · omega
  have tvk : tb (nd ns v) k = -1 := by
    rcases h.ok.to v hv k hk with h1 | ⟨j, h1, h2, h3, h4⟩
    · exact h1
    · rw [he, two_let, ← h.yel] at h3
      have := h.ok.inj j ns0.length h1 h.size h3
      subst this
      rw [tyk] at h4; omega
  have hel' : El M ns ns0.length = El M ns v * mk [k] := by rw [he, two_let, h.yel]
  have hside := nf_side hd
  have hword : (mk w' : G M) = mk (nd ns ns0.length).word ∧ w'.length = (nd ns ns0.length).word.length ∧ ∀ y ∈ w', y < 3 := by
    rcases hw with ⟨rfl, _⟩ | ⟨rfl, _⟩
    · exact ⟨rfl, rfl, h.ok.low _ h.size⟩
    · refine ⟨?_, ?_, ?_⟩
      · exact hel'.symm
      · rw [h.ok.wlen _ h.size, h.ylen, List.length_append, h.ok.wlen v hv, hlv]; rfl
      · intro y hy
        rcases List.mem_append.1 hy with h1 | h1
        · exact h.ok.low v hv y h1
        · rw [List.mem_singleton.1 h1]; exact hk
  have hok : Ok M R ns' := by
    refine ok_link h.ok hl (i := v) (j := ns0.length) (s := k) hv h.size hvy hk hel' tvk tyk ?_ ?_ ho
    · rw [hnv]; exact ⟨rfl, rfl, rfl, rfl⟩
    · rw [hny]; exact ⟨rfl, hword.1, hword.2.1, hword.2.2, by rw [List.length_set]; exact (h.ok.shp _ h.size).2, rfl⟩
  have tbv : ∀ t, tb (nd ns' v) t = if k = t then (ns0.length : Int) else tb (nd ns v) t := by
    intro t
    rw [hnv]
    exact tb_set (a := nd ns v) rfl (by rw [(h.ok.shp v hv).1]; exact hk) t
  have tby : ∀ t, tb (nd ns' ns0.length) t = if k = t then (v : Int) else tb (nd ns ns0.length) t := by
    intro t
    rw [hny]
    exact tb_set (a := nd ns ns0.length) rfl (by rw [(h.ok.shp _ h.size).1]; exact hk) t
  have dby : ∀ t, db (nd ns' ns0.length) t = if k = t then true else db (nd ns ns0.length) t := by
    intro t
    rw [hny]
    exact db_set (a := nd ns ns0.length) rfl (by rw [(h.ok.shp _ h.size).2]; exact hk) t
  have hyel : El M ns' ns0.length = El M ns0 x * mk [s] := by
    rw [← h.yel]; unfold El; rw [hny]; exact hword.1
  have hsz := h.size
  refine ⟨hok, by omega, ?_, ?_, ?_, ?_, ?_, ?_, by rw [hny]; exact h.ylen, hyel, ?_, ?_, ?_, ?_⟩
  · intro i hi
    by_cases e : i = v
    · subst e; rw [hnv]; exact h.len i hi
    · rw [ho i (by omega) e (by omega)]; exact h.len i hi
  · intro i hi
    by_cases e : i = v
    · subst e; rw [hnv]; exact h.word i hi
    · rw [ho i (by omega) e (by omega)]; exact h.word i hi
  · intro i hi
    by_cases e : i = v
    · subst e; rw [hnv]; exact h.down i hi
    · rw [ho i (by omega) e (by omega)]; exact h.down i hi
  · intro i hi t ht hn
    have h1 := h.to i hi t ht hn
    by_cases e : i = v
    · subst e
      rw [tbv]
      by_cases e2 : k = t
      · subst e2
        rw [tvk] at h1
        exact absurd h1.symm hn
      · rw [if_neg e2]; exact h1
    · rw [ho i (by omega) e (by omega)]; exact h1
  · intro i hi hn
    have h1 := h.top i hi hn
    rw [ho i (by omega) (by rintro rfl; rw [h1] at hlv; omega) (by omega)]
    exact h1
  · intro i h1 h2
    rw [hl] at h2
    have hi := h.new i h1 h2
    by_cases e : i = v
    · subst e
      refine ⟨⟨fun t ht => ?_, fun t ht hdd => ?_, ?_⟩, by rw [hnv]; exact hi.2⟩
      · have := hi.1.down t ht
        unfold El db at this ⊢
        rw [hnv]; exact this
      · rw [tbv]
        by_cases e2 : k = t
        · rw [if_pos e2]; omega
        · rw [if_neg e2]
          refine hi.1.known t ht ?_
          unfold El at hdd ⊢
          rw [hnv] at hdd; exact hdd
      · have := hi.1.word
        unfold El at this ⊢
        rw [hnv]; exact this
    · have e3 := ho i h2 e (by omega)
      refine ⟨⟨fun t ht => ?_, fun t ht hdd => ?_, ?_⟩, by rw [e3]; exact hi.2⟩
      · have := hi.1.down t ht
        unfold El at this ⊢
        rw [e3]; exact this
      · rw [e3]
        refine hi.1.known t ht ?_
        unfold El at hdd ⊢
        rw [e3] at hdd; exact hdd
      · have := hi.1.word
        unfold El at this ⊢
        rw [e3]; exact this
  · intro t ht
    rw [dby]
    by_cases e : k = t
    · subst e; rw [if_pos rfl]; exact ⟨fun _ => ⟨hd, .inr (by omega)⟩, fun _ => rfl⟩
    · rw [if_neg e, h.dn t ht]
      constructor
      · rintro ⟨a, b | b⟩
        · exact ⟨a, .inl b⟩
        · exact ⟨a, .inr (by omega)⟩
      · rintro ⟨a, b | b⟩
        · exact ⟨a, .inl b⟩
        · exact ⟨a, .inr (by omega)⟩
  · intro t ht
    rw [dby, tby]
    by_cases e : k = t
    · rw [if_pos e, if_pos e]; exact ⟨fun _ => by omega, fun _ => rfl⟩
    · rw [if_neg e, if_neg e]; exact h.kn t ht
  · rw [hny]
    rcases hw with ⟨rfl, _⟩ | ⟨rfl, _⟩
    · obtain ⟨t, h1, h2, h3, h4⟩ := h.wd
      exact ⟨t, h1, h2.imp id (by omega), h3, h4⟩
    · exact ⟨k, hk, .inr (by omega), hd, by show _ ++ [k] = _; rw [hwv]⟩
  · intro t ht h1 h2
    rw [hny]
    by_cases e : t = k
    · subst e
      rw [← hwv]
      rcases hw with ⟨rfl, h3⟩ | ⟨rfl, _⟩
      · exact h3
      · exact ahead_refl _
    · have h3 := h.mn t ht (h1.imp id (by omega)) h2
      rcases hw with ⟨rfl, _⟩ | ⟨rfl, h4⟩
      · exact h3
      · exact ahead_trans h4 h3

open Classical in
theorem nodup_le {α : Type} : ∀ {l R : List α}, l.Nodup → (∀ x ∈ l, x ∈ R) → l.length ≤ R.length := by
  intro l
  induction l with
  | nil => intro R _ _; exact Nat.zero_le _
  | cons a l ih =>
    intro R hn hs
    rw [List.nodup_cons] at hn
    have ha := hs a List.mem_cons_self
    have h1 := ih (R := R.erase a) hn.2 (fun x hx => (List.mem_erase_of_ne (by rintro rfl; exact hn.1 hx)).2 (hs x (List.mem_cons_of_mem _ hx)))
    rw [List.length_erase_of_mem ha] at h1
    have := List.length_pos_of_mem ha
    rw [List.length_cons]
    omega

/-- no tile has more letters than there are walls -/
theorem walls_len {R : List (G M)} {y : G M} (h : ∀ t, eta y t = true → t ∈ R) : ln y ≤ R.length := by
  have h1 := nf_greedy y
  have h2 := nodup_le (nodup_of_red h1.red) (R := R) (fun t ht => h t (by
    rw [← mk_nf y]; exact (eta_red h1.red t).2 ht))
  rw [refs_length] at h2
  exact h2
theorem ok_len {R : G M → Prop} {L : Nat} (hL : ∀ y, R y → ln y ≤ L) {ns : List Nd} (h : Ok M R ns) {i : Nat} (hi : i < ns.length) : (nd ns i).len ≤ L ∧ (nd ns i).word.length ≤ L := by
  have e : (nd ns i).len ≤ L := by
    rw [h.len i hi]
    exact hL _ (h.sub i hi)
  exact ⟨e, by rw [h.wlen i hi]; exact e⟩
/-- that all walls that part a tile from the first one are among these -/
def Walls (R : List (G M)) : G M → Prop := fun y => ∀ t, eta y t = true → t ∈ R

/-- there are not many -/
theorem ok_count (hM : Ords M) {c : Nat → Nat → Nat → Rat} (hC : Rs.Ps M c) {R : List (G M)} (hR : ∀ t ∈ R, Vc.Wall t) {ns : List Nd} (h : Ok M (Walls R) ns) : ns.length ≤ (R.length + 1) * ((R.length + 1) * (R.length + 1)) := by
  have e : ns.length = ((List.range ns.length).map (fun i => (nd ns i).word)).length := by simp
  rw [e]
  refine Vc.bound hM hC R hR _ ?_ ?_ ?_
  · intro w hw
    obtain ⟨i, hi, rfl⟩ := List.mem_map.1 hw
    exact h.low i (List.mem_range.1 hi)
  · rw [List.map_map]
    refine Vc.nodup_map_on List.nodup_range fun i hi j hj he => ?_
    exact h.inj i j (List.mem_range.1 hi) (List.mem_range.1 hj) he
  · intro w hw t ht
    obtain ⟨i, hi, rfl⟩ := List.mem_map.1 hw
    exact h.sub i (List.mem_range.1 hi) t ht
end
end Go.Proofs.YtcpeeopdaakbaaaGreat.Cx
