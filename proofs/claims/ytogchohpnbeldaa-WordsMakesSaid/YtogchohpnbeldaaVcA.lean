/- How many rows of yes and no there are, if no few places show them all (Sauer, Shelah). Four rows of three numbers hang together; four walls never part the tiles in all ways. Tiles that some walls part from the first one: not many. -/
import Derived.Test.YtogchohpnbeldaaTorA
namespace Go.Proofs.Ytogchohpnbeldaa.Vc

/-- the most rows of n places, if no d places show all -/
def B : Nat → Nat → Nat
  | 0, _ => 0
  | _ + 1, 0 => 1
  | d + 1, n + 1 => B (d + 1) n + B d n

/-- the places S show all -/
def Shows (l : List (List Bool)) (S : List Nat) : Prop := ∀ b : List Bool, b.length = S.length → ∃ x ∈ l, S.map (fun i => x[i]?) = b.map some

theorem card_split (l : List (List Bool)) (n : Nat) (hl : ∀ x ∈ l, x.length = n + 1) :
    l.length = (l.filter (fun x => x.head? == some false)).length + (l.filter (fun x => x.head? == some true)).length := by
  induction l with
  | nil => rfl
  | cons x l ih =>
    have ih := ih (fun y hy => hl y (List.mem_cons_of_mem _ hy))
    have hx := hl x List.mem_cons_self
    cases x with
    | nil => simp at hx
    | cons b x =>
      cases b
      · simp; omega
      · simp; omega

theorem nodup_map_on {α β : Type} {f : α → β} {l : List α} (h : l.Nodup) (hf : ∀ x ∈ l, ∀ y ∈ l, f x = f y → x = y) : (l.map f).Nodup := by
  induction l with
  | nil => simp
  | cons a l ih =>
    rw [List.nodup_cons] at h
    rw [List.map_cons, List.nodup_cons]
    refine ⟨fun hm => ?_, ih h.2 (fun x hx y hy => hf x (List.mem_cons_of_mem _ hx) y (List.mem_cons_of_mem _ hy))⟩
    obtain ⟨b, hb, he⟩ := List.mem_map.1 hm
    have := hf b (List.mem_cons_of_mem _ hb) a List.mem_cons_self he
    subst this
    exact h.1 hb

theorem len_filter {α : Type} (l : List α) (p : α → Bool) : l.length = (l.filter p).length + (l.filter (fun x => !p x)).length := by
  induction l with
  | nil => rfl
  | cons x l ih =>
    simp only [List.filter_cons, List.length_cons]
    cases p x <;> simp <;> omega

theorem sauer : ∀ (n d : Nat) (l : List (List Bool)), l.Nodup → (∀ x ∈ l, x.length = n) → (∀ S : List Nat, S.length = d → (∀ i ∈ S, i < n) → ¬ Shows l S) → l.length ≤ B d n := by
  intro n
  induction n with
  | zero =>
    intro d l hn hl hS
    cases d with
    | zero =>
      cases l with
      | nil => exact Nat.zero_le _
      | cons x l =>
        exfalso
        refine hS [] rfl (fun i hi => by cases hi) fun b hb => ⟨x, List.mem_cons_self, ?_⟩
        rw [List.length_eq_zero_iff.1 hb]; rfl
    | succ d =>
      show l.length ≤ 1
      cases l with
      | nil => simp
      | cons x l =>
        cases l with
        | nil => simp
        | cons y l =>
          exfalso
          have h1 := hl x List.mem_cons_self
          have h2 := hl y (List.mem_cons_of_mem _ List.mem_cons_self)
          rw [List.length_eq_zero_iff] at h1 h2
          subst h1 h2
          simp at hn
  | succ n ih =>
    intro d l hn hl hS
    cases d with
    | zero =>
      cases l with
      | nil => exact Nat.zero_le _
      | cons x l =>
        exfalso
        refine hS [] rfl (fun i hi => by cases hi) fun b hb => ⟨x, List.mem_cons_self, ?_⟩
        rw [List.length_eq_zero_iff.1 hb]; rfl
    | succ d =>
      rw [card_split l n hl]
      obtain ⟨l1, h1⟩ : ∃ l1, l1 = (l.filter (fun x => x.head? == some false)).map List.tail := ⟨_, rfl⟩
      obtain ⟨l2, h2⟩ : ∃ l2, l2 = (l.filter (fun x => x.head? == some true)).map List.tail := ⟨_, rfl⟩
      have m1 : ∀ {x}, x ∈ l1 ↔ false :: x ∈ l := by
        intro x
        rw [h1, List.mem_map]
        constructor
        · rintro ⟨y, hy, rfl⟩
          rw [List.mem_filter] at hy
          cases y with
          | nil => simp at hy
          | cons b y => obtain ⟨h, h'⟩ := hy; simp at h'; subst h'; exact h
        · intro h
          exact ⟨_, List.mem_filter.2 ⟨h, by simp⟩, rfl⟩
      have m2 : ∀ {x}, x ∈ l2 ↔ true :: x ∈ l := by
        intro x
        rw [h2, List.mem_map]
        constructor
        · rintro ⟨y, hy, rfl⟩
          rw [List.mem_filter] at hy
          cases y with
          | nil => simp at hy
          | cons b y => obtain ⟨h, h'⟩ := hy; simp at h'; subst h'; exact h
        · intro h
          exact ⟨_, List.mem_filter.2 ⟨h, by simp⟩, rfl⟩
      have inj : ∀ (b : Bool), ((l.filter (fun x => x.head? == some b)).map List.tail).Nodup := by
        intro b
        refine nodup_map_on (hn.filter _) fun x hx y hy he => ?_
        rw [List.mem_filter] at hx hy
        cases x with
        | nil => simp at hx
        | cons p x =>
          cases y with
          | nil => simp at hy
          | cons q y =>
            have e1 := hx.2; have e2 := hy.2
            simp at e1 e2 he
            rw [e1, e2, he]
      have n1 : l1.Nodup := by rw [h1]; exact inj false
      have n2 : l2.Nodup := by rw [h2]; exact inj true
      have e1 : (l.filter (fun x => x.head? == some false)).length = l1.length := by rw [h1, List.length_map]
      have e2 : (l.filter (fun x => x.head? == some true)).length = l2.length := by rw [h2, List.length_map]
      rw [e1, e2, len_filter l1 (fun x => l2.contains x)]
      have len1 : ∀ x ∈ l1, x.length = n := fun x hx => by have := hl _ (m1.1 hx); simpa using this
      have len2 : ∀ x ∈ l2, x.length = n := fun x hx => by have := hl _ (m2.1 hx); simpa using this
      have a1 : (l1.filter (fun x => !l2.contains x) ++ l2).length ≤ B (d + 1) n := by
        refine ih (d + 1) _ ?_ ?_ ?_
        · refine List.nodup_append.2 ⟨n1.filter _, n2, fun a ha b hb => ?_⟩
          rw [List.mem_filter] at ha
          rintro rfl
          simp [hb] at ha
        · intro x hx
          rcases List.mem_append.1 hx with h | h
          · exact len1 x (List.mem_filter.1 h).1
          · exact len2 x h
        · intro S hSl hSn hs
          refine hS (S.map (· + 1)) (by simpa using hSl) (fun i hi => ?_) fun b hb => ?_
          · obtain ⟨j, hj, rfl⟩ := List.mem_map.1 hi
            have := hSn j hj; omega
          · obtain ⟨x, hx, he⟩ := hs b (by simpa using hb)
            have : ∃ p, p :: x ∈ l := by
              rcases List.mem_append.1 hx with h | h
              · exact ⟨_, m1.1 (List.mem_filter.1 h).1⟩
              · exact ⟨_, m2.1 h⟩
            obtain ⟨p, hp⟩ := this
            refine ⟨_, hp, ?_⟩
            rw [List.map_map, ← he]
            exact List.map_congr_left fun i _ => by simp
      have a2 : (l1.filter (fun x => l2.contains x)).length ≤ B d n := by
        refine ih d _ (n1.filter _) (fun x hx => len1 x (List.mem_filter.1 hx).1) ?_
        intro S hSl hSn hs
        refine hS (0 :: S.map (· + 1)) (by simpa using hSl) (fun i hi => ?_) fun b hb => ?_
        · rcases List.mem_cons.1 hi with rfl | hi
          · omega
          · obtain ⟨j, hj, rfl⟩ := List.mem_map.1 hi
            have := hSn j hj; omega
        · cases b with
          | nil => simp at hb
          | cons p b =>
            obtain ⟨x, hx, he⟩ := hs b (by simpa using hb)
            rw [List.mem_filter] at hx
            have hp : p :: x ∈ l := by
              cases p
              · exact m1.1 hx.1
              · exact m2.1 (by simpa using hx.2)
            refine ⟨_, hp, ?_⟩
            rw [List.map_cons, List.map_map, List.map_cons, ← he]
            simp
      rw [List.length_append] at a1
      show _ ≤ B (d + 1) n + B d n
      omega

theorem B1 (n : Nat) : B 1 n ≤ 1 := by
  induction n with
  | zero => exact Nat.le_refl _
  | succ n ih => rw [B]; have : B 0 n = 0 := by cases n <;> rfl
                 have ih : B (0 + 1) n ≤ 1 := ih
                 omega
theorem B2 (n : Nat) : B 2 n ≤ n + 1 := by
  induction n with
  | zero => exact Nat.le_refl _
  | succ n ih => show B 2 n + B 1 n ≤ n + 1 + 1; have := B1 n; omega
theorem B3 (n : Nat) : B 3 n ≤ (n + 1) * (n + 1) := by
  induction n with
  | zero => exact Nat.le_refl _
  | succ n ih =>
    show B 3 n + B 2 n ≤ (n + 1 + 1) * (n + 1 + 1)
    have := B2 n
    have e : (n + 1 + 1) * (n + 1 + 1) = (n + 1) * (n + 1) + (n + 1) + (n + 1 + 1) := by
      rw [Nat.add_mul (n + 1) 1, Nat.mul_add (n + 1) (n + 1) 1, Nat.mul_one, Nat.one_mul]
    omega
theorem B4 (n : Nat) : B 4 n ≤ (n + 1) * ((n + 1) * (n + 1)) := by
  induction n with
  | zero => exact Nat.le_refl _
  | succ n ih =>
    show B 4 n + B 3 n ≤ _
    have h3 := B3 n
    have h1 : (n + 1) * ((n + 1) * (n + 1)) + (n + 1) * (n + 1) ≤ (n + 1 + 1) * ((n + 1 + 1) * (n + 1 + 1)) := by
      have e : (n + 1) * ((n + 1) * (n + 1)) + (n + 1) * (n + 1) = (n + 1 + 1) * ((n + 1) * (n + 1)) := by
        rw [Nat.add_mul (n + 1) 1, Nat.one_mul]
      rw [e]
      exact Nat.mul_le_mul (Nat.le_refl _) (Nat.mul_le_mul (by omega) (by omega))
    omega
end Go.Proofs.Ytogchohpnbeldaa.Vc

namespace Go.Proofs.Ytogchohpnbeldaa.Vc
open Cx Rs

/-- two rows of one number -/
theorem dep1 (a b : Rat) : ∃ x y : Rat, (x ≠ 0 ∨ y ≠ 0) ∧ x * a + y * b = 0 := by
  by_cases h : a = 0
  · exact ⟨1, 0, .inl (by grind), by grind⟩
  · exact ⟨b, -a, .inr (by grind), by grind⟩

/-- three rows of two numbers -/
theorem dep2 (a b c a' b' c' : Rat) : ∃ x y z : Rat, (x ≠ 0 ∨ y ≠ 0 ∨ z ≠ 0) ∧ x * a + y * b + z * c = 0 ∧ x * a' + y * b' + z * c' = 0 := by
  by_cases h : a = 0
  · by_cases h2 : b = 0
    · obtain ⟨x, y, h3, h4⟩ := dep1 a' b'
      exact ⟨x, y, 0, by rcases h3 with h | h <;> simp [h], by grind, by grind⟩
    · -- y = - z c / b
      obtain ⟨x, z, h3, h4⟩ := dep1 (a' * b) (c' * b - b' * c)
      refine ⟨x * b, - z * c, z * b, ?_, by grind, by grind⟩
      rcases h3 with h | h
      · left; grind
      · right; right; grind
  · obtain ⟨y, z, h3, h4⟩ := dep1 (b' * a - a' * b) (c' * a - a' * c)
    refine ⟨-(y * b + z * c), y * a, z * a, ?_, by grind, by grind⟩
    rcases h3 with h | h
    · right; left; grind
    · right; right; grind

/-- four rows of three numbers -/
theorem dep3 (a b c d a' b' c' d' a'' b'' c'' d'' : Rat) : ∃ x y z u : Rat, (x ≠ 0 ∨ y ≠ 0 ∨ z ≠ 0 ∨ u ≠ 0) ∧ x * a + y * b + z * c + u * d = 0 ∧ x * a' + y * b' + z * c' + u * d' = 0 ∧ x * a'' + y * b'' + z * c'' + u * d'' = 0 := by
  by_cases h : a = 0
  · by_cases h2 : b = 0
    · by_cases h3 : c = 0
      · obtain ⟨x, y, z, h4, h5, h6⟩ := dep2 a' b' c' a'' b'' c''
        exact ⟨x, y, z, 0, by rcases h4 with h | h | h <;> simp [h], by grind, by grind, by grind⟩
      · obtain ⟨x, y, u, h4, h5, h6⟩ := dep2 (a' * c) (b' * c) (d' * c - c' * d) (a'' * c) (b'' * c) (d'' * c - c'' * d)
        refine ⟨x * c, y * c, -(u * d), u * c, ?_, by grind, by grind, by grind⟩
        rcases h4 with h | h | h
        · left; grind
        · right; left; grind
        · right; right; right; grind
    · obtain ⟨x, z, u, h4, h5, h6⟩ := dep2 (a' * b) (c' * b - b' * c) (d' * b - b' * d) (a'' * b) (c'' * b - b'' * c) (d'' * b - b'' * d)
      refine ⟨x * b, -(z * c + u * d), z * b, u * b, ?_, by grind, by grind, by grind⟩
      rcases h4 with h | h | h
      · left; grind
      · right; right; left; grind
      · right; right; right; grind
  · obtain ⟨y, z, u, h4, h5, h6⟩ := dep2 (b' * a - a' * b) (c' * a - a' * c) (d' * a - a' * d) (b'' * a - a'' * b) (c'' * a - a'' * c) (d'' * a - a'' * d)
    refine ⟨-(y * b + z * c + u * d), y * a, z * a, u * a, ?_, by grind, by grind, by grind⟩
    rcases h4 with h | h | h
    · right; left; grind
    · right; right; left; grind
    · right; right; right; grind

/-- what moves a vector is a sum of its three numbers -/
theorem acts_lin (c : Nat → Nat → Nat → Rat) (n : Nat) : ∀ (w : List Nat), (∀ y ∈ w, y < 3) → ∀ s, s < 3 → ∃ a b d : Rat, ∀ V : Vec, acts c w V s n = a * V 0 n + b * V 1 n + d * V 2 n := by
  intro w
  induction w with
  | nil =>
    intro _ s hs
    rcases s with _ | _ | _ | s
    · exact ⟨1, 0, 0, fun V => by show V 0 n = _; grind⟩
    · exact ⟨0, 1, 0, fun V => by show V 1 n = _; grind⟩
    · exact ⟨0, 0, 1, fun V => by show V 2 n = _; grind⟩
    · omega
  | cons t w ih =>
    intro hlow s hs
    have hl := fun y hy => hlow y (List.mem_cons_of_mem _ hy)
    have ht := hlow t List.mem_cons_self
    obtain ⟨a, b, d, h1⟩ := ih hl s hs
    obtain ⟨a', b', d', h2⟩ := ih hl t ht
    by_cases e : s = t
    · subst e
      refine ⟨-a, -b, -d, fun V => ?_⟩
      rw [acts_cons, act_at, h1]; grind
    · refine ⟨a + c t s n * a', b + c t s n * b', d + c t s n * d', fun V => ?_⟩
      rw [acts_cons, act_off c e, h1, h2]; grind

/-- many promises, each from some place on -/
theorem from_all {α : Type} (l : List α) (P : α → Nat → Prop) (h : ∀ a ∈ l, ∃ N, ∀ n, N ≤ n → P a n) : ∃ N, ∀ a ∈ l, ∀ n, N ≤ n → P a n := by
  induction l with
  | nil => exact ⟨0, fun a ha => by cases ha⟩
  | cons x l ih =>
    obtain ⟨N, hN⟩ := ih (fun a ha => h a (List.mem_cons_of_mem _ ha))
    obtain ⟨K, hK⟩ := h x List.mem_cons_self
    refine ⟨N + K, fun a ha n hn => ?_⟩
    rcases List.mem_cons.1 ha with rfl | ha
    · exact hK n (by omega)
    · exact hN a ha n (by omega)

variable {M : Nat → Nat → Nat} {c : Nat → Nat → Nat → Rat}

/-- the height above a wall: the wall of the letter s of the tile of u -/
def Hi (c : Nat → Nat → Nat → Rat) (u : List Nat) (s : Nat) (v : List Nat) : Nat → Rat := acts c (u.reverse ++ v) (fun _ _ => 1) s

theorem setV_one : SetV (fun _ _ => 1) := fun _ => set_const 1
theorem pos_one : ∀ h : Nat, Pos ((fun _ _ => 1 : Vec) h) := fun _ => ⟨1 / 2, by grind, 0, fun n _ => by show (1 : Rat) / 2 < 1; grind⟩

theorem hi_sign (hM : Ords M) (hC : Ps M c) (u v : List Nat) (s : Nat) :
    (¬ Ds (inv (mk u) * mk v : G M) s → Pos (Hi c u s v)) ∧ (Ds (inv (mk u) * mk v : G M) s → Pos (fun n => - Hi c u s v n)) := by
  obtain ⟨w, hw, hr⟩ := red_exists (M := M) (inv (mk u) * mk v)
  have e : (mk w : G M) = mk (u.reverse ++ v) := hw
  have hsim := acts_sim hC.toCs setV_one e s
  constructor
  · intro h
    rw [← hw] at h
    have := (positive hM hC setV_one w.length w rfl hr s h).2 pos_one
    exact (this.nul hsim.neg).congr fun n => by unfold Hi; grind
  · intro h
    rw [← hw] at h
    obtain ⟨x, hx, he⟩ := ds_word h
    have hr2 : Red M (s :: x) := red_same hr he (by simpa using hx)
    have hn : ¬ Ds (mk x : G M) s := (ds_front s (mk x : G M)).1 (ds_of_head hr2)
    have hp := (positive hM hC setV_one x.length x rfl (red_tail hr2) s hn).2 pos_one
    have hsim2 := acts_sim hC.toCs setV_one he s
    refine ((hp.nul hsim2).nul hsim).congr fun n => ?_
    unfold Hi
    rw [acts_cons, act_at]
    grind

/-- is the wall between the first tile and v? -/
theorem eta_wall (u : List Nat) (s : Nat) (v : G M) : eta v (cj (mk u) (mk [s])) = (eta (mk u : G M) (cj (mk u) (mk [s])) ^^ eta (inv (mk u) * v) (mk [s])) := by
  have h := eta_mul (mk u) (inv (mk u) * v) (cj (mk u) (mk [s]) : G M)
  rw [cj_inv, ← mul_assoc, mul_inv, one_mul] at h
  exact h

theorem xor_eq {p q r : Bool} (h : (p ^^ q) = (p ^^ r)) : q = r := by
  cases p <;> cases q <;> cases r <;> simp_all

/-- four walls never part the tiles in all ways -/
theorem four (hM : Ords M) (hC : Ps M c) (us : Nat → List Nat) (ss : Nat → Nat) (hu : ∀ i, i < 4 → (∀ y ∈ us i, y < 3) ∧ ss i < 3)
    (vs : List Bool → List Nat) (h : ∀ b : List Bool, b.length = 4 → ∀ i, i < 4 → b[i]? = some (eta (mk (vs b) : G M) (cj (mk (us i)) (mk [ss i])))) : False := by
  have hall : ∀ b ∈ ([false, true].flatMap fun p => [false, true].flatMap fun q => [false, true].flatMap fun r => [false, true].map fun s => [p, q, r, s]), b.length = 4 := by decide
  have hN : ∃ N, ∀ b ∈ ([false, true].flatMap fun p => [false, true].flatMap fun q => [false, true].flatMap fun r => [false, true].map fun s => [p, q, r, s]), ∀ n, N ≤ n → ∀ i, i < 4 →
      ((¬ Ds (inv (mk (us i)) * mk (vs b) : G M) (ss i) → 0 < Hi c (us i) (ss i) (vs b) n) ∧ (Ds (inv (mk (us i)) * mk (vs b) : G M) (ss i) → 0 < - Hi c (us i) (ss i) (vs b) n)) := by
    refine from_all _ _ fun b _ => ?_
    obtain ⟨N, hN⟩ := from_all [0, 1, 2, 3] (fun i n => (¬ Ds (inv (mk (us i)) * mk (vs b) : G M) (ss i) → 0 < Hi c (us i) (ss i) (vs b) n) ∧ (Ds (inv (mk (us i)) * mk (vs b) : G M) (ss i) → 0 < - Hi c (us i) (ss i) (vs b) n)) (fun i _ => by
      by_cases hd : Ds (inv (mk (us i)) * mk (vs b) : G M) (ss i)
      · obtain ⟨e, he, N, hN⟩ := (hi_sign hM hC (us i) (vs b) (ss i)).2 hd
        exact ⟨N, fun n hn => ⟨fun h => absurd hd h, fun _ => by have := hN n hn; grind⟩⟩
      · obtain ⟨e, he, N, hN⟩ := (hi_sign hM hC (us i) (vs b) (ss i)).1 hd
        exact ⟨N, fun n hn => ⟨fun _ => by have := hN n hn; grind, fun h => absurd h hd⟩⟩)
    refine ⟨N, fun n hn i hi => hN i ?_ n hn⟩
    rcases i with _ | _ | _ | _ | i <;> first | omega | simp
  obtain ⟨n, hn⟩ := hN
  replace hn := fun b hb => hn b hb n (Nat.le_refl _)
  have lin := fun i hi => acts_lin c n (us i).reverse (fun y hy => (hu i hi).1 y (by simpa using hy)) (ss i) (hu i hi).2
  obtain ⟨a0, b0, d0, l0⟩ := lin 0 (by omega)
  obtain ⟨a1, b1, d1, l1⟩ := lin 1 (by omega)
  obtain ⟨a2, b2, d2, l2⟩ := lin 2 (by omega)
  obtain ⟨a3, b3, d3, l3⟩ := lin 3 (by omega)
  obtain ⟨x, y, z, u, hne, s1, s2, s3⟩ := dep3 a0 a1 a2 a3 b0 b1 b2 b3 d0 d1 d2 d3
  -- which way each of them
  have pick : ∀ (x : Rat) (i : Nat), i < 4 → ∃ q : Bool, ∀ b : List Bool, b ∈ ([false, true].flatMap fun p => [false, true].flatMap fun q => [false, true].flatMap fun r => [false, true].map fun s => [p, q, r, s]) → b[i]? = some q →
      0 ≤ x * Hi c (us i) (ss i) (vs b) n ∧ (x ≠ 0 → 0 < x * Hi c (us i) (ss i) (vs b) n) := by
    intro x i hi
    refine ⟨eta (mk (us i) : G M) (cj (mk (us i)) (mk [ss i])) ^^ decide (x < 0), fun b hb hq => ?_⟩
    have e1 := h b (hall b hb) i hi
    rw [hq, Option.some.injEq, eta_wall (us i) (ss i) (mk (vs b))] at e1
    have e2 : decide (x < 0) = eta (inv (mk (us i)) * mk (vs b) : G M) (mk [ss i]) := by
      exact xor_eq e1
    have hs := hn b hb i hi
    unfold Ds at hs
    rw [← e2] at hs
    by_cases hx : x < 0
    · have h1 := hs.2 (by simpa using hx)
      have h2 : 0 < (-x) * (- Hi c (us i) (ss i) (vs b) n) := Rat.mul_pos (by grind) h1
      constructor
      · grind
      · intro _; grind
    · have h1 := hs.1 (by simpa using hx)
      by_cases h0 : x = 0
      · subst h0
        constructor
        · grind
        · intro h; exact absurd rfl h
      · have h2 : 0 < x * Hi c (us i) (ss i) (vs b) n := Rat.mul_pos (by grind) h1
        exact ⟨by grind, fun _ => h2⟩
  obtain ⟨q0, p0⟩ := pick x 0 (by omega)
  obtain ⟨q1, p1⟩ := pick y 1 (by omega)
  obtain ⟨q2, p2⟩ := pick z 2 (by omega)
  obtain ⟨q3, p3⟩ := pick u 3 (by omega)
  have hmem : [q0, q1, q2, q3] ∈ ([false, true].flatMap fun p => [false, true].flatMap fun q => [false, true].flatMap fun r => [false, true].map fun s => [p, q, r, s]) := by
    cases q0 <;> cases q1 <;> cases q2 <;> cases q3 <;> decide
  have r0 := p0 _ hmem rfl
  have r1 := p1 _ hmem rfl
  have r2 := p2 _ hmem rfl
  have r3 := p3 _ hmem rfl
  have g0 : Hi c (us 0) (ss 0) (vs [q0, q1, q2, q3]) n = a0 * acts c (vs [q0, q1, q2, q3]) (fun _ _ => 1) 0 n + b0 * acts c (vs [q0, q1, q2, q3]) (fun _ _ => 1) 1 n + d0 * acts c (vs [q0, q1, q2, q3]) (fun _ _ => 1) 2 n := by unfold Hi; rw [acts_append]; exact l0 _
  have g1 : Hi c (us 1) (ss 1) (vs [q0, q1, q2, q3]) n = a1 * acts c (vs [q0, q1, q2, q3]) (fun _ _ => 1) 0 n + b1 * acts c (vs [q0, q1, q2, q3]) (fun _ _ => 1) 1 n + d1 * acts c (vs [q0, q1, q2, q3]) (fun _ _ => 1) 2 n := by unfold Hi; rw [acts_append]; exact l1 _
  have g2 : Hi c (us 2) (ss 2) (vs [q0, q1, q2, q3]) n = a2 * acts c (vs [q0, q1, q2, q3]) (fun _ _ => 1) 0 n + b2 * acts c (vs [q0, q1, q2, q3]) (fun _ _ => 1) 1 n + d2 * acts c (vs [q0, q1, q2, q3]) (fun _ _ => 1) 2 n := by unfold Hi; rw [acts_append]; exact l2 _
  have g3 : Hi c (us 3) (ss 3) (vs [q0, q1, q2, q3]) n = a3 * acts c (vs [q0, q1, q2, q3]) (fun _ _ => 1) 0 n + b3 * acts c (vs [q0, q1, q2, q3]) (fun _ _ => 1) 1 n + d3 * acts c (vs [q0, q1, q2, q3]) (fun _ _ => 1) 2 n := by unfold Hi; rw [acts_append]; exact l3 _
  generalize Hi c (us 0) (ss 0) (vs [q0, q1, q2, q3]) n = k0 at *
  generalize Hi c (us 1) (ss 1) (vs [q0, q1, q2, q3]) n = k1 at *
  generalize Hi c (us 2) (ss 2) (vs [q0, q1, q2, q3]) n = k2 at *
  generalize Hi c (us 3) (ss 3) (vs [q0, q1, q2, q3]) n = k3 at *
  generalize acts c (vs [q0, q1, q2, q3]) (fun _ _ => 1) 0 n = t0 at *
  generalize acts c (vs [q0, q1, q2, q3]) (fun _ _ => 1) 1 n = t1 at *
  generalize acts c (vs [q0, q1, q2, q3]) (fun _ _ => 1) 2 n = t2 at *
  have hz : x * k0 + y * k1 + z * k2 + u * k3 = 0 := by
    have : x * k0 + y * k1 + z * k2 + u * k3 = (x * a0 + y * a1 + z * a2 + u * a3) * t0 + (x * b0 + y * b1 + z * b2 + u * b3) * t1 + (x * d0 + y * d1 + z * d2 + u * d3) * t2 := by
      rw [g0, g1, g2, g3]; clear r0 r1 r2 r3 g0 g1 g2 g3 s1 s2 s3; grind
    rw [this, s1, s2, s3]; grind
  clear g0 g1 g2 g3 s1 s2 s3 l0 l1 l2 l3 p0 p1 p2 p3 hn h
  rcases hne with h | h | h | h
  · have := r0.2 h; grind
  · have := r1.2 h; grind
  · have := r2.2 h; grind
  · have := r3.2 h; grind
end Go.Proofs.Ytogchohpnbeldaa.Vc

namespace Go.Proofs.Ytogchohpnbeldaa.Vc
open Cx Rs

variable {M : Nat → Nat → Nat} {c : Nat → Nat → Nat → Rat}

/-- the walls tell the tile -/
theorem eta_inj {x y : G M} (h : ∀ t, eta x t = eta y t) : x = y := by
  have h1 : ∀ t, eta (inv x * y) t = false := by
    intro t
    have a := eta_mul (inv x) y t
    have b := eta_mul (inv x) x t
    rw [inv_mul_self] at b
    rw [h] at b
    rw [a, ← b, eta_mk]
    rfl
  obtain ⟨w, hw, hr⟩ := red_exists (inv x * y)
  cases w with
  | nil =>
    have h2 : x * (inv x * y) = x * mk [] := by rw [← hw]
    rw [← mul_assoc, mul_inv, one_mul, mul_one] at h2
    exact h2.symm
  | cons s w =>
    exfalso
    have h2 := ds_of_head hr
    unfold Ds at h2
    rw [hw, h1] at h2
    cases h2

/-- the walls of a word's letters -/
def Wall (t : G M) : Prop := ∃ u s, (∀ y ∈ u, y < 3) ∧ s < 3 ∧ t = cj (mk u) (mk [s])

theorem refs_wall {w : List Nat} (h : ∀ y ∈ w, y < 3) : ∀ t ∈ (refs w : List (G M)), Wall t := by
  induction w with
  | nil => intro t ht; cases ht
  | cons s w ih =>
    intro t ht
    have hs := h s List.mem_cons_self
    simp only [refs, List.mem_cons, List.mem_map] at ht
    rcases ht with rfl | ⟨t', ht', rfl⟩
    · exact ⟨[], s, (fun y hy => by cases hy), hs, (cj_one _).symm⟩
    · obtain ⟨u, r, h1, h2, rfl⟩ := ih (fun y hy => h y (List.mem_cons_of_mem _ hy)) t' ht'
      refine ⟨s :: u, r, fun y hy => ?_, h2, ?_⟩
      · rcases List.mem_cons.1 hy with rfl | hy
        · exact hs
        · exact h1 y hy
      · rw [← cj_mul]; rfl

theorem nodup_trace {α β γ : Type} {f : α → β} {g : α → γ} {l : List α} (h : (l.map f).Nodup) (hf : ∀ x ∈ l, ∀ y ∈ l, g x = g y → f x = f y) : (l.map g).Nodup := by
  induction l with
  | nil => simp
  | cons a l ih =>
    rw [List.map_cons, List.nodup_cons] at h
    rw [List.map_cons, List.nodup_cons]
    refine ⟨fun hm => ?_, ih h.2 (fun x hx y hy => hf x (List.mem_cons_of_mem _ hx) y (List.mem_cons_of_mem _ hy))⟩
    obtain ⟨b, hb, he⟩ := List.mem_map.1 hm
    exact h.1 (List.mem_map.2 ⟨b, hb, hf b (List.mem_cons_of_mem _ hb) a List.mem_cons_self he⟩)

theorem bound (hM : Ords M) (hC : Ps M c) (R : List (G M)) (hR : ∀ t ∈ R, Wall t) (l : List (List Nat)) (hl : ∀ w ∈ l, ∀ y ∈ w, y < 3)
    (hd : (l.map (fun w => (mk w : G M))).Nodup) (hsub : ∀ w ∈ l, ∀ t, eta (mk w : G M) t = true → t ∈ R) : l.length ≤ (R.length + 1) * ((R.length + 1) * (R.length + 1)) := by
  have hn : (l.map (fun w => R.map (eta (mk w : G M)))).Nodup := by
    refine nodup_trace hd fun x hx y hy he => eta_inj fun t => ?_
    by_cases ht : t ∈ R
    · exact List.map_inj_left.1 he t ht
    · have h1 : eta (mk x : G M) t = false := by
        cases h : eta (mk x : G M) t
        · rfl
        · exact absurd (hsub x hx t h) ht
      have h2 : eta (mk y : G M) t = false := by
        cases h : eta (mk y : G M) t
        · rfl
        · exact absurd (hsub y hy t h) ht
      rw [h1, h2]
  have := sauer R.length 4 _ hn (fun x hx => by obtain ⟨w, _, rfl⟩ := List.mem_map.1 hx; simp) ?_
  · rw [List.length_map] at this
    exact Nat.le_trans this (B4 _)
  · intro S hS hSn hshow
    have hw : ∀ i, ∃ u s, i < 4 → (∀ y ∈ u, y < 3) ∧ s < 3 ∧ ∃ j, S[i]? = some j ∧ R[j]? = some (cj (mk u) (mk [s]) : G M) := by
      intro i
      by_cases hi : i < 4
      · have hj : S[i]? = some (S[i]'(by omega)) := List.getElem?_eq_getElem (by omega)
        have hlt : S[i]'(by omega) < R.length := hSn _ (List.getElem_mem (by omega))
        obtain ⟨u, s, h1, h2, h3⟩ := hR (R[S[i]'(by omega)]) (List.getElem_mem hlt)
        exact ⟨u, s, fun _ => ⟨h1, h2, _, hj, by rw [List.getElem?_eq_getElem hlt, h3]⟩⟩
      · exact ⟨[], 0, fun h => absurd h hi⟩
    obtain ⟨us, hus⟩ := Classical.axiomOfChoice hw
    obtain ⟨ss, hss⟩ := Classical.axiomOfChoice hus
    have hv : ∀ b : List Bool, ∃ w, b.length = 4 → ∀ i, i < 4 → b[i]? = some (eta (mk w : G M) (cj (mk (us i)) (mk [ss i]))) := by
      intro b
      by_cases hb : b.length = 4
      · obtain ⟨x, hx, he⟩ := hshow b (by rw [hb, hS])
        obtain ⟨w, hw, rfl⟩ := List.mem_map.1 hx
        refine ⟨w, fun _ i hi => ?_⟩
        obtain ⟨_, _, j, h1, h2⟩ := hss i hi
        have h3 := congrArg (fun l => l[i]?) he
        simp only [List.getElem?_map, h1, h2, Option.map_some] at h3
        cases hbi : b[i]? with
        | none => rw [hbi] at h3; simp at h3
        | some q =>
          rw [hbi] at h3
          simpa using h3.symm
      · exact ⟨[], fun h => absurd h hb⟩
    obtain ⟨vs, hvs⟩ := Classical.axiomOfChoice hv
    exact four hM hC us ss (fun i hi => ⟨(hss i hi).1, (hss i hi).2.1⟩) vs (fun b hb => hvs b hb)
end Go.Proofs.Ytogchohpnbeldaa.Vc
