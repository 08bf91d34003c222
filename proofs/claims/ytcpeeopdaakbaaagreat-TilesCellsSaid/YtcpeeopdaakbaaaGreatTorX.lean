/- Sequences of fractions: those that settle, those that fall to nothing, those that stay above. Products of sequences; vectors of three sequences, moved by letters. Alternating rows move vectors; both sides of a corner alike. Vectors are moved by the group, but for what falls to nothing. What is no descent stays above. Descents are negative; a row that goes down all the way has no letters too many. A row that goes down all the way ends. A place that an element of finite order keeps; the letters of what keeps it. -/
import Derived.Test.YtcpeeopdaakbaaaGreatCoxA
namespace Go.Proofs.YtcpeeopdaakbaaaGreat.Rs
set_option linter.unusedVariables false

/-- it falls to nothing -/
def Nul (f : Nat → Rat) : Prop := ∀ e : Rat, 0 < e → ∃ N, ∀ n, N ≤ n → -e < f n ∧ f n < e
/-- it settles -/
def Set (f : Nat → Rat) : Prop := ∀ e : Rat, 0 < e → ∃ N, ∀ n m, N ≤ n → N ≤ m → f n - f m < e
/-- it stays above something -/
def Pos (f : Nat → Rat) : Prop := ∃ e : Rat, 0 < e ∧ ∃ N, ∀ n, N ≤ n → e < f n

theorem half_pos {e : Rat} (h : 0 < e) : 0 < e / 2 := by grind
theorem half_add (e : Rat) : e / 2 + e / 2 = e := by grind

theorem Nul.add {f g : Nat → Rat} (hf : Nul f) (hg : Nul g) : Nul (fun n => f n + g n) := by
  intro e he
  obtain ⟨N, h1⟩ := hf _ (half_pos he)
  obtain ⟨M, h2⟩ := hg _ (half_pos he)
  refine ⟨N + M, fun n hn => ?_⟩
  have a := h1 n (by omega)
  have b := h2 n (by omega)
  constructor <;> grind

theorem Nul.neg {f : Nat → Rat} (hf : Nul f) : Nul (fun n => - f n) := by
  intro e he
  obtain ⟨N, h⟩ := hf e he
  refine ⟨N, fun n hn => ?_⟩
  have a := h n hn
  constructor <;> grind

theorem Set.add {f g : Nat → Rat} (hf : Set f) (hg : Set g) : Set (fun n => f n + g n) := by
  intro e he
  obtain ⟨N, h1⟩ := hf _ (half_pos he)
  obtain ⟨M, h2⟩ := hg _ (half_pos he)
  refine ⟨N + M, fun n m hn hm => ?_⟩
  have a := h1 n m (by omega) (by omega)
  have b := h2 n m (by omega) (by omega)
  show f n + g n - (f m + g m) < e
  grind

theorem Set.neg {f : Nat → Rat} (hf : Set f) : Set (fun n => - f n) := by
  intro e he
  obtain ⟨N, h⟩ := hf e he
  refine ⟨N, fun n m hn hm => ?_⟩
  have a := h m n hm hn
  show - f n - - f m < e
  grind

theorem Pos.add {f g : Nat → Rat} (hf : Pos f) (hg : Pos g) : Pos (fun n => f n + g n) := by
  obtain ⟨e, he, N, h1⟩ := hf
  obtain ⟨d, hd, M, h2⟩ := hg
  refine ⟨e, he, N + M, fun n hn => ?_⟩
  have a := h1 n (by omega)
  have b := h2 n (by omega)
  show e < f n + g n
  grind

theorem Pos.nul {f g : Nat → Rat} (hf : Pos f) (hg : Nul g) : Pos (fun n => f n + g n) := by
  obtain ⟨e, he, N, h1⟩ := hf
  obtain ⟨M, h2⟩ := hg _ (half_pos he)
  refine ⟨e / 2, half_pos he, N + M, fun n hn => ?_⟩
  have a := h1 n (by omega)
  have b := h2 n (by omega)
  show e / 2 < f n + g n
  grind

theorem Pos.not_nul {f : Nat → Rat} (hf : Pos f) : ¬ Nul f := by
  intro h
  obtain ⟨e, he, N, h1⟩ := hf
  obtain ⟨M, h2⟩ := h e he
  have a := h1 (N + M) (by omega)
  have b := h2 (N + M) (by omega)
  grind

theorem Pos.not_neg {f : Nat → Rat} (hf : Pos f) : ¬ Pos (fun n => - f n) := by
  intro h
  obtain ⟨e, he, N, h1⟩ := hf
  obtain ⟨d, hd, M, h2⟩ := h
  have a := h1 (N + M) (by omega)
  have b := h2 (N + M) (by omega)
  grind

/-- what settles falls to nothing, or stays above, or stays below -/
theorem signs {f : Nat → Rat} (hf : Set f) : Nul f ∨ Pos f ∨ Pos (fun n => - f n) := by
  by_cases h : Nul f
  · exact .inl h
  · right
    have : ∃ e : Rat, 0 < e ∧ ∀ N, ∃ n, N ≤ n ∧ ¬ (-e < f n ∧ f n < e) := by
      refine Classical.byContradiction fun hc => h fun e he => ?_
      refine Classical.byContradiction fun hd => hc ⟨e, he, fun N => ?_⟩
      refine Classical.byContradiction fun hx => hd ⟨N, fun n hn => ?_⟩
      exact Classical.byContradiction fun hy => hx ⟨n, hn, hy⟩
    obtain ⟨e, he, hb⟩ := this
    obtain ⟨N, hN⟩ := hf _ (half_pos he)
    obtain ⟨n, hn, hx⟩ := hb N
    by_cases hs : e ≤ f n
    · left
      refine ⟨e / 4, by grind, N, fun m hm => ?_⟩
      have a := hN n m hn hm
      grind
    · right
      refine ⟨e / 4, by grind, N, fun m hm => ?_⟩
      have a := hN m n hm hn
      have : f n ≤ -e := by grind
      show e / 4 < - f m
      grind
end Go.Proofs.YtcpeeopdaakbaaaGreat.Rs

namespace Go.Proofs.YtcpeeopdaakbaaaGreat.Rs
set_option linter.unusedVariables false

theorem mul_in {x y a b : Rat} (hx : -a < x ∧ x < a) (hy : -b < y ∧ y < b) : -(a * b) < x * y ∧ x * y < a * b := by
  have h1 : 0 < (a - x) * (b + y) := Rat.mul_pos (by grind) (by grind)
  have h2 : 0 < (a + x) * (b - y) := Rat.mul_pos (by grind) (by grind)
  have h3 : 0 < (a - x) * (b - y) := Rat.mul_pos (by grind) (by grind)
  have h4 : 0 < (a + x) * (b + y) := Rat.mul_pos (by grind) (by grind)
  constructor <;> grind

/-- it is bounded from some place on -/
def Bnd (f : Nat → Rat) : Prop := ∃ B : Rat, 0 < B ∧ ∃ N, ∀ n, N ≤ n → -B < f n ∧ f n < B

theorem Set.bnd {f : Nat → Rat} (hf : Set f) : Bnd f := by
  obtain ⟨N, h⟩ := hf 1 (by grind)
  by_cases h0 : 0 ≤ f N
  · refine ⟨f N + 1, by grind, N, fun n hn => ?_⟩
    have a := h n N hn (Nat.le_refl _)
    have b := h N n (Nat.le_refl _) hn
    constructor <;> grind
  · refine ⟨1 - f N, by grind, N, fun n hn => ?_⟩
    have a := h n N hn (Nat.le_refl _)
    have b := h N n (Nat.le_refl _) hn
    constructor <;> grind

theorem Nul.mul {f g : Nat → Rat} (hf : Nul f) (hg : Bnd g) : Nul (fun n => f n * g n) := by
  intro e he
  obtain ⟨B, hB, M, h2⟩ := hg
  have hd : 0 < e / B := by
    rw [Rat.div_def]; exact Rat.mul_pos he (Rat.inv_pos.2 hB)
  obtain ⟨N, h1⟩ := hf _ hd
  refine ⟨N + M, fun n hn => ?_⟩
  have h := mul_in (h1 n (by omega)) (h2 n (by omega))
  have he2 : e / B * B = e := by
    rw [Rat.div_def, Rat.mul_assoc, Rat.inv_mul_cancel _ (by grind), Rat.mul_one]
  rw [he2] at h
  exact h

theorem Set.nul_add {f g : Nat → Rat} (hf : Set f) (hg : Nul g) : Set (fun n => f n + g n) := by
  intro e he
  obtain ⟨N, h1⟩ := hf _ (half_pos he)
  obtain ⟨M, h2⟩ := hg (e / 4) (by grind)
  refine ⟨N + M, fun n m hn hm => ?_⟩
  have a := h1 n m (by omega) (by omega)
  have b := h2 n (by omega)
  have c := h2 m (by omega)
  show f n + g n - (f m + g m) < e
  grind

theorem Set.mul {f g : Nat → Rat} (hf : Set f) (hg : Set g) : Set (fun n => f n * g n) := by
  intro e he
  obtain ⟨A, hA, Na, ha⟩ := hf.bnd
  obtain ⟨B, hB, Nb, hb⟩ := hg.bnd
  have hdA : 0 < e / 4 / A := by rw [Rat.div_def]; exact Rat.mul_pos (by grind) (Rat.inv_pos.2 hA)
  have hdB : 0 < e / 4 / B := by rw [Rat.div_def]; exact Rat.mul_pos (by grind) (Rat.inv_pos.2 hB)
  obtain ⟨N, h1⟩ := hf _ hdB
  obtain ⟨M, h2⟩ := hg _ hdA
  refine ⟨N + M + Na + Nb, fun n m hn hm => ?_⟩
  have x1 := h1 n m (by omega) (by omega)
  have x2 := h1 m n (by omega) (by omega)
  have y1 := h2 n m (by omega) (by omega)
  have y2 := h2 m n (by omega) (by omega)
  have p := mul_in (x := f n - f m) (y := g n) (a := e / 4 / B) (b := B) ⟨by grind, x1⟩ (hb n (by omega))
  have q := mul_in (x := g n - g m) (y := f m) (a := e / 4 / A) (b := A) ⟨by grind, y1⟩ (ha m (by omega))
  have eA : e / 4 / A * A = e / 4 := by rw [Rat.div_def (e / 4), Rat.mul_assoc, Rat.inv_mul_cancel _ (by grind), Rat.mul_one]
  have eB : e / 4 / B * B = e / 4 := by rw [Rat.div_def (e / 4), Rat.mul_assoc, Rat.inv_mul_cancel _ (by grind), Rat.mul_one]
  rw [eB] at p
  rw [eA] at q
  show f n * g n - f m * g m < e
  have : f n * g n - f m * g m = (f n - f m) * g n + (g n - g m) * f m := by grind
  rw [this]
  grind

theorem Pos.mul {f g : Nat → Rat} (hf : Pos f) (hg : Pos g) : Pos (fun n => f n * g n) := by
  obtain ⟨e, he, N, h1⟩ := hf
  obtain ⟨d, hd, M, h2⟩ := hg
  refine ⟨e * d, Rat.mul_pos he hd, N + M, fun n hn => ?_⟩
  have a := h1 n (by omega)
  have b := h2 n (by omega)
  have h3 : 0 < (f n - e) * g n := Rat.mul_pos (by grind) (by grind)
  have h4 : 0 < e * (g n - d) := Rat.mul_pos he (by grind)
  show e * d < f n * g n
  grind

/-- not below nothing -/
def Nn (f : Nat → Rat) : Prop := ∀ e : Rat, 0 < e → ∃ N, ∀ n, N ≤ n → -e < f n
theorem Pos.nn {f : Nat → Rat} (h : Pos f) : Nn f := by
  intro e he
  obtain ⟨d, hd, N, h1⟩ := h
  exact ⟨N, fun n hn => by have := h1 n hn; grind⟩
theorem Nul.nn {f : Nat → Rat} (h : Nul f) : Nn f := by
  intro e he
  obtain ⟨N, h1⟩ := h e he
  exact ⟨N, fun n hn => (h1 n hn).1⟩
theorem Nn.add {f g : Nat → Rat} (hf : Nn f) (hg : Nn g) : Nn (fun n => f n + g n) := by
  intro e he
  obtain ⟨N, h1⟩ := hf _ (half_pos he)
  obtain ⟨M, h2⟩ := hg _ (half_pos he)
  refine ⟨N + M, fun n hn => ?_⟩
  have a := h1 n (by omega)
  have b := h2 n (by omega)
  show -e < f n + g n
  grind
theorem Nn.both {f : Nat → Rat} (h : Nn f) (h' : Nn (fun n => - f n)) : Nul f := by
  intro e he
  obtain ⟨N, h1⟩ := h e he
  obtain ⟨M, h2⟩ := h' e he
  refine ⟨N + M, fun n hn => ?_⟩
  have a := h1 n (by omega)
  have b := h2 n (by omega)
  constructor <;> grind
theorem nn_of_not {f : Nat → Rat} (hf : Set f) (h : ¬ Pos (fun n => - f n)) : Nn f := by
  rcases signs hf with h1 | h1 | h1
  · exact h1.nn
  · exact h1.nn
  · exact absurd h1 h

/-- vectors moved by a letter -/
abbrev Vec := Nat → Nat → Rat
def act (c : Nat → Nat → Nat → Rat) (t : Nat) (V : Vec) : Vec := fun s n => if s = t then - V t n else V s n + c t s n * V t n
def acts (c : Nat → Nat → Nat → Rat) (w : List Nat) (V : Vec) : Vec := w.foldr (act c) V

theorem acts_cons (c : Nat → Nat → Nat → Rat) (t : Nat) (w : List Nat) (V : Vec) : acts c (t :: w) V = act c t (acts c w V) := rfl
theorem acts_append (c : Nat → Nat → Nat → Rat) (u w : List Nat) (V : Vec) : acts c (u ++ w) V = acts c u (acts c w V) := by
  unfold acts; rw [List.foldr_append]

theorem act_two (c : Nat → Nat → Nat → Rat) (t : Nat) (V : Vec) : act c t (act c t V) = V := by
  funext s n
  unfold act
  by_cases h : s = t
  · subst h; simp
  · simp [h]; grind

theorem act_at (c : Nat → Nat → Nat → Rat) (t : Nat) (V : Vec) (n : Nat) : act c t V t n = - V t n := by simp [act]
theorem act_off (c : Nat → Nat → Nat → Rat) {t s : Nat} (h : s ≠ t) (V : Vec) (n : Nat) : act c t V s n = V s n + c t s n * V t n := by simp [act, h]
end Go.Proofs.YtcpeeopdaakbaaaGreat.Rs

namespace Go.Proofs.YtcpeeopdaakbaaaGreat.Rs
set_option linter.unusedVariables false
open Cx

/-- S 0 = 0, S 1 = 1, S (k+1) = c S k - S (k-1) -/
def S (x : Rat) : Nat → Rat
  | 0 => 0
  | 1 => 1
  | k + 2 => x * S x (k + 1) - S x k

theorem S_step (x : Rat) (k : Nat) : S x (k + 2) = x * S x (k + 1) - S x k := rfl

/-- the value at the next letter -/
def Nx (c : Nat → Nat → Nat → Rat) (V : Vec) (n k t s : Nat) : Prop :=
  acts c (alt t s k) V s n = S (c t s n) (k + 1) * V (turn s t k) n + S (c t s n) k * V (turn t s k) n

theorem last_of {c : Nat → Nat → Nat → Rat} (hc : ∀ i j n, c i j n = c j i n) {V : Vec} {n k t s : Nat} (h : Nx c V n k s t) :
    acts c (alt t s (k + 1)) V t n = -(S (c t s n) (k + 1) * V (turn t s k) n + S (c t s n) k * V (turn s t k) n) := by
  unfold Nx at h
  show act c t (acts c (alt s t k) V) t n = _
  rw [act_at, h, hc s t n]

theorem alt_next (c : Nat → Nat → Nat → Rat) (hc : ∀ i j n, c i j n = c j i n) (V : Vec) (n : Nat) : ∀ k, (∀ t s, s ≠ t → Nx c V n k t s) ∧ (∀ t s, s ≠ t → Nx c V n (k + 1) t s) := by
  intro k
  induction k with
  | zero =>
    refine ⟨fun t s h => ?_, fun t s h => ?_⟩
    · simp only [Nx, alt, acts, S, turn, List.foldr_nil, Nat.zero_mod, if_true]
      grind
    · simp only [Nx, alt, acts, S, turn, List.foldr_nil, List.foldr_cons, act_off c h]
      simp
      grind
  | succ k ih =>
    refine ⟨ih.2, fun t s h => ?_⟩
    have a := ih.2 s t (Ne.symm h)
    have b := last_of hc (ih.1 t s h)
    unfold Nx at a ⊢
    show act c t (acts c (alt s t (k + 1)) V) s n = _
    rw [act_off c h, a, b, hc s t n]
    have e1 : turn s t (k + 1 + 1) = turn s t k := by unfold turn; rw [show (k + 1 + 1) % 2 = k % 2 by omega]
    have e2 : turn t s (k + 1 + 1) = turn t s k := by unfold turn; rw [show (k + 1 + 1) % 2 = k % 2 by omega]
    have e3 : S (c t s n) (k + 1 + 1 + 1) = c t s n * S (c t s n) (k + 1 + 1) - S (c t s n) (k + 1) := S_step _ _
    have e4 : S (c t s n) (k + 1 + 1) = c t s n * S (c t s n) (k + 1) - S (c t s n) k := S_step _ _
    rw [e1, e2, e3, turn_swap s t k, turn_swap t s k]
    clear a b ih e3
    grind
end Go.Proofs.YtcpeeopdaakbaaaGreat.Rs

namespace Go.Proofs.YtcpeeopdaakbaaaGreat.Rs
set_option linter.unusedVariables false
open Cx

theorem third (c : Nat → Nat → Nat → Rat) (hc : ∀ i j n, c i j n = c j i n) (V : Vec) (n : Nat) {h : Nat} : ∀ k t s, s ≠ t → h ≠ s → h ≠ t →
    acts c (alt t s k) V h n - acts c (alt s t k) V h n = S (c t s n) k * (c t h n * V (turn s t k) n - c s h n * V (turn t s k) n) := by
  intro k
  induction k with
  | zero =>
    intro t s _ _ _
    simp only [alt, acts, List.foldr_nil, S]
    grind
  | succ k ih =>
    intro t s hst hs ht
    have a := ih t s hst hs ht
    have b1 := (alt_next c hc V n k).1 t s hst
    have b2 := (alt_next c hc V n k).1 s t (Ne.symm hst)
    unfold Nx at b1 b2
    show act c t (acts c (alt s t k) V) h n - act c s (acts c (alt t s k) V) h n = _
    rw [act_off c ht, act_off c hs, b1, b2, turn_swap t s k, turn_swap s t k, hc s t n]
    clear b1 b2 ih
    grind

theorem second (c : Nat → Nat → Nat → Rat) (hc : ∀ i j n, c i j n = c j i n) (V : Vec) (n : Nat) (k t s : Nat) (h : s ≠ t) :
    acts c (alt t s (k + 1)) V s n - acts c (alt s t (k + 1)) V s n = S (c t s n) (k + 1) * (c t s n * V (turn t s k) n + 2 * V (turn s t k) n) := by
  have a := (alt_next c hc V n k).2 t s h
  have b := last_of hc ((alt_next c hc V n k).1 t s h)
  unfold Nx at a
  have e4 : S (c t s n) (k + 1 + 1) = c t s n * S (c t s n) (k + 1) - S (c t s n) k := S_step _ _
  rw [a, b, hc s t n, e4, turn_swap t s k, turn_swap s t k]
  clear a b e4
  grind

/-- the numbers of the corners -/
structure Cs (M : Nat → Nat → Nat) (c : Nat → Nat → Nat → Rat) : Prop where
  sym : ∀ i j n, c i j n = c j i n
  set : ∀ i j, Set (c i j)
  nul : ∀ i j, i ≠ j → M i j ≠ 0 → Nul (fun n => S (c i j n) (M i j))

/-- alike, but for what falls to nothing -/
def Sim (V W : Vec) : Prop := ∀ h, Nul (fun n => V h n - W h n)
def SetV (V : Vec) : Prop := ∀ h, Set (V h)

theorem nul_zero : Nul (fun _ => 0) := fun e he => ⟨0, fun n _ => ⟨by grind, he⟩⟩
theorem Nul.congr {f g : Nat → Rat} (h : Nul f) (he : ∀ n, g n = f n) : Nul g := by
  have : g = f := funext he
  rw [this]; exact h
theorem Set.congr {f g : Nat → Rat} (h : Set f) (he : ∀ n, g n = f n) : Set g := by
  have : g = f := funext he
  rw [this]; exact h
theorem Pos.congr {f g : Nat → Rat} (h : Pos f) (he : ∀ n, g n = f n) : Pos g := by
  have : g = f := funext he
  rw [this]; exact h
theorem Nn.congr {f g : Nat → Rat} (h : Nn f) (he : ∀ n, g n = f n) : Nn g := by
  have : g = f := funext he
  rw [this]; exact h
theorem set_const (q : Rat) : Set (fun _ => q) := fun e he => ⟨0, fun n m _ _ => by grind⟩

theorem Sim.refl (V : Vec) : Sim V V := fun h => nul_zero.congr fun n => by grind
theorem Sim.symm {V W : Vec} (h : Sim V W) : Sim W V := fun s => (h s).neg.congr fun n => by grind
theorem Sim.trans {V W X : Vec} (h : Sim V W) (k : Sim W X) : Sim V X := fun s => ((h s).add (k s)).congr fun n => by grind

variable {M : Nat → Nat → Nat} {c : Nat → Nat → Nat → Rat}

theorem SetV.act (hC : Cs M c) {V : Vec} (h : SetV V) (t : Nat) : SetV (act c t V) := by
  intro s
  by_cases e : s = t
  · subst e; exact (h s).neg.congr fun n => act_at c s V n
  · exact ((h s).add ((hC.set t s).mul (h t))).congr fun n => act_off c e V n
theorem SetV.acts (hC : Cs M c) {V : Vec} (h : SetV V) (w : List Nat) : SetV (acts c w V) := by
  induction w with
  | nil => exact h
  | cons t w ih => exact SetV.act hC ih t

theorem Sim.act (hC : Cs M c) {V W : Vec} (h : Sim V W) (t : Nat) : Sim (act c t V) (act c t W) := by
  intro s
  by_cases e : s = t
  · subst e; exact (h s).neg.congr fun n => by rw [act_at, act_at]; grind
  · exact ((h s).add ((h t).mul (hC.set t s).bnd)).congr fun n => by rw [act_off c e, act_off c e]; grind
theorem Sim.acts (hC : Cs M c) {V W : Vec} (h : Sim V W) (w : List Nat) : Sim (acts c w V) (acts c w W) := by
  induction w with
  | nil => exact h
  | cons t w ih => exact Sim.act hC ih t

theorem corner (hC : Cs M c) {V : Vec} (hV : SetV V) (i j : Nat) : Sim (Rs.acts c (alt i j (M i j)) V) (Rs.acts c (alt j i (M i j)) V) := by
  by_cases hij : j = i
  · subst hij; exact Sim.refl _
  by_cases h0 : M i j = 0
  · rw [h0]; exact Sim.refl _
  have hn := hC.nul i j (Ne.symm hij) h0
  obtain ⟨k, hk⟩ : ∃ k, M i j = k + 1 := ⟨M i j - 1, by omega⟩
  rw [hk] at hn ⊢
  intro h
  by_cases h1 : h = j
  · subst h1
    refine (hn.mul (((hC.set i h).mul (hV (turn i h k))).add ((set_const 2).mul (hV (turn h i k)))).bnd).congr fun n => ?_
    rw [second c hC.sym V n k i h hij]
  · by_cases h2 : h = i
    · subst h2
      refine (hn.mul (((hC.set h j).mul (hV (turn j h k))).add ((set_const 2).mul (hV (turn h j k)))).bnd).neg.congr fun n => ?_
      have := second c hC.sym V n k j h (Ne.symm hij)
      rw [hC.sym j h n] at this
      grind
    · refine (hn.mul (((hC.set i h).mul (hV (turn j i (k + 1)))).add ((hC.set j h).mul (hV (turn i j (k + 1)))).neg).bnd).congr fun n => ?_
      rw [third c hC.sym V n (k + 1) i j hij h1 h2]
      grind

theorem step_sim (hC : Cs M c) {V : Vec} (hV : SetV V) {u v : List Nat} (h : Step M u v) : Sim (Rs.acts c u V) (Rs.acts c v V) := by
  cases h with
  | sq u v i =>
    rw [acts_append, acts_append, acts_cons, acts_cons, act_two]
    exact Sim.refl _
  | br u v i j =>
    rw [acts_append, acts_append, acts_append, acts_append]
    exact Sim.acts hC (corner hC (SetV.acts hC hV v) i j) u

/-- words of the same element move a vector alike -/
theorem acts_sim (hC : Cs M c) {V : Vec} (hV : SetV V) {u v : List Nat} (h : (mk u : G M) = mk v) : Sim (Rs.acts c u V) (Rs.acts c v V) := by
  have key : Sim (Rs.acts c u V) (Rs.acts c u V) = Sim (Rs.acts c u V) (Rs.acts c v V) :=
    congrArg (Quot.lift (fun w => Sim (Rs.acts c u V) (Rs.acts c w V)) (fun a b hab => propext ⟨fun h => h.trans (step_sim hC hV hab), fun h => h.trans (step_sim hC hV hab).symm⟩)) h
  rw [← key]
  exact Sim.refl _
end Go.Proofs.YtcpeeopdaakbaaaGreat.Rs

namespace Go.Proofs.YtcpeeopdaakbaaaGreat.Rs
set_option linter.unusedVariables false
open Cx

variable {M : Nat → Nat → Nat} {c : Nat → Nat → Nat → Rat}

theorem peel_from {t s : Nat} : ∀ (n k : Nat) (v w : List Nat), v.length = n → 1 ≤ k → (mk (alt t s k ++ v) : G M) = mk w → k + v.length = w.length →
    ∃ k v, 1 ≤ k ∧ (mk (alt t s k ++ v) : G M) = mk w ∧ k + v.length = w.length ∧ ¬ Ds (mk v : G M) (turn t s k) := by
  intro n
  induction n with
  | zero =>
    intro k v w hv hk he hl
    refine ⟨k, v, hk, he, hl, ?_⟩
    rw [List.length_eq_zero_iff.1 hv]
    exact not_ds_nil _
  | succ n ih =>
    intro k v w hv hk he hl
    by_cases hd : Ds (mk v : G M) (turn t s k)
    · obtain ⟨v', h1, h2⟩ := ds_word hd
      refine ih (k + 1) v' w (by omega) (by omega) ?_ (by omega)
      rw [alt_snoc, List.append_assoc]
      have : (mk (alt t s k ++ ([turn t s k] ++ v')) : G M) = mk (alt t s k) * mk (turn t s k :: v') := rfl
      rw [this, h2]
      exact he
    · exact ⟨k, v, hk, he, hl, hd⟩

theorem peel (hM : Ords M) {t s : Nat} (hts : s ≠ t) {w : List Nat} (hw : Red M (t :: w)) (hs : ¬ Ds (mk (t :: w) : G M) s) :
    ∃ k v, 1 ≤ k ∧ (mk (alt t s k ++ v) : G M) = mk (t :: w) ∧ k + v.length = w.length + 1 ∧ Red M v ∧ ¬ Ds (mk v : G M) t ∧ ¬ Ds (mk v : G M) s ∧ (M t s = 0 ∨ k < M t s) := by
  obtain ⟨k, v, hk, he, hl, hd⟩ := peel_from (M := M) (t := t) (s := s) w.length 1 w (t :: w) rfl (Nat.le_refl _) rfl (by simp; omega)
  have hlen : (alt t s k ++ v).length = (t :: w).length := by rw [List.length_append, alt_length]; exact hl
  have hr : Red M (alt t s k ++ v) := red_same hw he hlen
  obtain ⟨j, rfl⟩ : ∃ j, k = j + 1 := ⟨k - 1, by omega⟩
  have hr2 := hr
  rw [alt_snoc, List.append_assoc] at hr2
  have hr3 : Red M (turn t s j :: v) := red_drop hr2
  have hd2 : ¬ Ds (mk v : G M) (turn t s j) := by
    have := ds_of_head hr3
    exact (ds_front (turn t s j) (mk v : G M)).1 this
  have hcase : (turn t s (j + 1) = s ∧ turn t s j = t) ∨ (turn t s (j + 1) = t ∧ turn t s j = s) := by
    unfold turn
    by_cases h : j % 2 = 0
    · left; rw [if_neg (by omega), if_pos h]; exact ⟨rfl, rfl⟩
    · right; rw [if_pos (by omega), if_neg h]; exact ⟨rfl, rfl⟩
  have h2 : ¬ Ds (mk v : G M) t ∧ ¬ Ds (mk v : G M) s := by
    rcases hcase with ⟨h1, h2⟩ | ⟨h1, h2⟩
    · rw [h1] at hd; rw [h2] at hd2; exact ⟨hd2, hd⟩
    · rw [h1] at hd; rw [h2] at hd2; exact ⟨hd, hd2⟩
  refine ⟨j + 1, v, hk, he, by simpa using hl, red_drop hr, h2.1, h2.2, ?_⟩
  by_cases h0 : M t s = 0
  · exact .inl h0
  · right
    refine Nat.lt_of_not_le fun hle => hs ?_
    obtain ⟨d, hd⟩ : ∃ d, j + 1 = M t s + d := ⟨j + 1 - M t s, by omega⟩
    rw [hd, alt_add, List.append_assoc] at he hr
    have e2 : (mk (alt s t (M t s) ++ (alt (turn t s (M t s)) (turn s t (M t s)) d ++ v)) : G M) = mk (t :: w) := by
      have := mk_br (M := M) [] (alt (turn t s (M t s)) (turn s t (M t s)) d ++ v) t s
      exact this.symm.trans he
    have hr4 : Red M (alt s t (M t s) ++ (alt (turn t s (M t s)) (turn s t (M t s)) d ++ v)) := red_same hr (e2.trans he.symm) (by simp [alt_length])
    obtain ⟨m, hm⟩ : ∃ m, M t s = m + 1 := ⟨M t s - 1, by omega⟩
    rw [← e2]
    rw [hm] at hr4 ⊢
    exact ds_of_head hr4

/-- the numbers of the rows -/
structure Ps (M : Nat → Nat → Nat) (c : Nat → Nat → Nat → Rat) : Prop extends Cs M c where
  pos : ∀ i j, i ≠ j → ∀ k, 1 ≤ k → (M i j = 0 ∨ k < M i j) → Pos (fun n => S (c i j n) k)

theorem S_set (hC : Cs M c) (i j : Nat) : ∀ k, Set (fun n => S (c i j n) k) ∧ Set (fun n => S (c i j n) (k + 1)) := by
  intro k
  induction k with
  | zero => exact ⟨set_const 0, set_const 1⟩
  | succ k ih => exact ⟨ih.2, (((hC.set i j).mul ih.2).add ih.1.neg).congr fun n => by rw [S_step]; grind⟩

theorem Nn.mul {f g : Nat → Rat} (hf : Nn f) (hg : Pos g) (hb : Bnd g) : Nn (fun n => f n * g n) := by
  intro e he
  obtain ⟨d, hd, N, h1⟩ := hg
  obtain ⟨B, hB, M, h2⟩ := hb
  have hdB : 0 < e / B := by rw [Rat.div_def]; exact Rat.mul_pos he (Rat.inv_pos.2 hB)
  obtain ⟨K, h3⟩ := hf _ hdB
  refine ⟨N + M + K, fun n hn => ?_⟩
  have a := h1 n (by omega)
  have b := h2 n (by omega)
  have x := h3 n (by omega)
  have eB : e / B * B = e := by rw [Rat.div_def, Rat.mul_assoc, Rat.inv_mul_cancel _ (by grind), Rat.mul_one]
  have h4 : 0 < (f n + e / B) * g n := Rat.mul_pos (by grind) (by grind)
  have h5 : 0 < e / B * (B - g n) := Rat.mul_pos hdB (by grind)
  show -e < f n * g n
  grind

theorem Pos.nn_add {f g : Nat → Rat} (hf : Pos f) (hg : Nn g) : Pos (fun n => f n + g n) := by
  obtain ⟨e, he, N, h1⟩ := hf
  obtain ⟨M, h2⟩ := hg _ (half_pos he)
  refine ⟨e / 2, half_pos he, N + M, fun n hn => ?_⟩
  have a := h1 n (by omega)
  have b := h2 n (by omega)
  show e / 2 < f n + g n
  grind

theorem positive (hM : Ords M) (hC : Ps M c) {V : Vec} (hV : SetV V) : ∀ (n : Nat) (w : List Nat), w.length = n → Red M w → ∀ s, ¬ Ds (mk w : G M) s →
    ((∀ h, Nn (V h)) → Nn (Rs.acts c w V s)) ∧ ((∀ h, Pos (V h)) → Pos (Rs.acts c w V s)) := by
  intro n
  induction n using Nat.strongRecOn with
  | ind n ih =>
    intro w hn hw s hs
    cases w with
    | nil => exact ⟨fun h => h s, fun h => h s⟩
    | cons t w =>
      have hts : s ≠ t := by
        rintro rfl
        exact hs (ds_of_head hw)
      obtain ⟨k, v, hk, he, hl, hv, h1, h2, h3⟩ := peel hM hts hw hs
      have hlt : v.length < n := by simp at hn; omega
      have a1 := ih v.length hlt v rfl hv t h1
      have a2 := ih v.length hlt v rfl hv s h2
      have hsim := acts_sim hC.toCs hV he s
      have hVv := SetV.acts hC.toCs hV v
      have hS := S_set hC.toCs t s k
      have hSk := hC.pos t s (Ne.symm hts) k hk h3
      have hSk1 : Pos (fun n => S (c t s n) (k + 1)) ∨ Nul (fun n => S (c t s n) (k + 1)) := by
        by_cases h : M t s = 0 ∨ k + 1 < M t s
        · exact .inl (hC.pos t s (Ne.symm hts) (k + 1) (by omega) h)
        · right
          have hm : M t s = k + 1 := by omega
          have := hC.nul t s (Ne.symm hts) (by omega)
          rw [hm] at this
          exact this
      have hval : ∀ n, Rs.acts c (alt t s k ++ v) V s n = S (c t s n) (k + 1) * Rs.acts c v V (turn s t k) n + S (c t s n) k * Rs.acts c v V (turn t s k) n := by
        intro n
        rw [acts_append]
        exact (alt_next c hC.sym (Rs.acts c v V) n k).1 t s hts
      have hx : ∀ K : (Nat → Rat) → Prop, K (Rs.acts c v V t) → K (Rs.acts c v V s) → K (Rs.acts c v V (turn s t k)) ∧ K (Rs.acts c v V (turn t s k)) := by
        intro K h1 h2
        unfold turn
        by_cases h : k % 2 = 0
        · rw [if_pos h, if_pos h]; exact ⟨h2, h1⟩
        · rw [if_neg h, if_neg h]; exact ⟨h1, h2⟩
      have hfirst : (∀ h, Nn (V h)) → Nn (fun n => S (c t s n) (k + 1) * Rs.acts c v V (turn s t k) n) := by
        intro h
        obtain ⟨n1, _⟩ := hx Nn (a1.1 h) (a2.1 h)
        rcases hSk1 with hp | hz
        · exact (n1.mul hp hS.2.bnd).congr fun n => by grind
        · exact (hz.mul (hVv (turn s t k)).bnd).nn
      constructor
      · intro h
        obtain ⟨_, n2⟩ := hx Nn (a1.1 h) (a2.1 h)
        have := (hfirst h).add ((n2.mul hSk hS.1.bnd).congr fun n => by grind : Nn (fun n => S (c t s n) k * Rs.acts c v V (turn t s k) n))
        exact (this.add hsim.neg.nn).congr fun n => by rw [← hval]; grind
      · intro h
        obtain ⟨_, n2⟩ := hx Pos (a1.2 h) (a2.2 h)
        have := (hSk.mul n2).nn_add (hfirst fun x => (h x).nn)
        exact (this.nul hsim.neg).congr fun n => by rw [hval]; grind
end Go.Proofs.YtcpeeopdaakbaaaGreat.Rs

namespace Go.Proofs.YtcpeeopdaakbaaaGreat.Rs
set_option linter.unusedVariables false
open Cx

variable {M : Nat → Nat → Nat} {c : Nat → Nat → Nat → Rat}

theorem pos_any (hM : Ords M) (hC : Ps M c) {V : Vec} (hV : SetV V) (w : List Nat) (s : Nat) (hs : ¬ Ds (mk w : G M) s) :
    ((∀ h, Nn (V h)) → Nn (Rs.acts c w V s)) ∧ ((∀ h, Pos (V h)) → Pos (Rs.acts c w V s)) := by
  obtain ⟨u, hu, hr⟩ := red_exists (mk w : G M)
  rw [← hu] at hs
  have a := positive hM hC hV u.length u rfl hr s hs
  have b := acts_sim hC.toCs hV hu s
  exact ⟨fun h => ((a.1 h).add b.neg.nn).congr fun n => by grind, fun h => ((a.2 h).nul b.neg).congr fun n => by grind⟩

theorem neg_any (hM : Ords M) (hC : Ps M c) {V : Vec} (hV : SetV V) (w : List Nat) (s : Nat) (hs : Ds (mk w : G M) s) :
    ((∀ h, Nn (V h)) → Nn (fun n => - Rs.acts c w V s n)) ∧ ((∀ h, Pos (V h)) → Pos (fun n => - Rs.acts c w V s n)) := by
  have hn : ¬ Ds (mk (s :: w) : G M) s := fun h => (ds_front s (mk w : G M)).1 h hs
  have a := pos_any hM hC hV (s :: w) s hn
  exact ⟨fun h => (a.1 h).congr fun n => (act_at c s (Rs.acts c w V) n).symm, fun h => (a.2 h).congr fun n => (act_at c s (Rs.acts c w V) n).symm⟩

theorem act_lin (X Y : Vec) (q : Nat → Rat) (t : Nat) : act c t (fun h n => X h n + q n * Y h n) = fun h n => act c t X h n + q n * act c t Y h n := by
  funext h n
  unfold act
  by_cases e : h = t
  · simp only [e, if_true]; grind
  · simp only [e, if_false]; grind
theorem acts_lin (X Y : Vec) (q : Nat → Rat) (a : List Nat) : Rs.acts c a (fun h n => X h n + q n * Y h n) = fun h n => Rs.acts c a X h n + q n * Rs.acts c a Y h n := by
  induction a with
  | nil => rfl
  | cons t a ih => rw [acts_cons, ih, act_lin]; rfl

/-- the vector of a letter -/
def own (c : Nat → Nat → Nat → Rat) (t : Nat) : Vec := fun h n => if h = t then -2 else c t h n
theorem act_own (t : Nat) (V : Vec) : act c t V = fun h n => V h n + V t n * own c t h n := by
  funext h n
  unfold act own
  by_cases e : h = t
  · simp only [e, if_true]; grind
  · simp only [e, if_false]; grind
theorem own_set (hC : Cs M c) (t : Nat) : SetV (own c t) := by
  intro h
  by_cases e : h = t
  · exact (set_const (-2)).congr fun n => by simp [own, e]
  · exact (hC.set t h).congr fun n => by simp [own, e]

/-- a letter behind a word is a letter ahead of it -/
theorem swap_letter (hC : Cs M c) {a : List Nat} {s t : Nat} (h : (mk (s :: a) : G M) = mk (a ++ [t])) {V : Vec} (hV : SetV V) :
    Nul (fun n => 2 * Rs.acts c a V s n + V t n * Rs.acts c a (own c t) s n) := by
  have h1 := acts_sim hC hV h s
  refine h1.neg.congr fun n => ?_
  have e1 : Rs.acts c (s :: a) V s n = - Rs.acts c a V s n := act_at c s (Rs.acts c a V) n
  have e2 : Rs.acts c (a ++ [t]) V s n = Rs.acts c a V s n + V t n * Rs.acts c a (own c t) s n := by
    rw [acts_append]
    have : Rs.acts c [t] V = act c t V := rfl
    rw [this, act_own, acts_lin]
  rw [e1, e2]
  grind

theorem refs_mem {r : G M} : ∀ {w : List Nat}, r ∈ (refs w : List (G M)) → ∃ a t v, w = a ++ t :: v ∧ r = cj (mk a) (mk [t]) := by
  intro w
  induction w generalizing r with
  | nil => intro h; cases h
  | cons i w ih =>
    intro h
    rcases List.mem_cons.1 h with rfl | h
    · exact ⟨[], i, w, rfl, (cj_one _).symm⟩
    · obtain ⟨r', hr', rfl⟩ := List.mem_map.1 h
      obtain ⟨a, t, v, rfl, rfl⟩ := ih hr'
      exact ⟨i :: a, t, v, rfl, (cj_mul (mk [i]) (mk a) (mk [t])).symm⟩

theorem exchange {w : List Nat} (hw : Red M w) {s : Nat} (hs : Ds (mk w : G M) s) : ∃ a t v, w = a ++ t :: v ∧ (mk (s :: a) : G M) = mk (a ++ [t]) := by
  have h : (mk [s] : G M) ∈ (refs w : List (G M)) := (eta_red hw _).1 hs
  obtain ⟨a, t, v, e, h1⟩ := refs_mem h
  refine ⟨a, t, v, e, ?_⟩
  show (mk [s] * mk a : G M) = mk a * mk [t]
  rw [h1]
  unfold cj
  rw [mul_assoc, inv_mul_self, mul_one]

/-- each letter goes down -/
def Down (c : Nat → Nat → Nat → Rat) (U : Vec) (w : List Nat) : Prop := ∀ a t v, w = a ++ t :: v → Pos (fun n => - Rs.acts c v U t n)

def ones : Vec := fun _ _ => 1
theorem ones_set : SetV ones := fun _ => set_const 1
theorem ones_pos : ∀ h, Pos (ones h) := fun _ => ⟨1 / 2, by grind, 0, fun n _ => by show (1 : Rat) / 2 < 1; grind⟩

theorem Down.descent (hM : Ords M) (hC : Ps M c) {U : Vec} (hU : SetV U) {w : List Nat} (hd : Down c U w) (hw : Red M w) {s : Nat} (hs : Ds (mk w : G M) s) : Pos (Rs.acts c w U s) := by
  obtain ⟨a, t, v, rfl, he⟩ := exchange hw hs
  have h1 := hd a t v rfl
  have hk := SetV.acts hC.toCs (own_set hC.toCs t) a s
  have x1 := swap_letter hC.toCs he (V := Rs.acts c (t :: v) U) (SetV.acts hC.toCs hU _)
  have x2 := swap_letter hC.toCs he (V := Rs.acts c (t :: v) ones) (SetV.acts hC.toCs ones_set _)
  have hv : ¬ Ds (mk v : G M) t := (ds_front t (mk v : G M)).1 (ds_of_head (red_drop hw))
  have p1 := (pos_any hM hC ones_set v t hv).2 ones_pos
  have p2 := (neg_any hM hC ones_set (a ++ t :: v) s hs).2 ones_pos
  rw [acts_append] at p2 ⊢
  generalize Rs.acts c a (own c t) s = q at *
  have e1 : ∀ X n, Rs.acts c (t :: v) X t n = - Rs.acts c v X t n := fun X n => act_at c t (Rs.acts c v X) n
  have hq : Pos (fun n => - q n) := by
    rcases signs hk with h | h | h
    · exfalso
      have := (h.mul (SetV.acts hC.toCs ones_set v t).bnd)
      refine ((p2.add p2).nul (x2.add this)).not_nul (nul_zero.congr fun n => ?_)
      rw [e1]; grind
    · exfalso
      have := h.mul p1
      refine (((p2.add p2).add this).nul x2).not_nul (nul_zero.congr fun n => ?_)
      rw [e1]; grind
    · exact h
  have h2 := (h1.mul hq).nul x1
  have h3 : Pos (fun n => 2 * Rs.acts c a (Rs.acts c (t :: v) U) s n) := h2.congr fun n => by rw [e1]; grind
  obtain ⟨e, he, N, h4⟩ := h3
  exact ⟨e / 2, half_pos he, N, fun n hn => by have := h4 n hn; grind⟩

theorem Down.red (hM : Ords M) (hC : Ps M c) {U : Vec} (hU : SetV U) : ∀ {w : List Nat}, Down c U w → Red M w := by
  intro w
  induction w with
  | nil => intro _; exact red_nil
  | cons t v ih =>
    intro h
    have hv : Down c U v := fun a t' v' e => h (t :: a) t' v' (by rw [e]; rfl)
    have hr := ih hv
    refine red_cons hr fun hd => ?_
    exact (hv.descent hM hC hU hr hd).not_neg (h [] t v rfl)
end Go.Proofs.YtcpeeopdaakbaaaGreat.Rs

namespace Go.Proofs.YtcpeeopdaakbaaaGreat.Rs
set_option linter.unusedVariables false
open Cx

variable {M : Nat → Nat → Nat} {c : Nat → Nat → Nat → Rat}

/-- the number of letters of an element -/
noncomputable def ln (x : G M) : Nat := (nf x).length
theorem ln_red {w : List Nat} (h : Red M w) : ln (mk w : G M) = w.length := red_len (nf_greedy _).red h (mk_nf _)
theorem ln_le (w : List Nat) : ln (mk w : G M) ≤ w.length := (nf_greedy (mk w : G M)).red w (mk_nf _).symm
theorem ln_up {t : Nat} {x : G M} (h : ¬ Ds x t) : ln (mk [t] * x) = ln x + 1 := by
  obtain ⟨u, hu, hr⟩ := red_exists x
  subst hu
  have : Red M (t :: u) := red_cons hr h
  rw [ln_red hr]
  exact ln_red this
theorem ln_down {t : Nat} {x : G M} (h : Ds x t) : ln (mk [t] * x) + 1 = ln x := by
  have h2 : ¬ Ds (mk [t] * x) t := fun hd => (ds_front t x).1 hd h
  have := ln_up h2
  rw [let_two] at this
  exact this.symm
theorem ln_mul (u : List Nat) (x : G M) : ln x ≤ ln (mk u * x) + u.length := by
  induction u with
  | nil => rw [show (mk [] * x : G M) = x from one_mul x]; simp
  | cons t u ih =>
    have e : (mk (t :: u) * x : G M) = mk [t] * (mk u * x) := by rw [← mul_assoc]; rfl
    rw [e]
    by_cases h : Ds (mk u * x) t
    · have := ln_down h; simp; omega
    · have := ln_up h; simp; omega

/-- y, i times -/
def rp (y : List Nat) : Nat → List Nat
  | 0 => []
  | i + 1 => y ++ rp y i

/-- the sum of the vectors of the first k powers -/
def sumV (c : Nat → Nat → Nat → Rat) (y : List Nat) : Nat → Vec
  | 0 => fun _ _ => 0
  | k + 1 => fun h n => sumV c y k h n + Rs.acts c (rp y k) ones h n

theorem act_zero (t : Nat) : act c t (fun _ _ => 0) = fun _ _ => 0 := by
  funext h n
  unfold act
  by_cases e : h = t
  · simp [e]
  · simp only [e, if_false]; grind
theorem acts_zero (w : List Nat) : Rs.acts c w (fun _ _ => 0) = fun _ _ => 0 := by
  induction w with
  | nil => rfl
  | cons t w ih => rw [acts_cons, ih, act_zero]
theorem acts_add (w : List Nat) (X Y : Vec) : Rs.acts c w (fun h n => X h n + Y h n) = fun h n => Rs.acts c w X h n + Rs.acts c w Y h n := by
  have := acts_lin (c := c) X Y (fun _ => 1) w
  have e : (fun h n => X h n + 1 * Y h n) = fun h n => X h n + Y h n := by funext h n; grind
  rw [e] at this
  rw [this]
  funext h n; grind

theorem acts_sum (y w : List Nat) (k : Nat) : Rs.acts c w (sumV c y (k + 1)) = fun h n => Rs.acts c w (sumV c y k) h n + Rs.acts c (w ++ rp y k) ones h n := by
  show Rs.acts c w (fun h n => sumV c y k h n + Rs.acts c (rp y k) ones h n) = _
  rw [acts_add]
  funext h n
  rw [acts_append]

theorem sum_set (hC : Cs M c) (y : List Nat) (k : Nat) : SetV (sumV c y k) := by
  induction k with
  | zero => exact fun _ => set_const 0
  | succ k ih => exact fun h => (ih h).add (SetV.acts hC ones_set _ h)

/-- if the sum is below nothing, one of the powers goes down -/
theorem some_down (hM : Ords M) (hC : Ps M c) (y w : List Nat) (t : Nat) : ∀ k, (∀ i, i < k → ¬ Ds (mk (w ++ rp y i) : G M) t) → Nn (Rs.acts c w (sumV c y k) t) := by
  intro k
  induction k with
  | zero =>
    intro _
    have : Rs.acts c w (sumV c y 0) t = fun _ => 0 := by
      show Rs.acts c w (fun _ _ => 0) t = _
      rw [acts_zero]
    rw [this]
    exact nul_zero.nn
  | succ k ih =>
    intro h
    have a := ih fun i hi => h i (by omega)
    have b := (pos_any hM hC ones_set (w ++ rp y k) t (h k (by omega))).2 ones_pos
    rw [acts_sum]
    exact a.add b.nn

theorem Pos.not_nn {f : Nat → Rat} (h : Pos (fun n => - f n)) : ¬ Nn f := by
  intro hn
  have := h.nn_add hn
  exact this.not_nul (nul_zero.congr fun n => by grind)

def sumN (f : Nat → Nat) : Nat → Nat
  | 0 => 0
  | k + 1 => sumN f k + f k
theorem sumN_le {f g : Nat → Nat} (k : Nat) (h : ∀ i, i < k → f i ≤ g i) : sumN f k ≤ sumN g k := by
  induction k with
  | zero => exact Nat.le_refl _
  | succ k ih => exact Nat.add_le_add (ih fun i hi => h i (by omega)) (h k (by omega))
theorem sumN_add (f g : Nat → Nat) (k : Nat) : sumN (fun i => f i + g i) k = sumN f k + sumN g k := by
  induction k with
  | zero => rfl
  | succ k ih => simp only [sumN, ih]; omega
theorem sumN_const (m k : Nat) : sumN (fun _ => m) k = k * m := by
  induction k with
  | zero => simp [sumN]
  | succ k ih => simp only [sumN, ih]; rw [Nat.add_mul]; omega
theorem sumN_one {f g : Nat → Nat} {k j : Nat} (hj : j < k) (h : ∀ i, i < k → f i ≤ g i + 1) (hjj : f j + 1 ≤ g j) : sumN f k + 2 ≤ sumN g k + k := by
  induction k with
  | zero => omega
  | succ k ih =>
    have hk := h k (by omega)
    by_cases e : j = k
    · subst e
      have : sumN f j ≤ sumN (fun i => g i + 1) j := sumN_le j fun i hi => h i (by omega)
      rw [sumN_add, sumN_const] at this
      simp only [sumN]
      omega
    · have := ih (by omega) (fun i hi => h i (by omega))
      simp only [sumN]
      omega

theorem down_bound (hM : Ords M) (hC : Ps M c) (y : List Nat) (k : Nat) : ∀ {w : List Nat}, Down c (sumV c y k) w →
    sumN (fun i => ln (mk (w ++ rp y i) : G M)) k + 2 * w.length ≤ k * w.length + sumN (fun i => ln (mk (rp y i) : G M)) k := by
  intro w
  induction w with
  | nil => intro _; simp
  | cons t v ih =>
    intro h
    have hv : Down c (sumV c y k) v := fun a t' v' e => h (t :: a) t' v' (by rw [e]; rfl)
    have a := ih hv
    have h1 := h [] t v rfl
    have hex : ∃ j, j < k ∧ Ds (mk (v ++ rp y j) : G M) t := by
      refine Classical.byContradiction fun hc => h1.not_nn (some_down hM hC y v t k fun i hi hd => hc ⟨i, hi, hd⟩)
    obtain ⟨j, hj, hd⟩ := hex
    have e : ∀ i, (mk (t :: v ++ rp y i) : G M) = mk [t] * mk (v ++ rp y i) := fun i => rfl
    have b := sumN_one (f := fun i => ln (mk (t :: v ++ rp y i) : G M)) (g := fun i => ln (mk (v ++ rp y i) : G M)) hj (fun i _ => by
      rw [e]
      by_cases hx : Ds (mk (v ++ rp y i) : G M) t
      · have := ln_down hx; omega
      · have := ln_up hx; omega) (by rw [e]; have := ln_down hd; omega)
    have hk : k * (t :: v).length = k * v.length + k := by rw [List.length_cons]; exact Nat.mul_succ _ _
    rw [hk, List.length_cons]
    omega

theorem ln_back {w : List Nat} (hw : Red M w) (p : List Nat) : w.length ≤ ln (mk (w ++ p) : G M) + ln (mk p : G M) := by
  have e : (mk w : G M) = mk (nf (mk (w ++ p) : G M) ++ (nf (mk p : G M)).reverse) := by
    rw [← mk_mul, mk_nf, ← inv_mk, mk_nf, ← mk_mul, mul_assoc, mul_inv, mul_one]
  have h := ln_le (M := M) (nf (mk (w ++ p) : G M) ++ (nf (mk p : G M)).reverse)
  rw [← e, ln_red hw, List.length_append, List.length_reverse] at h
  exact h

theorem down_short (hM : Ords M) (hC : Ps M c) (y : List Nat) (k : Nat) {w : List Nat} (h : Down c (sumV c y k) w) :
    w.length ≤ sumN (fun i => ln (mk (rp y i) : G M)) k := by
  have a := down_bound hM hC y k h
  have hr := h.red hM hC (sum_set hC.toCs y k)
  have b : k * w.length ≤ sumN (fun i => ln (mk (w ++ rp y i) : G M)) k + sumN (fun i => ln (mk (rp y i) : G M)) k := by
    rw [← sumN_const, ← sumN_add]
    exact sumN_le k fun i _ => ln_back hr (rp y i)
  omega
end Go.Proofs.YtcpeeopdaakbaaaGreat.Rs

namespace Go.Proofs.YtcpeeopdaakbaaaGreat.Rs
set_option linter.unusedVariables false
open Cx

variable {M : Nat → Nat → Nat} {c : Nat → Nat → Nat → Rat}

theorem top (hM : Ords M) (hC : Ps M c) (y : List Nat) (k : Nat) : ∃ w, ∀ s, Nn (Rs.acts c w (sumV c y k) s) := by
  refine Classical.byContradiction fun hno => ?_
  have all : ∀ n, ∃ w : List Nat, w.length = n ∧ Down c (sumV c y k) w := by
    intro n
    induction n with
    | zero => exact ⟨[], rfl, fun a t v e => by cases a <;> simp at e⟩
    | succ n ih =>
      obtain ⟨w, hw, hd⟩ := ih
      have : ∃ s, ¬ Nn (Rs.acts c w (sumV c y k) s) := by
        refine Classical.byContradiction fun hx => hno ⟨w, fun s => ?_⟩
        exact Classical.byContradiction fun hy => hx ⟨s, hy⟩
      obtain ⟨s, hs⟩ := this
      have hp : Pos (fun n => - Rs.acts c w (sumV c y k) s n) := by
        refine Classical.byContradiction fun hx => hs (nn_of_not (SetV.acts hC.toCs (sum_set hC.toCs y k) w s) hx)
      refine ⟨s :: w, by simp [hw], fun a t v e => ?_⟩
      cases a with
      | nil =>
        simp only [List.nil_append, List.cons.injEq] at e
        obtain ⟨rfl, rfl⟩ := e
        exact hp
      | cons b a =>
        simp only [List.cons_append, List.cons.injEq] at e
        exact hd a t v e.2
  obtain ⟨w, hw, hd⟩ := all (sumN (fun i => ln (mk (rp y i) : G M)) k + 1)
  have := down_short hM hC y k hd
  omega

theorem sum_shift (y : List Nat) (k : Nat) (h n : Nat) : Rs.acts c y (sumV c y k) h n + ones h n = sumV c y k h n + Rs.acts c (rp y k) ones h n := by
  induction k with
  | zero =>
    have : Rs.acts c y (sumV c y 0) = fun _ _ => 0 := by
      show Rs.acts c y (fun _ _ => 0) = _
      rw [acts_zero]
    rw [this]
    rfl
  | succ k ih =>
    rw [acts_sum]
    have e : Rs.acts c (y ++ rp y k) ones h n = Rs.acts c (rp y (k + 1)) ones h n := rfl
    show Rs.acts c y (sumV c y k) h n + Rs.acts c (y ++ rp y k) ones h n + ones h n = sumV c y k h n + Rs.acts c (rp y k) ones h n + Rs.acts c (rp y (k + 1)) ones h n
    rw [e]
    grind

theorem keeps (hC : Cs M c) {y : List Nat} {k : Nat} (hy : (mk (rp y k) : G M) = mk []) : Sim (Rs.acts c y (sumV c y k)) (sumV c y k) := by
  intro h
  have a := acts_sim hC ones_set hy h
  refine a.congr fun n => ?_
  have b := sum_shift (c := c) y k h n
  have e : Rs.acts c [] ones h n = ones h n := rfl
  rw [e]
  grind

/-- the letters of a shortest word that keeps a place -/
theorem fixed (hM : Ords M) (hC : Ps M c) {V : Vec} (hV : SetV V) (hn : ∀ s, Nn (V s)) : ∀ {z : List Nat}, Red M z → Sim (Rs.acts c z V) V → ∀ s, s ∈ z → Nul (V s) := by
  intro z
  induction z with
  | nil => intro _ _ s hs; cases hs
  | cons t z ih =>
    intro hr hs s hmem
    have hz := red_tail hr
    have hd : ¬ Ds (mk z : G M) t := (ds_front t (mk z : G M)).1 (ds_of_head hr)
    have a := (pos_any hM hC hV z t hd).1 hn
    have b := hs t
    have e : ∀ n, Rs.acts c (t :: z) V t n = - Rs.acts c z V t n := fun n => act_at c t (Rs.acts c z V) n
    have h1 : Nn (fun n => - V t n) := (a.add b.nn).congr fun n => by rw [e]; grind
    have h2 : Nul (V t) := (hn t).both h1
    have h3 : Nul (Rs.acts c z V t) := ((b.neg).add h2.neg).congr fun n => by rw [e]; grind
    have h4 : Sim (Rs.acts c z V) V := by
      refine Sim.trans (Sim.symm ?_) hs
      intro h
      by_cases ht : h = t
      · subst ht
        exact ((h3.neg).add h3.neg).congr fun n => by rw [e]; grind
      · exact (h3.mul (hC.set t h).bnd).congr fun n => by
          have : Rs.acts c (t :: z) V h n = Rs.acts c z V h n + c t h n * Rs.acts c z V t n := act_off c ht (Rs.acts c z V) n
          rw [this]; grind
    rcases List.mem_cons.1 hmem with rfl | hm
    · exact h2
    · exact ih hz h4 s hm

/-- an element of finite order, moved to where it keeps a place: its letters -/
theorem finite (hM : Ords M) (hC : Ps M c) {y : List Nat} {k : Nat} (hy : (mk (rp y k) : G M) = mk []) :
    ∃ w z, Red M z ∧ (mk z : G M) = mk (w ++ (y ++ w.reverse)) ∧ ∀ s, s ∈ z → Nul (Rs.acts c w (sumV c y k) s) := by
  obtain ⟨w, hw⟩ := top hM hC y k
  obtain ⟨z, hz, hr⟩ := red_exists (mk (w ++ (y ++ w.reverse)) : G M)
  have hU := sum_set hC.toCs y k
  refine ⟨w, z, hr, hz, fixed hM hC (SetV.acts hC.toCs hU w) hw hr ?_⟩
  rw [← acts_append]
  have e : (mk (z ++ w) : G M) = mk (w ++ y) := by
    rw [← mk_mul, hz, ← mk_mul, ← mk_mul, ← inv_mk, mul_assoc, mul_assoc, inv_mul_self, mul_one, mk_mul]
  refine (acts_sim hC.toCs hU e).trans ?_
  rw [acts_append]
  exact Sim.acts hC.toCs (keeps hC.toCs hy) w
end Go.Proofs.YtcpeeopdaakbaaaGreat.Rs
