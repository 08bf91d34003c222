/- Vectors are moved by the group, but for what falls to nothing. -/
import Derived.Test.YtogchohpnbeldaaTor3
namespace Go.Proofs.Ytogchohpnbeldaa.Rs
open Cx

theorem third (c : Nat → Nat → Nat → Rat) (hc : ∀ i j n, c i j n = c j i n) (V : Vec) (n : Nat) {h : Nat} : ∀ k t s, s ≠ t → h ≠ s → h ≠ t →
    acts c (alt t s k) V h n - acts c (alt s t k) V h n = S (c t s n) k * (c t h n * V (turn s t k) n - c s h n * V (turn t s k) n) := by
  intro k
  induction k with
  | zero =>
    intro t s _ _ _
    simp only [alt, acts, List.foldr_nil, S]
    grind
  | succ k ih =>
    intro t s hst hs ht
    have a := ih t s hst hs ht
    have b1 := (alt_next c hc V n k).1 t s hst
    have b2 := (alt_next c hc V n k).1 s t (Ne.symm hst)
    unfold Nx at b1 b2
    show act c t (acts c (alt s t k) V) h n - act c s (acts c (alt t s k) V) h n = _
    rw [act_off c ht, act_off c hs, b1, b2, turn_swap t s k, turn_swap s t k, hc s t n]
    clear b1 b2 ih
    grind

theorem second (c : Nat → Nat → Nat → Rat) (hc : ∀ i j n, c i j n = c j i n) (V : Vec) (n : Nat) (k t s : Nat) (h : s ≠ t) :
    acts c (alt t s (k + 1)) V s n - acts c (alt s t (k + 1)) V s n = S (c t s n) (k + 1) * (c t s n * V (turn t s k) n + 2 * V (turn s t k) n) := by
  have a := (alt_next c hc V n k).2 t s h
  have b := last_of hc ((alt_next c hc V n k).1 t s h)
  unfold Nx at a
  have e4 : S (c t s n) (k + 1 + 1) = c t s n * S (c t s n) (k + 1) - S (c t s n) k := S_step _ _
  rw [a, b, hc s t n, e4, turn_swap t s k, turn_swap s t k]
  clear a b e4
  grind

/-- the numbers of the corners -/
structure Cs (M : Nat → Nat → Nat) (c : Nat → Nat → Nat → Rat) : Prop where
  sym : ∀ i j n, c i j n = c j i n
  set : ∀ i j, Set (c i j)
  nul : ∀ i j, i ≠ j → M i j ≠ 0 → Nul (fun n => S (c i j n) (M i j))

/-- alike, but for what falls to nothing -/
def Sim (V W : Vec) : Prop := ∀ h, Nul (fun n => V h n - W h n)
def SetV (V : Vec) : Prop := ∀ h, Set (V h)

theorem nul_zero : Nul (fun _ => 0) := fun e he => ⟨0, fun n _ => ⟨by grind, he⟩⟩
theorem Nul.congr {f g : Nat → Rat} (h : Nul f) (he : ∀ n, g n = f n) : Nul g := by
  have : g = f := funext he
  rw [this]; exact h
theorem Set.congr {f g : Nat → Rat} (h : Set f) (he : ∀ n, g n = f n) : Set g := by
  have : g = f := funext he
  rw [this]; exact h
theorem Pos.congr {f g : Nat → Rat} (h : Pos f) (he : ∀ n, g n = f n) : Pos g := by
  have : g = f := funext he
  rw [this]; exact h
theorem Nn.congr {f g : Nat → Rat} (h : Nn f) (he : ∀ n, g n = f n) : Nn g := by
  have : g = f := funext he
  rw [this]; exact h
theorem set_const (q : Rat) : Set (fun _ => q) := fun e he => ⟨0, fun n m _ _ => by grind⟩

theorem Sim.refl (V : Vec) : Sim V V := fun h => nul_zero.congr fun n => by grind
theorem Sim.symm {V W : Vec} (h : Sim V W) : Sim W V := fun s => (h s).neg.congr fun n => by grind
theorem Sim.trans {V W X : Vec} (h : Sim V W) (k : Sim W X) : Sim V X := fun s => ((h s).add (k s)).congr fun n => by grind

variable {M : Nat → Nat → Nat} {c : Nat → Nat → Nat → Rat}

theorem SetV.act (hC : Cs M c) {V : Vec} (h : SetV V) (t : Nat) : SetV (act c t V) := by
  intro s
  by_cases e : s = t
  · subst e; exact (h s).neg.congr fun n => act_at c s V n
  · exact ((h s).add ((hC.set t s).mul (h t))).congr fun n => act_off c e V n
theorem SetV.acts (hC : Cs M c) {V : Vec} (h : SetV V) (w : List Nat) : SetV (acts c w V) := by
  induction w with
  | nil => exact h
  | cons t w ih => exact SetV.act hC ih t

theorem Sim.act (hC : Cs M c) {V W : Vec} (h : Sim V W) (t : Nat) : Sim (act c t V) (act c t W) := by
  intro s
  by_cases e : s = t
  · subst e; exact (h s).neg.congr fun n => by rw [act_at, act_at]; grind
  · exact ((h s).add ((h t).mul (hC.set t s).bnd)).congr fun n => by rw [act_off c e, act_off c e]; grind
theorem Sim.acts (hC : Cs M c) {V W : Vec} (h : Sim V W) (w : List Nat) : Sim (acts c w V) (acts c w W) := by
  induction w with
  | nil => exact h
  | cons t w ih => exact Sim.act hC ih t

theorem corner (hC : Cs M c) {V : Vec} (hV : SetV V) (i j : Nat) : Sim (Rs.acts c (alt i j (M i j)) V) (Rs.acts c (alt j i (M i j)) V) := by
  by_cases hij : j = i
  · subst hij; exact Sim.refl _
  by_cases h0 : M i j = 0
  · rw [h0]; exact Sim.refl _
  have hn := hC.nul i j (Ne.symm hij) h0
  obtain ⟨k, hk⟩ : ∃ k, M i j = k + 1 := ⟨M i j - 1, by omega⟩
  rw [hk] at hn ⊢
  intro h
  by_cases h1 : h = j
  · subst h1
    refine (hn.mul (((hC.set i h).mul (hV (turn i h k))).add ((set_const 2).mul (hV (turn h i k)))).bnd).congr fun n => ?_
    rw [second c hC.sym V n k i h hij]
  · by_cases h2 : h = i
    · subst h2
      refine (hn.mul (((hC.set h j).mul (hV (turn j h k))).add ((set_const 2).mul (hV (turn h j k)))).bnd).neg.congr fun n => ?_
      have := second c hC.sym V n k j h (Ne.symm hij)
      rw [hC.sym j h n] at this
      grind
    · refine (hn.mul (((hC.set i h).mul (hV (turn j i (k + 1)))).add ((hC.set j h).mul (hV (turn i j (k + 1)))).neg).bnd).congr fun n => ?_
      rw [third c hC.sym V n (k + 1) i j hij h1 h2]
      grind

theorem step_sim (hC : Cs M c) {V : Vec} (hV : SetV V) {u v : List Nat} (h : Step M u v) : Sim (Rs.acts c u V) (Rs.acts c v V) := by
  cases h with
  | sq u v i =>
    rw [acts_append, acts_append, acts_cons, acts_cons, act_two]
    exact Sim.refl _
  | br u v i j =>
    rw [acts_append, acts_append, acts_append, acts_append]
    exact Sim.acts hC (corner hC (SetV.acts hC hV v) i j) u

/-- words of the same element move a vector alike -/
theorem acts_sim (hC : Cs M c) {V : Vec} (hV : SetV V) {u v : List Nat} (h : (mk u : G M) = mk v) : Sim (Rs.acts c u V) (Rs.acts c v V) := by
  have key : Sim (Rs.acts c u V) (Rs.acts c u V) = Sim (Rs.acts c u V) (Rs.acts c v V) :=
    congrArg (Quot.lift (fun w => Sim (Rs.acts c u V) (Rs.acts c w V)) (fun a b hab => propext ⟨fun h => h.trans (step_sim hC hV hab), fun h => h.trans (step_sim hC hV hab).symm⟩)) h
  rw [← key]
  exact Sim.refl _
end Go.Proofs.Ytogchohpnbeldaa.Rs
