/- The numbers of the corners. -/
import Derived.Test.YtogchohpnbeldaaTor12
namespace Go.Proofs.Ytogchohpnbeldaa.Rs

theorem less_of {x e p : Rat} (hp : 0 < p) (h : x * p < e * p) : x < e := by
  refine Classical.byContradiction fun hc => ?_
  have : 0 ≤ (x - e) * p := Rat.mul_nonneg (by grind) (by grind)
  grind

theorem number {m : Nat} {l u : Rat} (h0 : 0 ≤ l) (hlu : l < u) (h2 : u ≤ 2) (hd : S l m ≤ 0) (hu : 0 < S u m) (hk : ∀ k, k < m → 1 ≤ k → Sl k * (u - l) < S l k) :
    ∃ f : Nat → Rat, Set f ∧ Nul (fun n => S (f n) m) ∧ (∀ k, 1 ≤ k → k < m → Pos (fun n => S (f n) k)) ∧ ∀ n, l ≤ f n := by
  refine ⟨fun n => (halves m l u n).1, ?_, ?_, ?_, fun n => (halves_ok hlu hd hu n).lo⟩
  · intro e he
    obtain ⟨N, hN⟩ := small (u - l) he
    refine ⟨N, fun n k hn hkk => ?_⟩
    obtain ⟨i, rfl⟩ : ∃ i, n = N + i := ⟨n - N, by omega⟩
    obtain ⟨j, rfl⟩ : ∃ j, k = N + j := ⟨k - N, by omega⟩
    have a := halves_in hlu hd hu N i
    have b := halves_in hlu hd hu N j
    have o := halves_ok hlu hd hu N
    have x := (halves_ok hlu hd hu (N + i)).lt
    have h := hN N (Nat.le_refl _)
    rw [← o.wide] at h
    have := less_of (pw_pos N) h
    show (halves m l u (N + i)).1 - (halves m l u (N + j)).1 < e
    grind
  · intro e he
    obtain ⟨N, hN⟩ := small (Sl m * (u - l)) he
    refine ⟨N, fun n hn => ?_⟩
    have o := halves_ok hlu hd hu n
    have x := o.lt
    have y := o.lo
    have z := o.hi
    have s := (S_sl (x := (halves m l u n).1) (y := (halves m l u n).2) (by grind) (by grind) (by grind) (by grind) (by grind) m).1.2
    have h := hN n hn
    rw [← o.wide, ← Rat.mul_assoc] at h
    have h3 := less_of (pw_pos n) h
    have d1 := o.down
    have d2 := o.up
    constructor <;> grind
  · intro k h1 hkm
    have h := hk k hkm h1
    refine ⟨(S l k - Sl k * (u - l)) / 2, by grind, 0, fun n _ => ?_⟩
    have o := halves_ok hlu hd hu n
    have x := o.lt
    have y := o.lo
    have z := o.hi
    have s := (S_sl (x := l) (y := (halves m l u n).1) h0 (by grind) (by grind) (by grind) y k).1.1
    have q : 0 ≤ Sl k * (u - (halves m l u n).1) := Rat.mul_nonneg (sl_nn k).1 (by grind)
    show (S l k - Sl k * (u - l)) / 2 < S (halves m l u n).1 k
    grind

/-- the lower ends: 2 cos (pi / m), seven places -/
def lT : Nat → Rat
  | 2 => 0 / 10000000
  | 3 => 10000000 / 10000000
  | 4 => 14142135 / 10000000
  | 5 => 16180339 / 10000000
  | 6 => 17320508 / 10000000
  | 7 => 18019377 / 10000000
  | 8 => 18477590 / 10000000
  | 9 => 18793852 / 10000000
  | 10 => 19021130 / 10000000
  | 11 => 19189859 / 10000000
  | 12 => 19318516 / 10000000
  | _ => 2
def wT : Rat := 1 / 10000000

theorem ends : ∀ i : Fin 11, 0 ≤ lT (i.val + 2) ∧ lT (i.val + 2) + wT ≤ 2 ∧ S (lT (i.val + 2)) (i.val + 2) ≤ 0 ∧ 0 < S (lT (i.val + 2) + wT) (i.val + 2) := by decide +kernel
theorem slopes : ∀ i : Fin 11, ∀ k : Fin 12, k.val < i.val + 2 → 1 ≤ k.val → Sl k.val * wT < S (lT (i.val + 2)) k.val := by decide +kernel

theorem number_m {m : Nat} (h2 : 2 ≤ m) (h12 : m ≤ 12) :
    ∃ f : Nat → Rat, Set f ∧ Nul (fun n => S (f n) m) ∧ (∀ k, 1 ≤ k → k < m → Pos (fun n => S (f n) k)) ∧ ∀ n, lT m ≤ f n := by
  obtain ⟨i, rfl⟩ : ∃ i : Fin 11, m = i.val + 2 := ⟨⟨m - 2, by omega⟩, by simp; omega⟩
  obtain ⟨a, b, d, e⟩ := ends i
  have hw : (0 : Rat) < wT := by decide +kernel
  refine number a (u := lT (i.val + 2) + wT) (by grind) b d e fun k h1 h3 => ?_
  have := slopes i ⟨k, by omega⟩ h1 h3
  have e : lT (i.val + 2) + wT - lT (i.val + 2) = wT := by grind
  rw [e]
  exact this

theorem S_two (k : Nat) : S 2 k = (k : Rat) := by
  have key : ∀ k : Nat, S 2 k = (k : Rat) ∧ S 2 (k + 1) = ((k + 1 : Nat) : Rat) := by
    intro k
    induction k with
    | zero => exact ⟨rfl, rfl⟩
    | succ k ih =>
      refine ⟨ih.2, ?_⟩
      rw [S_step, ih.1, ih.2]
      have h1 : ((k + 1 + 1 : Nat) : Rat) = (k : Rat) + 1 + 1 := by rw [Rat.natCast_add, Rat.natCast_add]; rfl
      have h2 : ((k + 1 : Nat) : Rat) = (k : Rat) + 1 := by rw [Rat.natCast_add]; rfl
      rw [h1, h2]
      grind
  exact (key k).1
end Go.Proofs.Ytogchohpnbeldaa.Rs
