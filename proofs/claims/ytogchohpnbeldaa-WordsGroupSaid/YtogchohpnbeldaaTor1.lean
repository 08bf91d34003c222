/- Sequences of fractions: those that settle, those that fall to nothing, those that stay above. -/
namespace Go.Proofs.Ytogchohpnbeldaa.Rs

/-- it falls to nothing -/
def Nul (f : Nat → Rat) : Prop := ∀ e : Rat, 0 < e → ∃ N, ∀ n, N ≤ n → -e < f n ∧ f n < e
/-- it settles -/
def Set (f : Nat → Rat) : Prop := ∀ e : Rat, 0 < e → ∃ N, ∀ n m, N ≤ n → N ≤ m → f n - f m < e
/-- it stays above something -/
def Pos (f : Nat → Rat) : Prop := ∃ e : Rat, 0 < e ∧ ∃ N, ∀ n, N ≤ n → e < f n

theorem half_pos {e : Rat} (h : 0 < e) : 0 < e / 2 := by grind
theorem half_add (e : Rat) : e / 2 + e / 2 = e := by grind

theorem Nul.add {f g : Nat → Rat} (hf : Nul f) (hg : Nul g) : Nul (fun n => f n + g n) := by
  intro e he
  obtain ⟨N, h1⟩ := hf _ (half_pos he)
  obtain ⟨M, h2⟩ := hg _ (half_pos he)
  refine ⟨N + M, fun n hn => ?_⟩
  have a := h1 n (by omega)
  have b := h2 n (by omega)
  constructor <;> grind

theorem Nul.neg {f : Nat → Rat} (hf : Nul f) : Nul (fun n => - f n) := by
  intro e he
  obtain ⟨N, h⟩ := hf e he
  refine ⟨N, fun n hn => ?_⟩
  have a := h n hn
  constructor <;> grind

theorem Set.add {f g : Nat → Rat} (hf : Set f) (hg : Set g) : Set (fun n => f n + g n) := by
  intro e he
  obtain ⟨N, h1⟩ := hf _ (half_pos he)
  obtain ⟨M, h2⟩ := hg _ (half_pos he)
  refine ⟨N + M, fun n m hn hm => ?_⟩
  have a := h1 n m (by omega) (by omega)
  have b := h2 n m (by omega) (by omega)
  show f n + g n - (f m + g m) < e
  grind

theorem Set.neg {f : Nat → Rat} (hf : Set f) : Set (fun n => - f n) := by
  intro e he
  obtain ⟨N, h⟩ := hf e he
  refine ⟨N, fun n m hn hm => ?_⟩
  have a := h m n hm hn
  show - f n - - f m < e
  grind

theorem Pos.add {f g : Nat → Rat} (hf : Pos f) (hg : Pos g) : Pos (fun n => f n + g n) := by
  obtain ⟨e, he, N, h1⟩ := hf
  obtain ⟨d, hd, M, h2⟩ := hg
  refine ⟨e, he, N + M, fun n hn => ?_⟩
  have a := h1 n (by omega)
  have b := h2 n (by omega)
  show e < f n + g n
  grind

theorem Pos.nul {f g : Nat → Rat} (hf : Pos f) (hg : Nul g) : Pos (fun n => f n + g n) := by
  obtain ⟨e, he, N, h1⟩ := hf
  obtain ⟨M, h2⟩ := hg _ (half_pos he)
  refine ⟨e / 2, half_pos he, N + M, fun n hn => ?_⟩
  have a := h1 n (by omega)
  have b := h2 n (by omega)
  show e / 2 < f n + g n
  grind

theorem Pos.not_nul {f : Nat → Rat} (hf : Pos f) : ¬ Nul f := by
  intro h
  obtain ⟨e, he, N, h1⟩ := hf
  obtain ⟨M, h2⟩ := h e he
  have a := h1 (N + M) (by omega)
  have b := h2 (N + M) (by omega)
  grind

theorem Pos.not_neg {f : Nat → Rat} (hf : Pos f) : ¬ Pos (fun n => - f n) := by
  intro h
  obtain ⟨e, he, N, h1⟩ := hf
  obtain ⟨d, hd, M, h2⟩ := h
  have a := h1 (N + M) (by omega)
  have b := h2 (N + M) (by omega)
  grind

/-- what settles falls to nothing, or stays above, or stays below -/
theorem signs {f : Nat → Rat} (hf : Set f) : Nul f ∨ Pos f ∨ Pos (fun n => - f n) := by
  by_cases h : Nul f
  · exact .inl h
  · right
    have : ∃ e : Rat, 0 < e ∧ ∀ N, ∃ n, N ≤ n ∧ ¬ (-e < f n ∧ f n < e) := by
      refine Classical.byContradiction fun hc => h fun e he => ?_
      refine Classical.byContradiction fun hd => hc ⟨e, he, fun N => ?_⟩
      refine Classical.byContradiction fun hx => hd ⟨N, fun n hn => ?_⟩
      exact Classical.byContradiction fun hy => hx ⟨n, hn, hy⟩
    obtain ⟨e, he, hb⟩ := this
    obtain ⟨N, hN⟩ := hf _ (half_pos he)
    obtain ⟨n, hn, hx⟩ := hb N
    by_cases hs : e ≤ f n
    · left
      refine ⟨e / 4, by grind, N, fun m hm => ?_⟩
      have a := hN n m hn hm
      grind
    · right
      refine ⟨e / 4, by grind, N, fun m hm => ?_⟩
      have a := hN m n hm hn
      have : f n ≤ -e := by grind
      show e / 4 < - f m
      grind
end Go.Proofs.Ytogchohpnbeldaa.Rs
