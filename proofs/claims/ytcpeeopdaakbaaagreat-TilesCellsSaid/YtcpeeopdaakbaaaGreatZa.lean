/- The normal word of a word: its letters, its pieces, the words beside it. -/
import Derived.Test.YtcpeeopdaakbaaaGreatYW
namespace Go.Proofs.YtcpeeopdaakbaaaGreat
open Go.RowKit Go.Shelf Cx

theorem bytesN_str {l : List Nat} (h : ∀ y ∈ l, y < 256) : bytesN (str l) = l := by
  unfold bytesN str
  simp only [List.map_map]
  conv => rhs; rw [← List.map_id l]
  refine List.map_congr_left fun y hy => ?_
  have := h y hy
  simp [Nat.mod_eq_of_lt this]

theorem str_inj {l k : List Nat} (hl : ∀ y ∈ l, y < 256) (hk : ∀ y ∈ k, y < 256) (h : str l = str k) : l = k := by
  rw [← bytesN_str hl, ← bytesN_str hk, h]

theorem low256 {l : List Nat} (h : ∀ y ∈ l, y < 3) : ∀ y ∈ l, y < 256 := fun y hy => Nat.lt_trans (h y hy) (by omega)

theorem str_take (l : List Nat) (k : Nat) : (str l).extract 0 k = str (l.take k) := by
  unfold str
  rw [ByteArray.extract_mk, List.drop_zero, Nat.sub_zero, List.map_take]
theorem str_drop (l : List Nat) (k : Nat) : (str l).extract k (str l).size = str (l.drop k) := by
  rw [str_size]
  unfold str
  rw [ByteArray.extract_mk, List.map_drop, List.take_of_length_le (by simp)]

theorem check_str {l : List Nat} (h : ∀ y ∈ l, y < 3) (hl : l.length ≤ 60) : checkS (str l) = 0 := by
  unfold checkS
  rw [bytesN_str (low256 h), if_pos (List.all_eq_true.2 fun y hy => by simpa using h y hy), if_neg (by rw [str_size]; omega)]

/-- the letters below 3 -/
def lowL (l : List Nat) : List Nat := l.filter (· < 3)
theorem lowL_append (l k : List Nat) : lowL (l ++ k) = lowL l ++ lowL k := by simp [lowL]
theorem lowL_self {l : List Nat} (h : ∀ y ∈ l, y < 3) : lowL l = l := by
  unfold lowL
  exact List.filter_eq_self.2 fun y hy => by simpa using h y hy
theorem Mo_high {a b c i j : Nat} (h : 3 ≤ i ∨ 3 ≤ j) : Mo a b c i j = 0 := by
  rcases i with _ | _ | _ | i <;> rcases j with _ | _ | _ | j <;> first | rfl | (exfalso; omega)

theorem lowL_step {a b c : Nat} {u v : List Nat} (h : Step (Mo a b c) u v) : (mk (lowL u) : G (Mo a b c)) = mk (lowL v) := by
  cases h with
  | sq u v i =>
    by_cases hi : i < 3
    · have : lowL (i :: i :: v) = i :: i :: lowL v := by simp [lowL, hi]
      rw [lowL_append, lowL_append, this]
      exact mk_sq _ _ _
    · have : lowL (i :: i :: v) = lowL v := by simp [lowL, hi]
      rw [lowL_append, lowL_append, this]
  | br u v i j =>
    by_cases hi : i < 3 ∧ j < 3
    · rw [lowL_append, lowL_append, lowL_append, lowL_append, lowL_self (alt_low hi.1 hi.2 _), lowL_self (alt_low hi.2 hi.1 _)]
      exact mk_br _ _ _ _
    · rw [Mo_high (by omega)]
      rfl

theorem lowL_same {a b c : Nat} {u v : List Nat} (h : (mk u : G (Mo a b c)) = mk v) : (mk (lowL u) : G (Mo a b c)) = mk (lowL v) :=
  congrArg (Quot.lift (fun u => (mk (lowL u) : G (Mo a b c))) (fun _ _ h => lowL_step h)) h

theorem red_low {a b c : Nat} {u v : List Nat} (h : (mk u : G (Mo a b c)) = mk v) (hv : ∀ y ∈ v, y < 3) (hr : Red (Mo a b c) u) : ∀ y ∈ u, y < 3 := by
  have h1 := lowL_same h
  rw [lowL_self hv, ← h] at h1
  have h2 := hr _ h1
  have h3 : lowL u = u := by
    unfold lowL at h2 ⊢
    exact List.filter_sublist.eq_of_length_le h2
  intro y hy
  rw [← h3] at hy
  have := (List.mem_filter.1 hy).2
  simpa using this

structure Nrm (a b c : Nat) (s : ByteArray) (N : List Nat) : Prop where
  greedy : Greedy (Mo a b c) N
  same : (mk N : G (Mo a b c)) = mk (bytesN s)
  low : ∀ y ∈ N, y < 3
  len : N.length ≤ s.size
  odd : N.length % 2 = s.size % 2

theorem nrm {a b c : Nat} {s : ByteArray} (hs : checkS s = 0) : Nrm a b c s (nfW a b c [s]) := by
  have hc : cat [s] = bytesN s := by simp [cat]
  unfold nfW
  rw [hc]
  have h1 := nf_greedy (mk (bytesN s) : G (Mo a b c))
  have h2 := mk_nf (mk (bytesN s) : G (Mo a b c))
  refine ⟨h1, h2, red_low h2 (checkS_low hs).1 h1.red, ?_, ?_⟩
  · rw [← bytesN_length]; exact h1.red _ h2.symm
  · rw [← bytesN_length]; exact len_parity h2

theorem nfW_of {a b c : Nat} {l : List Nat} (hg : Greedy (Mo a b c) l) (hl : ∀ y ∈ l, y < 3) : nfW a b c [str l] = l := by
  have hc : cat [str l] = l := by simp [cat, bytesN_str (low256 hl)]
  unfold nfW
  rw [hc, nf_eq hg]

theorem ahead_less : ∀ {l k : List Nat}, Ahead l k → l.length = k.length → (∀ y ∈ l, y < 256) → (∀ y ∈ k, y < 256) → Op.bytesLess (k.map UInt8.ofNat) (l.map UInt8.ofNat) = false := by
  intro l
  induction l with
  | nil => intro k _ h _ _; cases k with
    | nil => rfl
    | cons => simp at h
  | cons x l ih =>
    intro k h hl h1 h2
    cases k with
    | nil => simp at hl
    | cons y k =>
      have hx := h1 x (List.mem_cons_self)
      have hy := h2 y (List.mem_cons_self)
      rw [List.map_cons, List.map_cons, Op.bytesLess]
      have e1 : UInt8.ofNat y < UInt8.ofNat x ↔ y < x := by
        rw [UInt8.lt_iff_toNat_lt]; simp [Nat.mod_eq_of_lt hx, Nat.mod_eq_of_lt hy]
      rcases h with h | ⟨h, h'⟩
      · have n1 : ¬ UInt8.ofNat y < UInt8.ofNat x := by rw [e1]; omega
        have n2 : ¬ UInt8.ofNat y = UInt8.ofNat x := by
          intro e
          have := congrArg UInt8.toNat e
          simp [Nat.mod_eq_of_lt hx, Nat.mod_eq_of_lt hy] at this
          omega
        simp [n1, n2]
      · subst h
        have n1 : ¬ UInt8.ofNat x < UInt8.ofNat x := by rw [e1]; omega
        have := ih h' (by simpa using hl) (fun y hy => h1 y (List.mem_cons_of_mem _ hy)) (fun y hy => h2 y (List.mem_cons_of_mem _ hy))
        simp [n1, this]

theorem toList_str (l : List Nat) : (str l).toList = l.map UInt8.ofNat := by
  rw [ByteArray.toList_eq]; simp [str]
theorem toList_bytes (s : ByteArray) : s.toList = (bytesN s).map UInt8.ofNat := by
  rw [ByteArray.toList_eq]
  unfold bytesN
  rw [List.map_map]
  conv => lhs; rw [← List.map_id s.data.toList]
  exact List.map_congr_left fun y _ => by simp

/-- of words that lead to the same tile -/
theorem nrm_ahead {a b c : Nat} {s v : ByteArray} (hs : checkS s = 0) (h : nfW a b c [s] = nfW a b c [v]) :
    (str (nfW a b c [s])).size < v.size ∨ (v.size = (str (nfW a b c [s])).size ∧ Op.bytesLess v.toList (str (nfW a b c [s])).toList = false) := by
  have hn := nrm (a := a) (b := b) (c := c) hs
  have hm : (mk (bytesN v) : G (Mo a b c)) = mk (nfW a b c [s]) := by
    rw [h]; unfold nfW; rw [mk_nf]; simp [cat]
  rw [str_size]
  have h1 := hn.greedy.red _ hm
  rw [bytesN_length] at h1
  rcases Nat.lt_or_ge (nfW a b c [s]).length v.size with h2 | h2
  · exact .inl h2
  · refine .inr ⟨by omega, ?_⟩
    rw [toList_str, toList_bytes]
    have hl : (bytesN v).length = (nfW a b c [s]).length := by rw [bytesN_length]; omega
    exact ahead_less (hn.greedy.ahead hm hl) hl.symm (low256 hn.low) (bytesN_lt v)

theorem eqB_iff {s t : ByteArray} : eqB s t = true ↔ s = t := by
  unfold eqB
  rw [beq_iff_eq, ByteArray.toList_eq, ByteArray.toList_eq]
  constructor
  · intro h; exact ByteArray.ext (Array.ext' h)
  · intro h; rw [h]

end Go.Proofs.YtcpeeopdaakbaaaGreat
