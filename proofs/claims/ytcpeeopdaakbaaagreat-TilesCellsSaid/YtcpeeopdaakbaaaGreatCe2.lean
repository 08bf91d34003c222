/- Corners, sides and tiles of the rings: a disc. -/
import Derived.Test.YtcpeeopdaakbaaaGreatDiA
import Derived.Test.YtcpeeopdaakbaaaGreatCtA
namespace Go.Proofs.YtcpeeopdaakbaaaGreat
set_option linter.unusedVariables false
set_option linter.unusedSimpArgs false
set_option linter.unusedSectionVars false
open Go.RowKit Go.Shelf Cx
open Classical

/-- each corner has a first tile -/
theorem foot_exists {a b c m : Nat} (hm : m < 3) (x : G (Mo a b c)) : ∃ f, Foot (Mo a b c) (sideA m) (sideB m) x f := by
  obtain ⟨n, hn⟩ : ∃ n, ln x = n := ⟨_, rfl⟩
  induction n using Nat.strongRecOn generalizing x with
  | ind n ih =>
    by_cases h1 : Dr x (sideA m)
    · have hl := ln_down h1
      obtain ⟨f, hf⟩ := ih (ln (x * mk [sideA m])) (by omega) (x * mk [sideA m]) rfl
      exact ⟨f, foot_step hf (w := [sideA m]) (fun z hz => .inl (List.mem_singleton.1 hz)) rfl⟩
    · by_cases h2 : Dr x (sideB m)
      · have hl := ln_down h2
        obtain ⟨f, hf⟩ := ih (ln (x * mk [sideB m])) (by omega) (x * mk [sideB m]) rfl
        exact ⟨f, foot_step hf (w := [sideB m]) (fun z hz => .inr (List.mem_singleton.1 hz)) rfl⟩
      · exact ⟨x, foot_self h1 h2⟩
theorem foot_low {a b c m : Nat} (hm : m < 3) {x f : G (Mo a b c)} (h : Foot (Mo a b c) (sideA m) (sideB m) x f) (hx : Low x) : Low f := by
  obtain ⟨w, hw, he⟩ := h.way
  have e : f = x * mk w.reverse := by rw [he, mk_rev]
  have h3 : sideA m < 3 ∧ sideB m < 3 := by unfold sideA sideB; constructor <;> split <;> omega
  refine red_low (u := nf f) (v := nf x ++ w.reverse) ?_ ?_ (nf_greedy _).red
  · rw [mk_nf, e, ← mk_mul, mk_nf]
  · intro y hy
    rcases List.mem_append.1 hy with h | h
    · exact hx y h
    · rcases hw y (List.mem_reverse.1 h) with rfl | rfl
      · exact h3.1
      · exact h3.2

theorem keysS_mem {a b c : Nat} (x : G (Mo a b c)) (ks : List (ByteArray × ByteArray)) (k : ByteArray × ByteArray) : ∀ j, k ∈ keysS x ks j ↔ k ∈ ks ∨ ∃ m, m < j ∧ ordC a b c m ≠ 0 ∧ k = keyT m x
  | 0 => by
    constructor
    · intro h; exact .inl h
    · rintro (h | ⟨m, h, _⟩)
      · exact h
      · omega
  | j + 1 => by
    have ih := keysS_mem x ks k j
    by_cases h0 : ordC a b c j = 0
    · rw [keysS_zero h0, ih]
      constructor
      · rintro (h | ⟨m, h1, h2⟩)
        · exact .inl h
        · exact .inr ⟨m, by omega, h2⟩
      · rintro (h | ⟨m, h1, h2, h3⟩)
        · exact .inl h
        · have : m ≠ j := by rintro rfl; exact h2 h0
          exact .inr ⟨m, by omega, h2, h3⟩
    · rw [keysS_more h0, insK_mem, ih]
      constructor
      · rintro ((h | ⟨m, h1, h2⟩) | h)
        · exact .inl h
        · exact .inr ⟨m, by omega, h2⟩
        · exact .inr ⟨j, by omega, h0, h⟩
      · rintro (h | ⟨m, h1, h2, h3⟩)
        · exact .inl (.inl h)
        · rcases Nat.lt_or_ge m j with h | h
          · exact .inl (.inr ⟨m, h, h2, h3⟩)
          · obtain rfl : m = j := by omega
            exact .inr h3
theorem keysS_nodup {a b c : Nat} (x : G (Mo a b c)) {ks : List (ByteArray × ByteArray)} (h : ks.Nodup) : ∀ j, (keysS x ks j).Nodup
  | 0 => h
  | j + 1 => by
    by_cases h0 : ordC a b c j = 0
    · rw [keysS_zero h0]; exact keysS_nodup x h j
    · rw [keysS_more h0]; exact insK_nodup (keysS_nodup x h j)
theorem kS_spec (a b c : Nat) : ∀ (L : List (List Nat)) (ks : List (ByteArray × ByteArray)), ks.Nodup →
    (L.foldl (fun ks t => keysS (mk t : G (Mo a b c)) ks 3) ks).Nodup ∧ ∀ k, k ∈ L.foldl (fun ks t => keysS (mk t : G (Mo a b c)) ks 3) ks ↔ k ∈ ks ∨ ∃ t ∈ L, ∃ m, m < 3 ∧ ordC a b c m ≠ 0 ∧ k = keyT m (mk t : G (Mo a b c))
  | [], ks, h => ⟨h, fun k => by simp⟩
  | t :: L, ks, h => by
    obtain ⟨h1, h2⟩ := kS_spec a b c L (keysS (mk t : G (Mo a b c)) ks 3) (keysS_nodup _ h 3)
    refine ⟨h1, fun k => ?_⟩
    rw [List.foldl_cons, h2, keysS_mem]
    constructor
    · rintro ((h | ⟨m, h⟩) | ⟨u, hu, h⟩)
      · exact .inl h
      · exact .inr ⟨t, by simp, m, h⟩
      · exact .inr ⟨u, by simp [hu], h⟩
    · rintro (h | ⟨u, hu, h⟩)
      · exact .inl (.inl h)
      · rcases List.mem_cons.1 hu with rfl | hu
        · exact .inl (.inr h)
        · exact .inr ⟨u, hu, h⟩
/-- is a tile the first one around its corner opposite to a mirror? -/
def Own (a b c : Nat) (x : G (Mo a b c)) (m : Nat) : Prop := ordC a b c m ≠ 0 ∧ ¬ Dr x (sideA m) ∧ ¬ Dr x (sideB m)
noncomputable def ownL (a b c : Nat) (t : List Nat) : List Nat := [0, 1, 2].filter fun m => decide (Own a b c (mk t : G (Mo a b c)) m)
noncomputable def cS (a b c : Nat) (L : List (List Nat)) : Nat := (L.map fun t => (ownL a b c t).length).sum

theorem tiles_mem {M : Nat → Nat → Nat} {n : Nat} {t : List Nat} : t ∈ tilesTo M n ↔ nf (mk t : G M) = t ∧ t.length < n ∧ ∀ y ∈ t, y < 3 := by
  unfold tilesTo
  rw [List.mem_flatMap]
  constructor
  · rintro ⟨k, hk, ht⟩
    obtain ⟨h1, h2, h3⟩ := (ring_mem k t).1 ht
    exact ⟨h1, by rw [List.mem_range] at hk; omega, h3⟩
  · rintro ⟨h1, h2, h3⟩
    exact ⟨t.length, List.mem_range.2 h2, (ring_mem _ t).2 ⟨h1, rfl, h3⟩⟩
theorem tiles_nodup (M : Nat → Nat → Nat) : ∀ n, (tilesTo M n).Nodup
  | 0 => by simp [tilesTo]
  | n + 1 => by
    rw [tilesTo_succ, List.nodup_append]
    refine ⟨tiles_nodup M n, ring_nodup n, fun u hu v hv e => ?_⟩
    subst e
    have h1 := (tiles_mem.1 hu).2.1
    have h2 := ((ring_mem n u).1 hv).2.1
    omega

theorem ownL_low {a b c : Nat} {t : List Nat} {m : Nat} (h : m ∈ ownL a b c t) : m < 3 ∧ Own a b c (mk t : G (Mo a b c)) m := by
  unfold ownL at h
  rw [List.mem_filter] at h
  obtain ⟨h1, h2⟩ := h
  refine ⟨?_, by simpa using h2⟩
  simp only [List.mem_cons, List.not_mem_nil, or_false] at h1
  omega
theorem ownL_mem {a b c : Nat} {t : List Nat} {m : Nat} (hm : m < 3) (h : Own a b c (mk t : G (Mo a b c)) m) : m ∈ ownL a b c t := by
  unfold ownL
  rw [List.mem_filter]
  refine ⟨?_, by simpa using h⟩
  have : m = 0 ∨ m = 1 ∨ m = 2 := by omega
  rcases this with rfl | rfl | rfl <;> simp
theorem ownL_nodup (a b c : Nat) (t : List Nat) : (ownL a b c t).Nodup := List.Nodup.sublist List.filter_sublist (by decide)
noncomputable def cellL (a b c : Nat) (L : List (List Nat)) : List (ByteArray × ByteArray) := L.flatMap fun t => (ownL a b c t).map fun m => (str t, str [m])
theorem cellL_length (a b c : Nat) (L : List (List Nat)) : (cellL a b c L).length = cS a b c L := by
  unfold cellL cS
  rw [List.length_flatMap]
  simp
theorem cellL_mem {a b c : Nat} {L : List (List Nat)} {k : ByteArray × ByteArray} : k ∈ cellL a b c L ↔ ∃ t ∈ L, ∃ m ∈ ownL a b c t, k = (str t, str [m]) := by
  unfold cellL
  rw [List.mem_flatMap]
  constructor
  · rintro ⟨t, ht, hk⟩
    obtain ⟨m, hm, rfl⟩ := List.mem_map.1 hk
    exact ⟨t, ht, m, hm, rfl⟩
  · rintro ⟨t, ht, m, hm, rfl⟩
    exact ⟨t, ht, List.mem_map.2 ⟨m, hm, rfl⟩⟩
theorem cellL_nodup (a b c : Nat) : ∀ L : List (List Nat), L.Nodup → (∀ t ∈ L, ∀ y ∈ t, y < 3) → (cellL a b c L).Nodup
  | [], _, _ => by simp [cellL]
  | t :: L, h, hl => by
    have hn := List.nodup_cons.1 h
    have ih := cellL_nodup a b c L hn.2 (fun u hu => hl u (List.mem_cons_of_mem _ hu))
    have e : cellL a b c (t :: L) = ((ownL a b c t).map fun m => (str t, str [m])) ++ cellL a b c L := rfl
    rw [e, List.nodup_append]
    refine ⟨?_, ih, ?_⟩
    · refine List.Pairwise.map _ (fun x y hxy hs => ?_) (List.Pairwise.imp_of_mem (R := fun x y => x ≠ y) (S := fun x y => x < 3 ∧ y < 3 ∧ x ≠ y) (fun hx hy h => ⟨(ownL_low hx).1, (ownL_low hy).1, h⟩) (ownL_nodup a b c t))
      obtain ⟨h1, h2, h3⟩ := hxy
      have := str_inj (l := [x]) (k := [y]) (by intro z hz; simp at hz; omega) (by intro z hz; simp at hz; omega) (Prod.mk.inj hs).2
      exact h3 (by simpa using this)
    · intro k hk k' hk' he
      subst he
      obtain ⟨m, _, rfl⟩ := List.mem_map.1 hk
      obtain ⟨u, hu, m', _, hE⟩ := cellL_mem.1 hk'
      have := str_inj (low256 (hl t List.mem_cons_self)) (low256 (hl u (List.mem_cons_of_mem _ hu))) (Prod.mk.inj hE).1
      exact hn.1 (this ▸ hu)

/-- the corners are counted by their first tiles -/
theorem kS_count {a b c : Nat} (hg : Good a b c) (n : Nat) : (kS a b c (tilesTo (Mo a b c) n)).length = cS a b c (tilesTo (Mo a b c) n) := by
  obtain ⟨h1, h2⟩ := kS_spec a b c (tilesTo (Mo a b c) n) [] (by simp)
  rw [← cellL_length]
  have hlow : ∀ t ∈ tilesTo (Mo a b c) n, ∀ y ∈ t, y < 3 := fun t ht => (tiles_mem.1 ht).2.2
  refine ((List.perm_ext_iff_of_nodup h1 (cellL_nodup a b c _ (tiles_nodup _ n) hlow)).2 fun k => ?_).length_eq
  rw [h2, cellL_mem]
  constructor
  · rintro (h | ⟨t, ht, m, hm, h0, rfl⟩)
    · cases h
    · obtain ⟨e1, e2, e3⟩ := tiles_mem.1 ht
      have hx : Low (mk t : G (Mo a b c)) := by intro y hy; rw [e1] at hy; exact e3 y hy
      obtain ⟨f, hf⟩ := foot_exists hm (mk t : G (Mo a b c))
      have hM := Mo_ords hg.1 hg.2 hg.3
      have hnear := (foot_near hM (side_ne hm) (by rw [← ordC_eq a b c hm]; exact h0) hf (w := []) (fun _ hz => by cases hz) (mul_one _).symm).1
      have hfl := foot_low hm hf hx
      have hlt : (nf f).length < n := by
        have h3 : ln (mk t : G (Mo a b c)) = t.length := by unfold ln; rw [e1]
        have h4 : ln f = (nf f).length := rfl
        omega
      refine ⟨nf f, tiles_mem.2 ⟨by rw [mk_nf], hlt, hfl⟩, m, ownL_mem hm ⟨h0, by rw [mk_nf]; exact hf.no1, by rw [mk_nf]; exact hf.no2⟩, ?_⟩
      unfold keyT
      rw [footN_eq hg hm h0 hf]
      rfl
  · rintro ⟨t, ht, m, hm, rfl⟩
    obtain ⟨e1, e2, e3⟩ := tiles_mem.1 ht
    obtain ⟨hm3, h0, hA, hB⟩ := ownL_low hm
    refine .inr ⟨t, ht, m, hm3, h0, ?_⟩
    unfold keyT
    rw [footN_eq hg hm3 h0 (foot_self hA hB)]
    unfold tile
    rw [e1]
end Go.Proofs.YtcpeeopdaakbaaaGreat
