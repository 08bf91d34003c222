/- Corners, sides and tiles: their alternating sum. -/
import Derived.Test.YtcpeeopdaakbaaaGreatCe2
import Derived.Test.YtcpeeopdaakbaaaGreatTr0
namespace Go.Proofs.YtcpeeopdaakbaaaGreat
set_option linter.unusedVariables false
set_option linter.unusedSimpArgs false
set_option linter.unusedSectionVars false
open Go.RowKit Go.Shelf Cx
open Classical

/-- of one tile -/
theorem one_tile {a b c : Nat} (hg : Good a b c) (ha : a ≠ 0) (hb : b ≠ 0) (hc : c ≠ 0) {t : List Nat} (h1 : nf (mk t : G (Mo a b c)) = t) (h3 : ∀ y ∈ t, y < 3) :
    (ownL a b c t).length + 1 = upS (mk t : G (Mo a b c)) 3 + if t = [] then 1 else 0 := by
  have hx : Low (mk t : G (Mo a b c)) := by intro y hy; rw [h1] at hy; exact h3 y hy
  have hno := no_three hg _ hx
  have hsome : t ≠ [] → Dr (mk t : G (Mo a b c)) 0 ∨ Dr (mk t : G (Mo a b c)) 1 ∨ Dr (mk t : G (Mo a b c)) 2 := fun ht => some_back _ hx (fun e => ht (by rw [← h1, e, nf_nil]))
  have hnil : t = [] → ∀ s, ¬ Dr (mk t : G (Mo a b c)) s := fun ht s => by rw [ht]; exact not_dr_one s
  have hq : t = [] → ¬ Dr (mk t : G (Mo a b c)) 0 ∧ ¬ Dr (mk t : G (Mo a b c)) 1 ∧ ¬ Dr (mk t : G (Mo a b c)) 2 := fun ht => ⟨hnil ht 0, hnil ht 1, hnil ht 2⟩
  have o0 : Own a b c (mk t : G (Mo a b c)) 0 ↔ ¬ Dr (mk t : G (Mo a b c)) 1 ∧ ¬ Dr (mk t : G (Mo a b c)) 2 := ⟨fun h => h.2, fun h => ⟨hb, h⟩⟩
  have o1 : Own a b c (mk t : G (Mo a b c)) 1 ↔ ¬ Dr (mk t : G (Mo a b c)) 0 ∧ ¬ Dr (mk t : G (Mo a b c)) 2 := ⟨fun h => h.2, fun h => ⟨hc, h⟩⟩
  have o2 : Own a b c (mk t : G (Mo a b c)) 2 ↔ ¬ Dr (mk t : G (Mo a b c)) 0 ∧ ¬ Dr (mk t : G (Mo a b c)) 1 := ⟨fun h => h.2, fun h => ⟨ha, h⟩⟩
  have hu : upS (mk t : G (Mo a b c)) 3 = (((0 + if Dr (mk t : G (Mo a b c)) 0 then 0 else 1) + if Dr (mk t : G (Mo a b c)) 1 then 0 else 1) + if Dr (mk t : G (Mo a b c)) 2 then 0 else 1) := rfl
  clear hnil
  rw [hu]
  unfold ownL
  generalize Dr (mk t : G (Mo a b c)) 0 = p0 at *
  generalize Dr (mk t : G (Mo a b c)) 1 = p1 at *
  generalize Dr (mk t : G (Mo a b c)) 2 = p2 at *
  simp only [List.filter_cons, List.filter_nil, decide_eq_true_eq, o0, o1, o2]
  by_cases ht : t = []
  · rw [if_pos ht]
    by_cases d0 : p0
    · exact ((hq ht).1 d0).elim
    · by_cases d1 : p1
      · exact ((hq ht).2.1 d1).elim
      · by_cases d2 : p2
        · exact ((hq ht).2.2 d2).elim
        · simp [d0, d1, d2]
  · have h := hsome ht
    rw [if_neg ht]
    by_cases d0 : p0
    · by_cases d1 : p1
      · by_cases d2 : p2
        · exact (hno ⟨d0, d1, d2⟩).elim
        · simp [d0, d1, d2]
      · by_cases d2 : p2 <;> simp [d0, d1, d2]
    · by_cases d1 : p1
      · by_cases d2 : p2 <;> simp [d0, d1, d2]
      · by_cases d2 : p2
        · simp [d0, d1, d2]
        · rcases h with h | h | h
          · exact (d0 h).elim
          · exact (d1 h).elim
          · exact (d2 h).elim
theorem sum_tiles {a b c : Nat} (hg : Good a b c) (ha : a ≠ 0) (hb : b ≠ 0) (hc : c ≠ 0) : ∀ L : List (List Nat), (∀ t ∈ L, nf (mk t : G (Mo a b c)) = t ∧ ∀ y ∈ t, y < 3) → cS a b c L + L.length = eS a b c L + L.count []
  | [], _ => rfl
  | t :: L, h => by
    have ih := sum_tiles hg ha hb hc L (fun u hu => h u (List.mem_cons_of_mem _ hu))
    have h1 := one_tile hg ha hb hc (h t List.mem_cons_self).1 (h t List.mem_cons_self).2
    have e1 : cS a b c (t :: L) = (ownL a b c t).length + cS a b c L := by simp [cS]
    have e2 : eS a b c (t :: L) = upS (mk t : G (Mo a b c)) 3 + eS a b c L := by simp [eS]
    rw [e1, e2, List.count_cons, List.length_cons]
    by_cases ht : t = []
    · rw [if_pos ht] at h1
      have : (t == []) = true := by simp [ht]
      rw [this]
      simp only [if_true]
      omega
    · rw [if_neg ht] at h1
      have : (t == []) = false := by simp [ht]
      rw [this]
      simp only [Bool.false_eq_true, if_false]
      omega
/-- without ideal corners the rings make a disc -/
theorem disc_one {a b c : Nat} (hg : Good a b c) (ha : a ≠ 0) (hb : b ≠ 0) (hc : c ≠ 0) (n : Nat) :
    (kS a b c (tilesTo (Mo a b c) (n + 1))).length + (tilesTo (Mo a b c) (n + 1)).length = eS a b c (tilesTo (Mo a b c) (n + 1)) + 1 := by
  rw [kS_count hg, sum_tiles hg ha hb hc _ (fun t ht => ⟨(tiles_mem.1 ht).1, (tiles_mem.1 ht).2.2⟩)]
  congr 1
  have hm : ([] : List Nat) ∈ tilesTo (Mo a b c) (n + 1) := tiles_mem.2 ⟨nf_nil, by simp, fun y hy => by cases hy⟩
  have h1 := List.nodup_iff_count.1 (tiles_nodup (Mo a b c) (n + 1)) []
  have h2 := List.count_pos_iff.2 hm
  omega
end Go.Proofs.YtcpeeopdaakbaaaGreat
