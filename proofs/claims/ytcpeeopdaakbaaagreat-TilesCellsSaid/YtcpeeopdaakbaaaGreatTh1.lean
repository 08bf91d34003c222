/- A coefficient of a power series. -/
import Derived.Test.YtcpeeopdaakbaaaGreatTaA
import Derived.StillTailTactics
namespace Go.Proofs.YtcpeeopdaakbaaaGreat
open Go.RowKit Go.Shelf Cx

/-- less at a place -/
def subK (wr : Int → Int) (l : List Int) (i : Nat) (x : Int) : List Int := l.set i (wr (l.getD i 0 - x))
theorem subK_length (wr : Int → Int) (l : List Int) (i : Nat) (x : Int) : (subK wr l i x).length = l.length := by simp [subK]
/-- the k-th coefficient, less those of m summands -/
def innerS (wr : Int → Int) (den : List Int) (k : Nat) (l : List Int) : Nat → List Int
  | 0 => l
  | m + 1 => subK wr (innerS wr den k l m) k (wr (den.getD (m + 1) 0 * (innerS wr den k l m).getD (k - (m + 1)) 0))
theorem innerS_length (wr : Int → Int) (den : List Int) (k : Nat) (l : List Int) : ∀ m, (innerS wr den k l m).length = l.length
  | 0 => rfl
  | m + 1 => (subK_length _ _ _ _).trans (innerS_length wr den k l m)
/-- the first k coefficients are done -/
def coefS (wr : Int → Int) (l : List Int) (den : List Int) : Nat → List Int
  | 0 => l
  | k + 1 => innerS wr den k (coefS wr l den k) (min k (den.length - 1))
theorem coefS_length (wr : Int → Int) (l : List Int) (den : List Int) : ∀ k, (coefS wr l den k).length = l.length
  | 0 => rfl
  | k + 1 => (innerS_length _ _ _ _ _).trans (coefS_length wr l den k)
/-- the numerator, in a row of N -/
def startS (num : List Int) (N : Nat) : List Int := num.take N ++ List.replicate (N - num.length) 0
theorem startS_length (num : List Int) (N : Nat) : (startS num N).length = N := by unfold startS; simp; omega

theorem startS_splice (k : IntKind) (a : List Int) (N : Nat) : splice (cellsK k (List.replicate N 0)) 0 (cellsK k (a.take N)) = cellsK k (startS a N) := by
  unfold splice startS cellsK
  simp
  omega

theorem min2_run (m n : Nat) (h : 1 ≤ n) (w : World) : (Builtin.min_ #[3, 3] 3 #[.int .i64 m, .int .i64 ((n : Int) - 1)]).run Tryz.prog w = .ok (.int .i64 ((min m (n - 1) : Nat) : Int)) w := by
  simp [Builtin.min_, Builtin.min2]
  split <;> omega

set_option maxRecDepth 100000 in
set_option maxHeartbeats 8000000 in
theorem coefficient_u64 (num den : List Int) (pa po pc qa qo qc n : Nat) (w : World) (hp : RowK .u64 w pa po num) (hq : RowK .u64 w qa qo den) (lq : 0 < den.length) (mq : den.length ≤ 100000) (mn : n ≤ 100000) :
    Calls Tryz.prog 119 #[.agg #[.slice (some ⟨pa, po, none⟩) num.length pc, .slice (some ⟨qa, qo, none⟩) den.length qc], .int .i64 n] w fun e w' =>
      e = .returned (.int .u64 ((coefS (IntKind.wrap .u64) (startS num (n + 1)) den (n + 1)).getD n 0)) ∧ Below w.heap.size w w' := by
  have hmk := make_u64 (n + 1) (by omega)
  have hc : ((n + 1 : Nat) : Int) = (n : Int) + 1 := by omega
  rw [hc] at hmk
  have hb0 := (Below.refl w.heap.size w).alloc (Nat.le_refl _) (.cells #[.slice (some ⟨pa, po, none⟩) num.length pc, .slice (some ⟨qa, qo, none⟩) den.length qc] 178)
  have hf := SBlk.new w 178 [.slice (some ⟨pa, po, none⟩) num.length pc, .slice (some ⟨qa, qo, none⟩) den.length qc]
  have hsz : (w.alloc (.cells #[.slice (some ⟨pa, po, none⟩) num.length pc, .slice (some ⟨qa, qo, none⟩) den.length qc] 178)).heap.size = w.heap.size + 1 := by simp
  have hf0 := hf.cell 0
  have hf1 := hf.cell 1
  simp only [List.getElem?_cons_zero, List.getElem?_cons_succ] at hf0 hf1
  have hp1 := hp.below hb0
  have hq1 := hq.below hb0
  obtain ⟨W0, hW0⟩ : ∃ z, (w.alloc (.cells #[.slice (some ⟨pa, po, none⟩) num.length pc, .slice (some ⟨qa, qo, none⟩) den.length qc] 178)) = z := ⟨_, rfl⟩
  have hst : (W0.alloc (.cells (cellsK .u64 (List.replicate (n + 1) 0)).toArray 38)).heap[w.heap.size + 1]? = some (.cells (cellsK .u64 (List.replicate (n + 1) 0)).toArray 38 (0, 0)) := SBlk.new' W0 38 (cellsK .u64 (List.replicate (n + 1) 0)) (w.heap.size + 1) (by rw [← hW0]; exact hsz)
  have hbl := (Below.refl (w.heap.size + 1) W0).alloc (by rw [← hW0, hsz]; exact Nat.le_refl _) (.cells (cellsK .u64 (List.replicate (n + 1) 0)).toArray 38)
  have hW := hW0
  rw [hW0] at hb0 hf hsz hp1 hq1
  rw [← hW0] at hst hbl
  have H := Lib.hid (And.intro (And.intro hb0 hsz) (And.intro hp1 (And.intro hq1 hf)))
  have HW := Lib.hid (And.intro hst hbl)
  have HE := Lib.hid hW
  clear hp hq hp1 hq1 hb0 hf hst hbl hsz hc hW hW0
  go_enter Tryz.func119, Tryz.ntmps119
  go_wp2_with (with_reducible refine wpList_copy_splice rfl (.tmp 11) (.tmp 13) 39 39 rfl 38 Tryz.underlying39 size_u64 (some ⟨w.heap.size + 1, 0, none⟩) (some ⟨pa, po, none⟩) (n + 1) (n + 1) num.length pc rfl rfl (w.heap.size + 1) 0 (cellsK .u64 (List.replicate (n + 1) 0)) 38 HW.out.1 (cellsK .u64 (num.take (n + 1))) ?_ ?_ ?_ ?_ (w.heap.size + 1) _ HW.out.2 (Nat.le_refl _) ?_)
  · rw [cellsK_length, List.length_take]; show min _ _ = min _ _; omega
  · intro _ j v hv
    have hj : j < (num.take (n + 1)).length := by
      rcases Nat.lt_or_ge j (num.take (n + 1)).length with h | h
      · exact h
      · rw [List.getElem?_eq_none (by rw [cellsK_length]; exact h)] at hv; cases hv
    have hj2 : j < num.length := by rw [List.length_take] at hj; omega
    have hrow : RowK .u64 (w.alloc (.cells #[.slice (some ⟨pa, po, none⟩) num.length pc, .slice (some ⟨qa, qo, none⟩) den.length qc] 178)) pa po num := by
      have := H.out.2.1
      rw [← HE.out] at this
      exact this
    have h1 := (hrow.below (HW.out.2.mono (by simp))).cell j hj2
    rw [cellsK_get .u64 hj] at hv
    rw [← hv]
    have e : (num.take (n + 1)).getD j 0 = num.getD j 0 := by
      rw [List.getD_eq_getElem?_getD, List.getD_eq_getElem?_getD, List.getElem?_take]
      rw [List.length_take] at hj
      rw [if_pos (by omega)]
    rw [e]
    exact h1
  · rw [cellsK_length, cellsK_length, List.length_replicate, List.length_take]; omega
  · intro v hv
    unfold cellsK at hv
    obtain ⟨x, _, rfl⟩ := List.mem_map.1 hv
    rfl
  intro w4 hg4 hb4
  have hg5 : SBlk w4 (w.heap.size + 1) 38 (cellsK .u64 (startS num (n + 1))) := by
    have := hg4.out
    rw [startS_splice] at this
    exact this
  rw [HE.out] at hb4
  have HS := Lib.hid (And.intro hg5 hb4)
  have hcl := coefS_length (IntKind.wrap .u64) (startS num (n + 1)) den
  have hil := fun k l m => innerS_length (IntKind.wrap .u64) den k l m
  rw [startS_length] at hcl
  have HL := Lib.hid (And.intro hcl hil)
  clear hg5 hb4 hg4 hmk hf0 hf1 hcl hil HW
  obtain ⟨rb, hrb⟩ : ∃ rb, w.heap.size + 1 = rb := ⟨_, rfl⟩
  rw [hrb] at HS ⊢
  have hne : w.heap.size ≠ rb := by omega
  have hfr : ∀ wr, Below rb W0 wr → RowK .u64 wr qa qo den ∧ wr.cell? ⟨w.heap.size, 1, none⟩ = some (.slice (some ⟨qa, qo, none⟩) den.length qc) := by
    intro wr hB
    refine ⟨H.out.2.2.1.below (hB.mono (by have := H.out.1.2; omega)), ?_⟩
    exact (H.out.2.2.2.below hB (by omega)).cell 1
  have hend : ∀ wr, Below rb W0 wr → Below w.heap.size w wr := fun wr hB => H.out.1.1.trans (hB.mono (by omega))
  have HF := Lib.hid (And.intro hfr hend)
  clear hfr hend
  go_wp2_with fail
  go_loopg [17] (n + 1) (fun g i wr => ∃ k : Nat, k ≤ n + 1 ∧ g = n + 1 - k ∧ i = .int .i64 (k : Int) ∧ SBlk wr rb 38 (cellsK .u64 (coefS (IntKind.wrap .u64) (startS num (n + 1)) den k)) ∧ Below rb W0 wr)
  case atStart => exact ⟨0, Nat.zero_le _, rfl, rfl, HS.out⟩
  case round =>
    clear HS
    obtain ⟨k, hk, rfl, rfl, hs, hB⟩ := hrel
    by_cases hlt : k < n + 1
    · have hlt2 : (k : Int) < (n : Int) + 1 := by omega
      have f1 := (HF.out.1 _ hB).2
      obtain ⟨K, hK⟩ : ∃ K, min k (den.length - 1) = K := ⟨_, rfl⟩
      have hmn := fun W => min2_run k den.length lq W
      rw [hK] at hmn
      have HM := Lib.hid (And.intro hs (And.intro hB hK))
      clear hs hB hK
      go_wp2_with fail
      go_loopg [7] K (fun g i wi => ∃ m j : Nat, j = m + 1 ∧ m ≤ K ∧ g = K - m ∧ i = .int .i64 (j : Int) ∧ SBlk wi rb 38 (cellsK .u64 (innerS (IntKind.wrap .u64) den k (coefS (IntKind.wrap .u64) (startS num (n + 1)) den k) m)) ∧ Below rb W0 wi)
      case atStart => exact ⟨0, 1, rfl, Nat.zero_le _, rfl, rfl, HM.out.1, HM.out.2.1⟩
      case round =>
        clear f1
        obtain ⟨m, j, hj, hm, rfl, rfl, hs, hB⟩ := hrel
        have f1 := (HF.out.1 _ hB).2
        by_cases hlm : m < K
        · have hjK : (j : Int) ≤ (K : Int) := by omega
          have hjk : j ≤ k := by have := HM.out.2.2; omega
          have hjd : j < den.length := by have := HM.out.2.2; omega
          obtain ⟨r, hr⟩ : ∃ r, k - j = r := ⟨_, rfl⟩
          have hrk : (k : Int) - (j : Int) = (r : Int) := by omega
          have hlen : (innerS (IntKind.wrap .u64) den k (coefS (IntKind.wrap .u64) (startS num (n + 1)) den k) m).length = n + 1 := (HL.out.2 _ _ _).trans (HL.out.1 _)
          have hk1 : k < (innerS (IntKind.wrap .u64) den k (coefS (IntKind.wrap .u64) (startS num (n + 1)) den k) m).length := by omega
          have hr1 : r < (innerS (IntKind.wrap .u64) den k (coefS (IntKind.wrap .u64) (startS num (n + 1)) den k) m).length := by omega
          have d1 := hs.cell k
          rw [cellsK_get .u64 hk1] at d1
          have d3 := hs.cell r
          rw [cellsK_get .u64 hr1] at d3
          have d2 := (HF.out.1 _ hB).1.cell j hjd
          have f3 := hs.frozen k
          obtain ⟨z, hz⟩ : ∃ z, (innerS (IntKind.wrap .u64) den k (coefS (IntKind.wrap .u64) (startS num (n + 1)) den k) m).getD k 0 = z := ⟨_, rfl⟩
          obtain ⟨x, hx⟩ : ∃ x, (innerS (IntKind.wrap .u64) den k (coefS (IntKind.wrap .u64) (startS num (n + 1)) den k) m).getD r 0 = x := ⟨_, rfl⟩
          obtain ⟨y, hy⟩ : ∃ y, den.getD j 0 = y := ⟨_, rfl⟩
          rw [hz] at d1
          rw [hx] at d3
          rw [hy] at d2
          have l0 : (0 : Int) ≤ (k : Int) := by omega
          have l1 : (0 : Int) ≤ (j : Int) := by omega
          have l2 : (j : Int) < (den.length : Int) := by omega
          have l3 : (0 : Int) ≤ (r : Int) := by omega
          have l4 : (r : Int) < (n : Int) + 1 := by omega
          have hw1 : IntKind.i64.wrap ((k : Int) - (j : Int)) = (r : Int) := by rw [hrk]; exact IntWalk.i64_in _ (by omega)
          have hw2 : wrap64 ((k : Int) - (j : Int)) = (r : Int) := by rw [hrk]; unfold wrap64; omega
          have e1 := (show wr.drew.cell? ⟨rb, k, none⟩ = some (.int .u64 z) from d1)
          have e2 := (show wr.drew.cell? ⟨qa, qo + j, none⟩ = some (.int .u64 y) from d2)
          have e3 := (show wr.drew.cell? ⟨rb, r, none⟩ = some (.int .u64 x) from d3)
          have e4 := (show wr.drew.cell? ⟨w.heap.size, 1, none⟩ = some (.slice (some ⟨qa, qo, none⟩) den.length qc) from f1)
          have HX := Lib.hid (And.intro (And.intro hs hB) (And.intro (And.intro hz (And.intro hx hy)) (And.intro (And.intro hr hj) (And.intro hk1 hrk))))
          clear hs hB hz hx hy hr hrk hj hlen hk1 hr1
          go_wp2_with fail
          go_still_tail 18, (by kernel_rfl)
          change wpList _ _ _ _ _ wr.drew
          go_wp2_with fail
          go_roundg (K - (m + 1))
          case measure => omega
          case rel =>
            obtain ⟨⟨hs, hB⟩, ⟨hz, hx, hy⟩, ⟨hr, hj⟩, hk1, _⟩ := HX.out
            refine ⟨m + 1, j + 1, by omega, by omega, rfl, by simp, ?_, hB.drew.setCell (p := ⟨rb, k, none⟩) (Nat.le_refl _) _⟩
            have := hs.drew.set k (.int .u64 ((IntKind.wrap .u64) (z - (IntKind.wrap .u64) (y * x))))
            rw [← cellsK_set] at this
            show SBlk _ _ _ (cellsK .u64 (subK (IntKind.wrap .u64) _ k ((IntKind.wrap .u64) (den.getD (m + 1) 0 * List.getD _ (k - (m + 1)) 0))))
            unfold subK
            rw [← hj, hr, hz, hx, hy]
            exact this
        · obtain rfl : m = K := by omega
          have hjK : ¬ (j : Int) ≤ (m : Int) := by omega
          have HX := Lib.hid (And.intro (And.intro hs hB) hj)
          clear hs hB hj
          go_wp2_with fail
          go_roundg (n + 1 - (k + 1))
          case measure => omega
          case rel =>
            obtain ⟨⟨hs, hB⟩, _⟩ := HX.out
            refine ⟨k + 1, by omega, rfl, by simp, ?_, hB⟩
            show SBlk _ _ _ (cellsK .u64 (innerS (IntKind.wrap .u64) den k (coefS (IntKind.wrap .u64) (startS num (n + 1)) den k) (min k (den.length - 1))))
            rw [HM.out.2.2]
            exact hs
    · obtain rfl : k = n + 1 := by omega
      have hk1 : n < (coefS (IntKind.wrap .u64) (startS num (n + 1)) den (n + 1)).length := by rw [HL.out.1]; omega
      have d1 := hs.cell n
      rw [cellsK_get .u64 hk1] at d1
      have l0 : (0 : Int) ≤ (n : Int) := by omega
      have l1 : (n : Int) < (n : Int) + 1 := by omega
      have HX := Lib.hid (And.intro hs hB)
      clear hs hB hk1
      obtain ⟨z, hz⟩ : ∃ z, (coefS (IntKind.wrap .u64) (startS num (n + 1)) den (n + 1)).getD n 0 = z := ⟨_, rfl⟩
      rw [hz] at d1
      have HZ := Lib.hid hz
      clear hz
      go_wp2_with fail
      go_ret
      exact ⟨by rw [HZ.out]; rfl, HF.out.2 _ HX.out.2⟩
end Go.Proofs.YtcpeeopdaakbaaaGreat
