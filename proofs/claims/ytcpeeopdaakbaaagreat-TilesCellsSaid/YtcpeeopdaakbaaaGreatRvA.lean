/- slices.Reverse. slices.Reverse, of uint64. slices.Repeat of a row of one 1. slices.Repeat of a row of one 1, of int. slices.Repeat of a row of one 1, of uint64. -/
import Derived.Test.YtcpeeopdaakbaaaGreatTaA
import Derived.Deep.RegionLaw
namespace Go.Proofs.YtcpeeopdaakbaaaGreat
open Go.RowKit Go.Shelf Cx

/-- the first k numbers and the last k have changed places -/
def swapS (l : List Int) : Nat → List Int
  | 0 => l
  | k + 1 => ((swapS l k).set k ((swapS l k).getD (l.length - 1 - k) 0)).set (l.length - 1 - k) ((swapS l k).getD k 0)
theorem swapS_length (l : List Int) : ∀ k, (swapS l k).length = l.length
  | 0 => rfl
  | k + 1 => by show (List.set (List.set _ _ _) _ _).length = _; rw [List.length_set, List.length_set]; exact swapS_length l k
def revS (l : List Int) : List Int := swapS l (l.length / 2)
theorem revS_length (l : List Int) : (revS l).length = l.length := swapS_length l _

set_option maxRecDepth 100000 in
set_option maxHeartbeats 4000000 in
theorem reverse_i64 (l : List Int) (b cap : Nat) (w : World) (h : SBlk w b 3 (cellsK .i64 l)) (hl : l.length ≤ 1000000) :
    Calls Tryz.prog 168 #[.slice (some ⟨b, 0, none⟩) l.length cap] w fun e w' => e = .returned (.tuple #[]) ∧ SBlk w' b 3 (cellsK .i64 (revS l)) ∧ But (fun x => x = b) w w' := by
  have hlen := swapS_length l
  have HW := Lib.hid (And.intro h hlen)
  clear h hlen
  go_enter Tryz.func168, Tryz.ntmps168
  go_wp2_with fail
  go_loopg [2, 3] (l.length - 0) (fun g i j wr => ∃ k : Nat, 2 * k ≤ l.length ∧ g = l.length - k ∧ i = .int .i64 (k : Int) ∧ j = .int .i64 ((l.length : Int) - 1 - (k : Int)) ∧ SBlk wr b 3 (cellsK .i64 (swapS l k)) ∧ But (fun x => x = b) w wr)
  case atStart => exact ⟨0, by omega, rfl, rfl, by simp, HW.out.1, But.refl _ _⟩
  case round =>
    obtain ⟨k, hk, rfl, rfl, rfl, hs, hB⟩ := hrel
    by_cases hlt : 2 * k + 1 < l.length
    · obtain ⟨j, hj⟩ : ∃ j, l.length - 1 - k = j := ⟨_, rfl⟩
      have hji : (l.length : Int) - 1 - (k : Int) = (j : Int) := by omega
      rw [hji]
      have hkj : (k : Int) < (j : Int) := by omega
      have hkl : k < (swapS l k).length := by rw [HW.out.2]; omega
      have hjl : j < (swapS l k).length := by rw [HW.out.2]; omega
      have hkj2 : k ≠ j := by omega
      have c1 := hs.cell k
      rw [cellsK_get .i64 hkl] at c1
      have c2 := hs.cell j
      rw [cellsK_get .i64 hjl] at c2
      have f1 := hs.frozen k
      have f2 := hs.frozen j
      obtain ⟨x, hx⟩ : ∃ x, (swapS l k).getD k 0 = x := ⟨_, rfl⟩
      obtain ⟨y, hy⟩ : ∃ y, (swapS l k).getD j 0 = y := ⟨_, rfl⟩
      rw [hx] at c1
      rw [hy] at c2
      have j0 : (0 : Int) ≤ (k : Int) := by omega
      have j1 : (k : Int) < (l.length : Int) := by omega
      have j2 : (0 : Int) ≤ (j : Int) := by omega
      have j3 : (j : Int) < (l.length : Int) := by omega
      have e1 := (show wr.drew.cell? ⟨b, k, none⟩ = some (.int .i64 x) from c1)
      have e2 := (show wr.drew.cell? ⟨b, j, none⟩ = some (.int .i64 y) from c2)
      have n1 : (⟨b, j, none⟩ : Addr) ≠ ⟨b, k, none⟩ := by intro e; injection e with e1 e2; omega
      have HX := Lib.hid (And.intro (And.intro hs hB) (And.intro (And.intro hx hy) (And.intro hj hlt)))
      clear hs hB hx hy hj hlt hji hkl hjl
      go_wp2_with fail
      go_region
      all_goals
        go_wp2_with fail
        go_roundg (l.length - (k + 1))
        case measure => have := HX.out.2.2.2; omega
        case rel =>
          obtain ⟨⟨hs, hB⟩, ⟨hx, hy⟩, hj, hlt⟩ := HX.out
          refine ⟨k + 1, by omega, rfl, by simp, by simp; omega, ?_, (hB.drew.setCell (p := ⟨b, k, none⟩) rfl _).setCell (p := ⟨b, j, none⟩) rfl _⟩
          have := (hs.drew.set k (.int .i64 y)).set j (.int .i64 x)
          rw [← cellsK_set, ← cellsK_set] at this
          show SBlk _ _ _ (cellsK .i64 (((swapS l k).set k ((swapS l k).getD (l.length - 1 - k) 0)).set (l.length - 1 - k) ((swapS l k).getD k 0)))
          rw [hj, hx, hy]
          exact this
    · have hge : ¬ (k : Int) < (l.length : Int) - 1 - (k : Int) := by omega
      have HX := Lib.hid (And.intro (And.intro hs hB) hlt)
      clear hs hB hlt
      go_wp2_with fail
      (try simp only [Exit.inBlock, Exit.then])
      refine bodyPost_end (results_none rfl _ _ _) rfl ?_
      obtain ⟨⟨hs, hB⟩, hlt⟩ := HX.out
      have e : l.length / 2 = k := by omega
      refine ⟨rfl, ?_, hB⟩
      unfold revS
      rw [e]
      exact hs
end Go.Proofs.YtcpeeopdaakbaaaGreat

namespace Go.Proofs.YtcpeeopdaakbaaaGreat
open Go.RowKit Go.Shelf Cx

set_option maxRecDepth 100000 in
set_option maxHeartbeats 4000000 in
theorem reverse_u64 (l : List Int) (b cap : Nat) (w : World) (h : SBlk w b 38 (cellsK .u64 l)) (hl : l.length ≤ 1000000) :
    Calls Tryz.prog 172 #[.slice (some ⟨b, 0, none⟩) l.length cap] w fun e w' => e = .returned (.tuple #[]) ∧ SBlk w' b 38 (cellsK .u64 (revS l)) ∧ But (fun x => x = b) w w' := by
  have hlen := swapS_length l
  have HW := Lib.hid (And.intro h hlen)
  clear h hlen
  go_enter Tryz.func172, Tryz.ntmps172
  go_wp2_with fail
  go_loopg [2, 3] (l.length - 0) (fun g i j wr => ∃ k : Nat, 2 * k ≤ l.length ∧ g = l.length - k ∧ i = .int .i64 (k : Int) ∧ j = .int .i64 ((l.length : Int) - 1 - (k : Int)) ∧ SBlk wr b 38 (cellsK .u64 (swapS l k)) ∧ But (fun x => x = b) w wr)
  case atStart => exact ⟨0, by omega, rfl, rfl, by simp, HW.out.1, But.refl _ _⟩
  case round =>
    obtain ⟨k, hk, rfl, rfl, rfl, hs, hB⟩ := hrel
    by_cases hlt : 2 * k + 1 < l.length
    · obtain ⟨j, hj⟩ : ∃ j, l.length - 1 - k = j := ⟨_, rfl⟩
      have hji : (l.length : Int) - 1 - (k : Int) = (j : Int) := by omega
      rw [hji]
      have hkj : (k : Int) < (j : Int) := by omega
      have hkl : k < (swapS l k).length := by rw [HW.out.2]; omega
      have hjl : j < (swapS l k).length := by rw [HW.out.2]; omega
      have hkj2 : k ≠ j := by omega
      have c1 := hs.cell k
      rw [cellsK_get .u64 hkl] at c1
      have c2 := hs.cell j
      rw [cellsK_get .u64 hjl] at c2
      have f1 := hs.frozen k
      have f2 := hs.frozen j
      obtain ⟨x, hx⟩ : ∃ x, (swapS l k).getD k 0 = x := ⟨_, rfl⟩
      obtain ⟨y, hy⟩ : ∃ y, (swapS l k).getD j 0 = y := ⟨_, rfl⟩
      rw [hx] at c1
      rw [hy] at c2
      have j0 : (0 : Int) ≤ (k : Int) := by omega
      have j1 : (k : Int) < (l.length : Int) := by omega
      have j2 : (0 : Int) ≤ (j : Int) := by omega
      have j3 : (j : Int) < (l.length : Int) := by omega
      have e1 := (show wr.drew.cell? ⟨b, k, none⟩ = some (.int .u64 x) from c1)
      have e2 := (show wr.drew.cell? ⟨b, j, none⟩ = some (.int .u64 y) from c2)
      have n1 : (⟨b, j, none⟩ : Addr) ≠ ⟨b, k, none⟩ := by intro e; injection e with e1 e2; omega
      have HX := Lib.hid (And.intro (And.intro hs hB) (And.intro (And.intro hx hy) (And.intro hj hlt)))
      clear hs hB hx hy hj hlt hji hkl hjl
      go_wp2_with fail
      go_region
      all_goals
        go_wp2_with fail
        go_roundg (l.length - (k + 1))
        case measure => have := HX.out.2.2.2; omega
        case rel =>
          obtain ⟨⟨hs, hB⟩, ⟨hx, hy⟩, hj, hlt⟩ := HX.out
          refine ⟨k + 1, by omega, rfl, by simp, by simp; omega, ?_, (hB.drew.setCell (p := ⟨b, k, none⟩) rfl _).setCell (p := ⟨b, j, none⟩) rfl _⟩
          have := (hs.drew.set k (.int .u64 y)).set j (.int .u64 x)
          rw [← cellsK_set, ← cellsK_set] at this
          show SBlk _ _ _ (cellsK .u64 (((swapS l k).set k ((swapS l k).getD (l.length - 1 - k) 0)).set (l.length - 1 - k) ((swapS l k).getD k 0)))
          rw [hj, hx, hy]
          exact this
    · have hge : ¬ (k : Int) < (l.length : Int) - 1 - (k : Int) := by omega
      have HX := Lib.hid (And.intro (And.intro hs hB) hlt)
      clear hs hB hlt
      go_wp2_with fail
      (try simp only [Exit.inBlock, Exit.then])
      refine bodyPost_end (results_none rfl _ _ _) rfl ?_
      obtain ⟨⟨hs, hB⟩, hlt⟩ := HX.out
      have e : l.length / 2 = k := by omega
      refine ⟨rfl, ?_, hB⟩
      unfold revS
      rw [e]
      exact hs
end Go.Proofs.YtcpeeopdaakbaaaGreat

namespace Go.Proofs.YtcpeeopdaakbaaaGreat
open Go.RowKit Go.Shelf Cx

set_option maxRecDepth 100000 in
set_option maxHeartbeats 4000000 in
theorem mul64_small (m : Nat) (h1 : 1 ≤ m) (h2 : m ≤ 12) (w : World) :
    Calls Tryz.prog 198 #[.int .u64 1, .int .u64 m] w fun e w' => e = .returned (.tuple #[.int .u64 0, .int .u64 m]) ∧ w = w' := by
  obtain rfl | rfl | rfl | rfl | rfl | rfl | rfl | rfl | rfl | rfl | rfl | rfl : m = 1 ∨ m = 2 ∨ m = 3 ∨ m = 4 ∨ m = 5 ∨ m = 6 ∨ m = 7 ∨ m = 8 ∨ m = 9 ∨ m = 10 ∨ m = 11 ∨ m = 12 := by omega
  all_goals
    go_enter Tryz.func198, Tryz.ntmps198
    go_wp2_with fail
    go_ret2
    exact ⟨rfl, rfl⟩

set_option maxRecDepth 100000 in
set_option maxHeartbeats 4000000 in
theorem mul_small (m : Nat) (h1 : 1 ≤ m) (h2 : m ≤ 12) (w : World) :
    Calls Tryz.prog 155 #[.int .u64 1, .int .u64 m] w fun e w' => e = .returned (.tuple #[.int .u64 0, .int .u64 m]) ∧ w = w' := by
  have hm := fun W => mul64_small m h1 h2 W
  go_enter Tryz.func155, Tryz.ntmps155
  go_wp2_with (go_at_call 198; refine (hm _).mono ?_; rintro e w' ⟨rfl, rfl⟩)
  go_ret2
  exact ⟨rfl, rfl⟩
end Go.Proofs.YtcpeeopdaakbaaaGreat

namespace Go.Proofs.YtcpeeopdaakbaaaGreat
open Go.RowKit Go.Shelf Cx
/-- the first p numbers are 1 -/
def onesS (m p : Nat) : List Int := List.replicate p 1 ++ List.replicate (m - p) 0
theorem ones_start (k : IntKind) (m : Nat) : splice (cellsK k (List.replicate m 0)) 0 (cellsK k [1]) = cellsK k (onesS m 1) := by
  unfold splice onesS cellsK
  simp
theorem ones_more (k : IntKind) (m p : Nat) (h : p ≤ m) : splice (cellsK k (onesS m p)) p (cellsK k (List.replicate (min p (m - p)) 1)) = cellsK k (onesS m (p + min p (m - p))) := by
  unfold splice onesS cellsK
  have e1 : ((List.replicate p (1 : Int) ++ List.replicate (m - p) 0).map (Value.int k)).take p = (List.replicate p (1 : Int)).map (Value.int k) := by
    rw [List.map_append, List.take_append_of_le_length (by simp), List.take_of_length_le (by simp)]
  have e2 : ((List.replicate p (1 : Int) ++ List.replicate (m - p) 0).map (Value.int k)).drop (p + ((List.replicate (min p (m - p)) (1 : Int)).map (Value.int k)).length) = (List.replicate (m - (p + min p (m - p))) (0 : Int)).map (Value.int k) := by
    rw [List.length_map, List.length_replicate, List.map_append, List.drop_append, List.length_map, List.length_replicate]
    rw [List.drop_of_length_le (by simp), List.nil_append, ← List.map_drop, List.drop_replicate]
    congr 2
    omega
  rw [e1, e2, ← List.map_append, ← List.map_append, ← List.append_assoc, List.replicate_append_replicate]
theorem ones_head (k : IntKind) {m p : Nat} {j : Nat} {v : Value} (hv : (cellsK k (List.replicate (min p (m - p)) 1))[j]? = some v) : (cellsK k (onesS m p))[j]? = some v := by
  have hj : j < min p (m - p) := by
    rcases Nat.lt_or_ge j (min p (m - p)) with h | h
    · exact h
    · rw [List.getElem?_eq_none (by rw [cellsK_length, List.length_replicate]; exact h)] at hv; cases hv
  rw [← hv]
  unfold onesS cellsK
  rw [List.map_append, List.getElem?_append_left (by simp; omega)]
  simp
  rw [List.getElem?_replicate, List.getElem?_replicate, if_pos (by omega), if_pos hj]

set_option maxRecDepth 100000 in
set_option maxHeartbeats 4000000 in
theorem repeat_i64 (m b : Nat) (h1 : 1 ≤ m) (h2 : m ≤ 12) (w : World) (hb : b < w.heap.size) (hc : w.cell? ⟨b, 0, none⟩ = some (.int .i64 1)) :
    Calls Tryz.prog 167 #[.slice (some ⟨b, 0, none⟩) 1 1, .int .i64 m] w fun e w' => ∃ nb, e = .returned (.slice (some ⟨nb, 0, none⟩) m m) ∧ SBlk w' nb 3 (cellsK .i64 (List.replicate m 1)) ∧ w.heap.size ≤ nb ∧ Below w.heap.size w w' := by
  have hmk := make_i64 m (by omega)
  have hml := fun W => mul_small m h1 h2 W
  have hst : (w.alloc (.cells (cellsK .i64 (List.replicate m 0)).toArray 3)).heap[w.heap.size]? = some (.cells (cellsK .i64 (List.replicate m 0)).toArray 3 (0, 0)) := SBlk.new w 3 (cellsK .i64 (List.replicate m 0))
  have hbl := (Below.refl w.heap.size w).alloc (Nat.le_refl _) (.cells (cellsK .i64 (List.replicate m 0)).toArray 3)
  have HW := Lib.hid (And.intro hst (And.intro hbl (And.intro hb hc)))
  have hml2 : ¬ (9223372036854775807 : Int) < (m : Int) := by omega
  have j0 : ¬ (m : Int) < 0 := by omega
  have j1 : IntKind.i64.wrap (m : Int) = (m : Int) := IntWalk.i64_in _ (by omega)
  clear hst hbl hb hc
  go_enter Tryz.func167, Tryz.ntmps167
  go_wp2_with (first | (go_at_call 155; refine (hml _).mono ?_; rintro e w' ⟨rfl, rfl⟩) | (with_reducible refine wpList_copy_splice rfl (.tmp 31) (.tmp 32) 47 47 rfl 3 Tryz.underlying47 size_i64 (some ⟨w.heap.size, 0, none⟩) (some ⟨b, 0, none⟩) m m 1 1 rfl rfl w.heap.size 0 (cellsK .i64 (List.replicate m 0)) 3 HW.out.1 (cellsK .i64 [1]) ?_ ?_ ?_ ?_ w.heap.size w HW.out.2.1 (Nat.le_refl _) ?_))
  · show (1 : Nat) = min 1 m
    omega
  · intro _ j v hv
    cases j with
    | zero =>
      have hv2 : some (Value.int .i64 1) = some v := hv
      rw [← hv2]
      exact (HW.out.2.1.cell (p := ⟨b, 0, none⟩) HW.out.2.2.1).trans HW.out.2.2.2
    | succ j => exact absurd hv (by simp [cellsK])
  · rw [cellsK_length, cellsK_length, List.length_replicate]
    show 0 + 1 ≤ m
    omega
  · intro v hv
    unfold cellsK at hv
    obtain ⟨x, _, rfl⟩ := List.mem_map.1 hv
    rfl
  intro w4 hg4 hb4
  have hg5 : SBlk w4 w.heap.size 3 (cellsK .i64 (onesS m 1)) := by
    have := hg4.out
    rw [ones_start .i64 m] at this
    exact this
  have HS := Lib.hid (And.intro hg5 hb4)
  clear hg5 hb4 hg4 hmk hml hml2 j0 j1 HW
  go_wp2_with fail
  obtain ⟨nb, hnb⟩ : ∃ nb, w.heap.size = nb := ⟨_, rfl⟩
  rw [hnb] at HS ⊢
  go_loopg [8] (m - 1) (fun g i wr => ∃ p : Nat, 1 ≤ p ∧ p ≤ m ∧ g = m - p ∧ i = .int .i64 (p : Int) ∧ SBlk wr nb 3 (cellsK .i64 (onesS m p)) ∧ Below nb w wr)
  case atStart => exact ⟨1, Nat.le_refl _, h1, rfl, rfl, HS.out⟩
  case round =>
    clear HS
    obtain ⟨p, hp1, hpm, rfl, rfl, hs, hB⟩ := hrel
    by_cases hlt : p < m
    · have hraw : wr.drew.heap[nb]? = some (.cells (cellsK .i64 (onesS m p)).toArray 3 (0, 0)) := hs
      have hmp : m ≠ p := by omega
      have hn : (cellsK .i64 (List.replicate (min p (m - p)) 1)).length = Nat.min p (m - p) := by rw [cellsK_length, List.length_replicate]
      have hpos : ∀ j v, (cellsK .i64 (List.replicate (min p (m - p)) 1))[j]? = some v → wr.drew.cell? ((⟨nb, 0, none⟩ : Addr).add j) = some v := by
        intro j v hv
        have e : ((⟨nb, 0, none⟩ : Addr).add j) = ⟨nb, j, none⟩ := by
          simp only [Addr.add, Nat.zero_add]
          split
          · rename_i h0; rw [h0]
          · rfl
        rw [e, hs.drew.cell j, ones_head .i64 hv]
      have hfit : p + (cellsK .i64 (List.replicate (min p (m - p)) 1)).length ≤ (cellsK .i64 (onesS m p)).length := by
        rw [cellsK_length, cellsK_length, List.length_replicate]
        unfold onesS
        simp
        omega
      have hone : ∀ v ∈ cellsK .i64 (List.replicate (min p (m - p)) 1), v.oneCell' = true := by
        intro v hv
        unfold cellsK at hv
        obtain ⟨x, _, rfl⟩ := List.mem_map.1 hv
        rfl
      have HX := Lib.hid (And.intro (And.intro hraw hB.drew) (And.intro hn (And.intro hpos (And.intro hfit hone))))
      have k1 : (p : Int) < (m : Int) := by omega
      have k0 : (0 : Int) ≤ (p : Int) := by omega
      have k2 : (p : Int) ≤ (m : Int) := by omega
      clear hraw hs hB hn hpos hfit hone
      go_wp2_with fail
      go_region_law (refine step_copy_splice rfl (.tmp 41) (.tmp 44) 47 47 rfl 3 Tryz.underlying47 size_i64 (some ⟨nb, p, none⟩) (some ⟨nb, 0, none⟩) (m - p) (m - p) p m (by simp [Act.eval, Act.put]) (by simp [Act.eval, Act.put]) nb p (cellsK .i64 (onesS m p)) 3 HX.out.1.1 (cellsK .i64 (List.replicate (min p (m - p)) 1)) HX.out.2.1 (fun _ => ⟨rfl, _, rfl, HX.out.2.2.1⟩) HX.out.2.2.2.1 HX.out.2.2.2.2 nb w HX.out.1.2 (Nat.le_refl _) ?_; intro w5 hg5 hb5)
      have hx5 : SBlk w5 nb 3 (cellsK .i64 (onesS m (p + min p (m - p)))) := by
        have := hg5.out
        rw [ones_more .i64 m p (by omega)] at this
        exact this
      have hw5 : IntKind.i64.wrap ((p : Int) + ((min p (m - p) : Nat) : Int)) = ((p + min p (m - p) : Nat) : Int) := by
        rw [show (p : Int) + ((min p (m - p) : Nat) : Int) = ((p + min p (m - p) : Nat) : Int) by omega]
        exact IntWalk.i64_in _ (by omega)
      have HY := Lib.hid (And.intro hx5 hb5)
      clear hx5 hb5 hg5
      go_wp2_with fail
      go_roundg (m - (p + min p (m - p)))
      case measure => omega
      case rel =>
        refine ⟨p + min p (m - p), by omega, by omega, rfl, ?_, HY.out.1, HY.out.2⟩
        rw [← hw5]
        rw [cellsK_length, List.length_replicate]
    · obtain rfl : p = m := by omega
      have HX := Lib.hid (And.intro hs hB)
      clear hs hB
      go_wp2_with fail
      go_ret
      refine ⟨nb, rfl, ?_, Nat.le_of_eq hnb, hnb ▸ HX.out.2⟩
      have := HX.out.1
      unfold onesS at this
      rw [Nat.sub_self] at this
      simpa using this
end Go.Proofs.YtcpeeopdaakbaaaGreat

namespace Go.Proofs.YtcpeeopdaakbaaaGreat
open Go.RowKit Go.Shelf Cx

set_option maxRecDepth 100000 in
set_option maxHeartbeats 4000000 in
theorem repeat_u64 (m b : Nat) (h1 : 1 ≤ m) (h2 : m ≤ 12) (w : World) (hb : b < w.heap.size) (hc : w.cell? ⟨b, 0, none⟩ = some (.int .u64 1)) :
    Calls Tryz.prog 171 #[.slice (some ⟨b, 0, none⟩) 1 1, .int .i64 m] w fun e w' => ∃ nb, e = .returned (.slice (some ⟨nb, 0, none⟩) m m) ∧ SBlk w' nb 38 (cellsK .u64 (List.replicate m 1)) ∧ w.heap.size ≤ nb ∧ Below w.heap.size w w' := by
  have hmk := make_u64 m (by omega)
  have hml := fun W => mul_small m h1 h2 W
  have hst : (w.alloc (.cells (cellsK .u64 (List.replicate m 0)).toArray 38)).heap[w.heap.size]? = some (.cells (cellsK .u64 (List.replicate m 0)).toArray 38 (0, 0)) := SBlk.new w 38 (cellsK .u64 (List.replicate m 0))
  have hbl := (Below.refl w.heap.size w).alloc (Nat.le_refl _) (.cells (cellsK .u64 (List.replicate m 0)).toArray 38)
  have HW := Lib.hid (And.intro hst (And.intro hbl (And.intro hb hc)))
  have hml2 : ¬ (9223372036854775807 : Int) < (m : Int) := by omega
  have j0 : ¬ (m : Int) < 0 := by omega
  have j1 : IntKind.i64.wrap (m : Int) = (m : Int) := IntWalk.i64_in _ (by omega)
  clear hst hbl hb hc
  go_enter Tryz.func171, Tryz.ntmps171
  go_wp2_with (first | (go_at_call 155; refine (hml _).mono ?_; rintro e w' ⟨rfl, rfl⟩) | (with_reducible refine wpList_copy_splice rfl (.tmp 31) (.tmp 32) 39 39 rfl 38 Tryz.underlying39 size_u64 (some ⟨w.heap.size, 0, none⟩) (some ⟨b, 0, none⟩) m m 1 1 rfl rfl w.heap.size 0 (cellsK .u64 (List.replicate m 0)) 38 HW.out.1 (cellsK .u64 [1]) ?_ ?_ ?_ ?_ w.heap.size w HW.out.2.1 (Nat.le_refl _) ?_))
  · show (1 : Nat) = min 1 m
    omega
  · intro _ j v hv
    cases j with
    | zero =>
      have hv2 : some (Value.int .u64 1) = some v := hv
      rw [← hv2]
      exact (HW.out.2.1.cell (p := ⟨b, 0, none⟩) HW.out.2.2.1).trans HW.out.2.2.2
    | succ j => exact absurd hv (by simp [cellsK])
  · rw [cellsK_length, cellsK_length, List.length_replicate]
    show 0 + 1 ≤ m
    omega
  · intro v hv
    unfold cellsK at hv
    obtain ⟨x, _, rfl⟩ := List.mem_map.1 hv
    rfl
  intro w4 hg4 hb4
  have hg5 : SBlk w4 w.heap.size 38 (cellsK .u64 (onesS m 1)) := by
    have := hg4.out
    rw [ones_start .u64 m] at this
    exact this
  have HS := Lib.hid (And.intro hg5 hb4)
  clear hg5 hb4 hg4 hmk hml hml2 j0 j1 HW
  go_wp2_with fail
  obtain ⟨nb, hnb⟩ : ∃ nb, w.heap.size = nb := ⟨_, rfl⟩
  rw [hnb] at HS ⊢
  go_loopg [8] (m - 1) (fun g i wr => ∃ p : Nat, 1 ≤ p ∧ p ≤ m ∧ g = m - p ∧ i = .int .i64 (p : Int) ∧ SBlk wr nb 38 (cellsK .u64 (onesS m p)) ∧ Below nb w wr)
  case atStart => exact ⟨1, Nat.le_refl _, h1, rfl, rfl, HS.out⟩
  case round =>
    clear HS
    obtain ⟨p, hp1, hpm, rfl, rfl, hs, hB⟩ := hrel
    by_cases hlt : p < m
    · have hraw : wr.drew.heap[nb]? = some (.cells (cellsK .u64 (onesS m p)).toArray 38 (0, 0)) := hs
      have hmp : m ≠ p := by omega
      have hn : (cellsK .u64 (List.replicate (min p (m - p)) 1)).length = Nat.min p (m - p) := by rw [cellsK_length, List.length_replicate]
      have hpos : ∀ j v, (cellsK .u64 (List.replicate (min p (m - p)) 1))[j]? = some v → wr.drew.cell? ((⟨nb, 0, none⟩ : Addr).add j) = some v := by
        intro j v hv
        have e : ((⟨nb, 0, none⟩ : Addr).add j) = ⟨nb, j, none⟩ := by
          simp only [Addr.add, Nat.zero_add]
          split
          · rename_i h0; rw [h0]
          · rfl
        rw [e, hs.drew.cell j, ones_head .u64 hv]
      have hfit : p + (cellsK .u64 (List.replicate (min p (m - p)) 1)).length ≤ (cellsK .u64 (onesS m p)).length := by
        rw [cellsK_length, cellsK_length, List.length_replicate]
        unfold onesS
        simp
        omega
      have hone : ∀ v ∈ cellsK .u64 (List.replicate (min p (m - p)) 1), v.oneCell' = true := by
        intro v hv
        unfold cellsK at hv
        obtain ⟨x, _, rfl⟩ := List.mem_map.1 hv
        rfl
      have HX := Lib.hid (And.intro (And.intro hraw hB.drew) (And.intro hn (And.intro hpos (And.intro hfit hone))))
      have k1 : (p : Int) < (m : Int) := by omega
      have k0 : (0 : Int) ≤ (p : Int) := by omega
      have k2 : (p : Int) ≤ (m : Int) := by omega
      clear hraw hs hB hn hpos hfit hone
      go_wp2_with fail
      go_region_law (refine step_copy_splice rfl (.tmp 41) (.tmp 44) 39 39 rfl 38 Tryz.underlying39 size_u64 (some ⟨nb, p, none⟩) (some ⟨nb, 0, none⟩) (m - p) (m - p) p m (by simp [Act.eval, Act.put]) (by simp [Act.eval, Act.put]) nb p (cellsK .u64 (onesS m p)) 38 HX.out.1.1 (cellsK .u64 (List.replicate (min p (m - p)) 1)) HX.out.2.1 (fun _ => ⟨rfl, _, rfl, HX.out.2.2.1⟩) HX.out.2.2.2.1 HX.out.2.2.2.2 nb w HX.out.1.2 (Nat.le_refl _) ?_; intro w5 hg5 hb5)
      have hx5 : SBlk w5 nb 38 (cellsK .u64 (onesS m (p + min p (m - p)))) := by
        have := hg5.out
        rw [ones_more .u64 m p (by omega)] at this
        exact this
      have hw5 : IntKind.i64.wrap ((p : Int) + ((min p (m - p) : Nat) : Int)) = ((p + min p (m - p) : Nat) : Int) := by
        rw [show (p : Int) + ((min p (m - p) : Nat) : Int) = ((p + min p (m - p) : Nat) : Int) by omega]
        exact IntWalk.i64_in _ (by omega)
      have HY := Lib.hid (And.intro hx5 hb5)
      clear hx5 hb5 hg5
      go_wp2_with fail
      go_roundg (m - (p + min p (m - p)))
      case measure => omega
      case rel =>
        refine ⟨p + min p (m - p), by omega, by omega, rfl, ?_, HY.out.1, HY.out.2⟩
        rw [← hw5]
        rw [cellsK_length, List.length_replicate]
    · obtain rfl : p = m := by omega
      have HX := Lib.hid (And.intro hs hB)
      clear hs hB
      go_wp2_with fail
      go_ret
      refine ⟨nb, rfl, ?_, Nat.le_of_eq hnb, hnb ▸ HX.out.2⟩
      have := HX.out.1
      unfold onesS at this
      rw [Nat.sub_self] at this
      simpa using this
end Go.Proofs.YtcpeeopdaakbaaaGreat
