/- Count. The chapter's examples, reckoned. -/
import Derived.Test.YtcpeeopdaakbaaaGreatSr2
import Derived.Test.YtcpeeopdaakbaaaGreatWdA
import Derived.Test.YtcpeeopdaakbaaaGreatCnA
import Derived.Test.YtcpeeopdaakbaaaGreatDiA
import Derived.Test.YtcpeeopdaakbaaaGreatCoxA
import Derived.Test.YtcpeeopdaakbaaaGreatYW
namespace Go.Proofs.YtcpeeopdaakbaaaGreat
set_option linter.unusedVariables false
open Go.RowKit Go.Shelf Cx

/-- the coefficient that Count answers -/
def countS (a b c n : Nat) : Int := (coefS (IntKind.wrap .u64) (startS (revS (serS (IntKind.wrap .u64) (IntKind.wrap .u64 (-3)) [a, b, c] 3).2) (n + 1)) (revS (serS (IntKind.wrap .u64) (IntKind.wrap .u64 (-3)) [a, b, c] 3).1) (n + 1)).getD n 0
theorem lim12 {m : Nat} (h : Lim m) : m ≤ 12 := by rcases h with h | h <;> omega

set_option maxRecDepth 100000 in
set_option maxHeartbeats 1000000 in
theorem Count_err (a b c n : Int) (he : faultT a b c n 1000 ≠ 0) (w : World) :
    Calls Tryz.prog 64 #[.agg #[.int .i64 a, .int .i64 b, .int .i64 c], .int .i64 n] w fun e w' => e = .returned (.tuple #[.int .u64 0, .int .i64 (faultT a b c n 1000)]) ∧ Below w.heap.size w w' := by
  have HF := Lib.hid (fun W => tfault_any a b c n 1000 W)
  generalize faultT a b c n 1000 = k at *
  have hk : (k != 0) = true := by simpa using he
  clear he
  go_enter Tryz.func64, Tryz.ntmps64
  go_wp2_with (go_at_call 69; refine (HF.out _).mono ?_; rintro e w1 ⟨rfl, hb1⟩; have HB1 := Lib.hid (below_a1 hb1); clear hb1)
  go_ret2
  exact ⟨rfl, HB1.out⟩

set_option maxRecDepth 100000 in
set_option maxHeartbeats 2000000 in
theorem Count_ok {a b c : Nat} (hg : Good a b c) (n : Nat) (hn : n ≤ 1000) (w : World) :
    Calls Tryz.prog 64 #[.agg #[.int .i64 a, .int .i64 b, .int .i64 c], .int .i64 n] w fun e w' => e = .returned (.tuple #[.int .u64 (countS a b c n), .int .i64 0]) ∧ Below w.heap.size w w' := by
  have hf := fun W => tfault_any a b c n 1000 W
  have hz : faultT (a : Int) (b : Int) (c : Int) (n : Int) 1000 = 0 := by
    unfold faultT
    rw [if_pos (allowedS_good hg), if_neg (by omega), if_neg (by omega)]
  rw [hz] at hf
  have HF := Lib.hid hf
  have HS := Lib.hid (fun W => series_u64 a b c (lim12 hg.1) (lim12 hg.2) (lim12 hg.3) _ rfl W)
  obtain ⟨L, hL1, l1, l2, _⟩ := Ps.ser_co (W := 18446744073709551616) (wr := fun y => y) (fun y => Ps.Cg.refl _ _) (-3) (Ps.Cg.refl _ _) [a, b, c] 3
  have hlen := serS_len (IntKind.wrap .u64) (IntKind.wrap .u64 (-3)) [a, b, c] (by
    intro q
    match q with
    | 0 => exact lim12 hg.1
    | 1 => exact lim12 hg.2
    | 2 => exact lim12 hg.3
    | q + 3 => simp) 3
  have HC := Lib.hid (fun nb db W (h1 : SBlk W nb 38 (cellsK .u64 (revS (serS (IntKind.wrap .u64) (IntKind.wrap .u64 (-3)) [a, b, c] 3).2))) (h2 : SBlk W db 38 (cellsK .u64 (revS (serS (IntKind.wrap .u64) (IntKind.wrap .u64 (-3)) [a, b, c] 3).1))) =>
    coefficient_u64 _ _ nb 0 (revS (serS (IntKind.wrap .u64) (IntKind.wrap .u64 (-3)) [a, b, c] 3).2).length db 0 (revS (serS (IntKind.wrap .u64) (IntKind.wrap .u64 (-3)) [a, b, c] 3).1).length n W (RowK.of h1) (RowK.of h2) (by rw [revS_length]; exact hlen.1) (by rw [revS_length]; omega) (by omega))
  unfold countS
  generalize (coefS (IntKind.wrap .u64) (startS (revS (serS (IntKind.wrap .u64) (IntKind.wrap .u64 (-3)) [a, b, c] 3).2) (n + 1)) (revS (serS (IntKind.wrap .u64) (IntKind.wrap .u64 (-3)) [a, b, c] 3).1) (n + 1)).getD n 0 = R at *
  generalize revS (serS (IntKind.wrap .u64) (IntKind.wrap .u64 (-3)) [a, b, c] 3).2 = NN at *
  generalize revS (serS (IntKind.wrap .u64) (IntKind.wrap .u64 (-3)) [a, b, c] 3).1 = DD at *
  clear hf hz hL1 l1 l2 hlen hg hn
  go_enter Tryz.func64, Tryz.ntmps64
  go_wp2_with fail
  refine (HF.out _).mono ?_
  rintro e w1 ⟨rfl, hb1⟩
  have q0 := (SBlk.new w 23 [.int .i64 a, .int .i64 b, .int .i64 c]).below hb1 (by simp)
  have HB1 := Lib.hid (below_a1 hb1)
  have p0 := q0.cell 0
  have p1 := q0.cell 1
  have p2 := q0.cell 2
  simp only [List.getElem?_cons_zero, List.getElem?_cons_succ] at p0 p1 p2
  clear hb1 q0
  go_wp2_with fail
  refine (HS.out _).mono ?_
  rintro e w2 ⟨nb, db, rfl, h1, h2, _, _, hb2⟩
  have HB2 := Lib.hid hb2
  have HR := Lib.hid (HC.out nb db w2 h1 h2)
  clear h1 h2 hb2 p0 p1 p2
  go_wp2_with fail
  refine HR.out.mono ?_
  rintro e w3 ⟨rfl, hb3⟩
  have HB3 := Lib.hid hb3
  clear hb3
  go_wp2_with fail
  go_ret2
  exact ⟨rfl, (HB1.out.trans (HB2.out.mono HB1.out.size)).trans (HB3.out.mono (Nat.le_trans HB1.out.size HB2.out.size))⟩
end Go.Proofs.YtcpeeopdaakbaaaGreat

namespace Go.Proofs.YtcpeeopdaakbaaaGreat
set_option linter.unusedVariables false
open Go.RowKit Go.Shelf Cx
open Classical

/-- a ring, reckoned -/
def ringL (M : Nat → Nat → Nat) : Nat → List (List Nat)
  | 0 => [[]]
  | n + 1 => (ringL M n).flatMap fun w => [w ++ [0], w ++ [1], w ++ [2]].filter fun v => nfL M v == v
theorem ringL_eq {M : Nat → Nat → Nat} (hM : Ords M) : ∀ n, ringS M n = ringL M n
  | 0 => rfl
  | n + 1 => by
    show (ringS M n).flatMap (goOn M) = (ringL M n).flatMap _
    rw [← ringL_eq hM n]
    unfold List.flatMap
    congr 1
    refine List.map_congr_left ?_
    intro w hw
    have h3 := ((ring_mem n w).1 hw).2.2
    unfold goOn
    refine List.filter_congr ?_
    intro v hv
    have hlow : ∀ y ∈ v, y < 3 := by
      intro y hy
      simp only [List.mem_cons, List.not_mem_nil, or_false] at hv
      rcases hv with rfl | rfl | rfl
      all_goals
        rcases List.mem_append.1 hy with h | h
        · exact h3 y h
        · simp at h; omega
    rw [nfL_eq hM hlow]
    by_cases h : nfL M v = v <;> simp [h]
theorem ex_ring2 : ringL (Mo 3 7 2) 2 = [[0, 1], [0, 2], [1, 0], [1, 2], [2, 1]] := by decide +kernel
theorem ex_ring1 : ringL (Mo 3 7 2) 1 = [[0], [1], [2]] := by decide +kernel
theorem ords372 : Ords (Mo 3 7 2) := Mo_ords good372.1 good372.2 good372.3
theorem ex_words : cellsW (ringS (Mo 3 7 2) 2) = [⟨#[0, 1]⟩, ⟨#[0, 2]⟩, ⟨#[1, 0]⟩, ⟨#[1, 2]⟩, ⟨#[2, 1]⟩] := by
  rw [ringL_eq ords372, ex_ring2]; decide +kernel
theorem ex_tiles : tilesTo (Mo 3 7 2) (1 + 1) = [[], [0], [1], [2]] := by
  rw [tilesTo_succ, tilesTo_succ, ringL_eq ords372, ringL_eq ords372, ex_ring1]; rfl

theorem ex_pair : ∀ i s : Fin 3, i ≠ s → madeL (Mo 3 7 2) [i.val, s.val] ≠ [] := by decide +kernel
theorem ex_one : ∀ i : Fin 3, nfL (Mo 3 7 2) [i.val] = [i.val] := by decide +kernel
theorem one_nf {i : Nat} (hi : i < 3) : nf (mk [i] : G (Mo 3 7 2)) = [i] := by
  rw [nfL_eq ords372 (by intro y hy; simp at hy; omega)]
  exact ex_one ⟨i, hi⟩
theorem one_dr {i s : Nat} (hi : i < 3) (hs : s < 3) : Dr (mk [i] : G (Mo 3 7 2)) s ↔ s = i := by
  constructor
  · intro h
    apply Classical.byContradiction
    intro hne
    have h2 := (dr_iff _ _).1 h
    have h3 : ln (mk [i] : G (Mo 3 7 2)) = 1 := by unfold ln; rw [one_nf hi]; rfl
    have h4 : nf (mk [i] * mk [s] : G (Mo 3 7 2)) = [] := List.length_eq_zero_iff.1 (by unfold ln at h2 h3; omega)
    have h5 : (mk [i, s] : G (Mo 3 7 2)) = mk [] := by
      have e : (mk [i] * mk [s] : G (Mo 3 7 2)) = mk [i, s] := mk_mul _ _
      rw [← e, ← mk_nf (mk [i] * mk [s] : G (Mo 3 7 2)), h4]
    exact ex_pair ⟨i, hi⟩ ⟨s, hs⟩ (by intro h; exact hne (by simpa using (Fin.mk.inj h).symm)) ((one_iff ords372 (by intro y hy; simp at hy; omega)).1 h5)
  · rintro rfl
    have := (dr_back (mk [] : G (Mo 3 7 2)) s).2 (not_dr_one s)
    exact this

theorem up_zero : upS (mk [] : G (Mo 3 7 2)) 3 = 3 := by
  rw [upS_no (not_dr_one 2), upS_no (not_dr_one 1), upS_no (not_dr_one 0)]; rfl
theorem up_one {i : Nat} (hi : i < 3) : upS (mk [i] : G (Mo 3 7 2)) 3 = 2 := by
  have h : ∀ j, j < 3 → upS (mk [i] : G (Mo 3 7 2)) (j + 1) = upS (mk [i] : G (Mo 3 7 2)) j + if j = i then 0 else 1 := fun j hj => by
    by_cases e : j = i
    · rw [upS_yes ((one_dr hi hj).2 e), if_pos e]; rfl
    · rw [upS_no (fun k => e ((one_dr hi hj).1 k)), if_neg e]
  rw [h 2 (by omega), h 1 (by omega), h 0 (by omega)]
  rcases i with _ | _ | _ | i
  · rfl
  · rfl
  · rfl
  · omega
theorem ex_edges : eS 3 7 2 (tilesTo (Mo 3 7 2) (1 + 1)) = 9 := by
  rw [ex_tiles]
  simp only [eS, List.map_cons, List.map_nil, List.sum_cons, List.sum_nil]
  rw [up_zero, up_one (by omega), up_one (by omega), up_one (by omega)]
  rfl

theorem ord_ne : ∀ m : Fin 3, ordC 3 7 2 m.val ≠ 0 := by decide
theorem foot_zero {m : Nat} (hm : m < 3) : Foot (Mo 3 7 2) (sideA m) (sideB m) (mk []) (mk []) := foot_self (not_dr_one _) (not_dr_one _)
theorem side_of : ∀ i m : Fin 3, i ≠ m → i.val = sideA m.val ∨ i.val = sideB m.val := by decide
theorem side_not : ∀ m : Fin 3, sideA m.val ≠ m.val ∧ sideB m.val ≠ m.val ∧ sideA m.val < 3 ∧ sideB m.val < 3 := by decide
theorem key_zero {m : Nat} (hm : m < 3) : keyT m (mk [] : G (Mo 3 7 2)) = (str [], str [m]) := by
  unfold keyT
  rw [footN_eq good372 hm (ord_ne ⟨m, hm⟩) (foot_zero hm)]
  unfold tile
  rw [nf_nil]
theorem key_one {i m : Nat} (hi : i < 3) (hm : m < 3) : keyT m (mk [i] : G (Mo 3 7 2)) = (if i = m then str [i] else str [], str [m]) := by
  unfold keyT
  by_cases e : i = m
  · subst e
    rw [if_pos rfl, footN_eq good372 hm (ord_ne ⟨i, hm⟩) (foot_self (fun h => (side_not ⟨i, hi⟩).1 ((one_dr hi (side_not ⟨i, hi⟩).2.2.1).1 h)) (fun h => (side_not ⟨i, hi⟩).2.1 ((one_dr hi (side_not ⟨i, hi⟩).2.2.2).1 h)))]
    unfold tile
    rw [one_nf hi]
  · have hf : Foot (Mo 3 7 2) (sideA m) (sideB m) (mk [i]) (mk []) := by
      refine foot_step (foot_zero hm) (w := [i]) ?_ ?_
      · intro z hz
        rw [List.mem_singleton.1 hz]
        exact side_of ⟨i, hi⟩ ⟨m, hm⟩ (by intro h; exact e (Fin.mk.inj h))
      · rw [mk_mul]
        exact (let_sq i).symm
    rw [if_neg e, footN_eq good372 hm (ord_ne ⟨m, hm⟩) hf]
    unfold tile
    rw [nf_nil]
theorem ex_keys : (insK (str [], str [2]) (insK (str [2], str [2]) [])).length = 2 := by decide +kernel
theorem ex_corners : (kS 3 7 2 (tilesTo (Mo 3 7 2) (1 + 1))).length = 6 := by
  have h0 : ∀ (x : G (Mo 3 7 2)) ks, keysS x ks 3 = insK (keyT 2 x) (insK (keyT 1 x) (insK (keyT 0 x) ks)) := fun x ks => by
    rw [keysS_more (j := 2) (ord_ne 2), keysS_more (j := 1) (ord_ne 1), keysS_more (j := 0) (ord_ne 0)]; rfl
  rw [ex_tiles]
  simp only [kS, List.foldl_cons, List.foldl_nil, h0]
  rw [key_zero (by omega), key_zero (by omega), key_zero (by omega)]
  simp only [key_one (i := 0) (by omega) (m := 0) (by omega), key_one (i := 0) (by omega) (m := 1) (by omega), key_one (i := 0) (by omega) (m := 2) (by omega), key_one (i := 1) (by omega) (m := 0) (by omega), key_one (i := 1) (by omega) (m := 1) (by omega), key_one (i := 1) (by omega) (m := 2) (by omega), key_one (i := 2) (by omega) (m := 0) (by omega), key_one (i := 2) (by omega) (m := 1) (by omega), key_one (i := 2) (by omega) (m := 2) (by omega)]
  decide +kernel
theorem ex_count : countS 0 0 0 3 = 12 := by decide +kernel
end Go.Proofs.YtcpeeopdaakbaaaGreat
