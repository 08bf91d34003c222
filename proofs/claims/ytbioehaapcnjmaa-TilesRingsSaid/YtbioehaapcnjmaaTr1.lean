/- TilesRings: the reference's look at a ring. -/
import Derived.Test.YtbioehaapcnjmaaTr0
namespace Go.Proofs.Ytbioehaapcnjmaa
open Go.RowKit Go.Shelf Cx

/-- what is known of the k-th word of a ring -/
theorem ring_at {a b c : Nat} (hg : Good a b c) {n k : Nat} (hk : k < (ringS (Mo a b c) n).length) (hn : n ≤ 14) :
    ∃ T : ByteArray, (cellsW (ringS (Mo a b c) n)).getD k ⟨#[]⟩ = T ∧ T.size = n ∧ (∀ W, Calls Try.prog 33 #[.string T] W fun e w' => e = .returned (.int .i64 0) ∧ w' = W) ∧
      (∀ W, Calls Try.prog 32 #[.agg #[.int .i64 a, .int .i64 b, .int .i64 c], .string T] W fun e w' => e = .returned (.string T) ∧ Below W.heap.size W w') ∧
      (∀ q, k = q + 1 → Go.Op.bytesLess ((cellsW (ringS (Mo a b c) n)).getD q ⟨#[]⟩).toList T.toList = true) := by
  refine ⟨_, rfl, ?_⟩
  have hm : (ringS (Mo a b c) n)[k] ∈ ringS (Mo a b c) n := List.getElem_mem hk
  have hgd : (ringS (Mo a b c) n).getD k [] = (ringS (Mo a b c) n)[k] := by simp [List.getElem?_eq_getElem hk]
  rw [cellsW_get hk, hgd]
  obtain ⟨h1, h2, h3⟩ := (ring_mem n _).1 hm
  have hb : bytesN (str (ringS (Mo a b c) n)[k]) = (ringS (Mo a b c) n)[k] := bytesN_str (low256 h3)
  have hc : checkS (str (ringS (Mo a b c) n)[k]) = 0 := check_str h3 (by omega)
  refine ⟨by rw [str_size, h2], fun W => ?_, fun W => ?_, fun q hq => ?_⟩
  · have := CheckWord_any (str (ringS (Mo a b c) n)[k]) W (by rw [str_size]; omega)
    rw [hc] at this
    exact this.mono fun e w' ⟨h1, h2⟩ => ⟨h1, h2.symm⟩
  · have := Word_ok hg (str (ringS (Mo a b c) n)[k]) (by rw [hb]; exact h3) (by rw [str_size]; omega) W
    have e : nfW a b c [str (ringS (Mo a b c) n)[k]] = (ringS (Mo a b c) n)[k] := by
      show nf _ = _
      rw [cat_one, hb, h1]
    rw [e] at this
    exact this
  · subst hq
    have hq2 : q < (ringS (Mo a b c) n).length := by omega
    have hgq : (ringS (Mo a b c) n).getD q [] = (ringS (Mo a b c) n)[q] := by simp [List.getElem?_eq_getElem hq2]
    rw [cellsW_get hq2, hgq]
    have hmq : (ringS (Mo a b c) n)[q] ∈ ringS (Mo a b c) n := List.getElem_mem hq2
    exact less_str ((ring_mem n _).1 hmq).2.2 h3 (List.pairwise_iff_getElem.1 (ring_less n) q (q + 1) hq2 hk (by omega))

set_option maxRecDepth 100000 in
set_option maxHeartbeats 1000000 in
theorem IsRing_nil (a b c n : Int) (w : World) :
    Calls Try.prog 29 #[.agg #[.int .i64 a, .int .i64 b, .int .i64 c], .slice none 0 0, .int .i64 n] w fun e w' => e = .returned (.bool true) ∧ Below w.heap.size w w' := by
  have HB := Lib.hid ((Below.refl w.heap.size w).alloc (Nat.le_refl _) (.cells #[.int .i64 a, .int .i64 b, .int .i64 c] 23))
  go_enter Try.func29, Try.ntmps29
  go_wp2_with fail
  go_loopg [7] 0 (fun g s7 wr => s7 = .int .i64 0 ∧ Hid (Below w.heap.size w wr))
  case atStart => exact ⟨rfl, HB⟩
  case round =>
    obtain ⟨rfl, HI⟩ := hrel
    go_wp2_with fail
    go_ret
    exact ⟨rfl, HI.out⟩

set_option maxRecDepth 100000 in
set_option maxHeartbeats 4000000 in
theorem IsRing_some {a b c : Nat} (hg : Good a b c) (n : Nat) (hn : n ≤ 14) (g cap : Nat) (w : World)
    (hc : ∀ W, Below w.heap.size w W → ∀ i, i < (ringS (Mo a b c) n).length → W.cell? ⟨g, i, none⟩ = some (.string ((cellsW (ringS (Mo a b c) n)).getD i ⟨#[]⟩))) :
    Calls Try.prog 29 #[.agg #[.int .i64 a, .int .i64 b, .int .i64 c], .slice (some ⟨g, 0, none⟩) (ringS (Mo a b c) n).length cap, .int .i64 n] w fun e w' => e = .returned (.bool true) ∧ Below w.heap.size w w' := by
  have HA := Lib.hid (fun k (hk : k < (ringS (Mo a b c) n).length) => ring_at hg hk hn)
  have hsm := ring_small (Mo a b c) hn
  have HC := Lib.hid hc
  obtain ⟨N, hN⟩ : ∃ N, (ringS (Mo a b c) n).length = N := ⟨_, rfl⟩
  rw [hN] at HA HC hsm ⊢
  have HB := Lib.hid (And.intro (SBlk.new w 23 [.int .i64 a, .int .i64 b, .int .i64 c]) ((Below.refl w.heap.size w).alloc (Nat.le_refl _) (.cells #[.int .i64 a, .int .i64 b, .int .i64 c] 23)))
  clear hg hc hN hn
  generalize cellsW (ringS (Mo a b c) n) = L at *
  go_enter Try.func29, Try.ntmps29
  go_wp2_with fail
  go_loopg [7] N (fun g s7 wr => ∃ k : Nat, k ≤ N ∧ g = N - k ∧ s7 = .int .i64 (k : Int) ∧ Hid (SBlk wr w.heap.size 23 [.int .i64 a, .int .i64 b, .int .i64 c] ∧ Below w.heap.size w wr))
  case atStart => exact ⟨0, Nat.zero_le _, rfl, rfl, HB⟩
  case round =>
    clear HB
    obtain ⟨k, hk, rfl, rfl, HI⟩ := hrel
    by_cases hlt : k < N
    · have hki : (k : Int) < (N : Int) := by omega
      have hwk : IntKind.i64.wrap ((k : Int) + 1) = (k : Int) + 1 := IntWalk.i64_in _ (by omega)
      obtain ⟨T, hT, hsz, hck, hwd, hprev⟩ := HA.out k hlt
      have c0 := HC.out _ HI.out.2 k hlt
      rw [hT] at c0
      have hs1 : ((T.size : Int) != (n : Int)) = false := by simp [hsz]
      have HCK := Lib.hid hck
      have HWD := Lib.hid hwd
      have HT := Lib.hid (And.intro hT hsz)
      clear hT hsz hck hwd
      have x0 := HI.out.1.cell 0
      have x1 := HI.out.1.cell 1
      have x2 := HI.out.1.cell 2
      simp only [List.getElem?_cons_zero, List.getElem?_cons_succ] at x0 x1 x2
      have hcase : k = 0 ∨ ∃ q, k = q + 1 := by
        rcases k with _ | q
        · exact .inl rfl
        · exact .inr ⟨q, rfl⟩
      rcases hcase with hk0 | ⟨q, hkq⟩
      · have hpos : decide (0 < k) = false := decide_eq_false (by omega)
        clear hprev hk0
        go_wp2_with fail
        go_quiet ((go_at_call 33; exact Calls.quiet_of_same (HCK.out _)))
        go_wp2_with fail
        have HI2 := Lib.hid (And.intro (HI.out.1.drewN nq) (below_drewN HI.out.2 nq))
        have y0 : (wr.drewN nq).cell? ⟨w.heap.size, 0, none⟩ = some (.int .i64 a) := x0
        have y1 : (wr.drewN nq).cell? ⟨w.heap.size, 1, none⟩ = some (.int .i64 b) := x1
        have y2 : (wr.drewN nq).cell? ⟨w.heap.size, 2, none⟩ = some (.int .i64 c) := x2
        have d0 : (wr.drewN nq).cell? ⟨g, k, none⟩ = some (.string T) := c0
        clear x0 x1 x2 c0 HI
        generalize wr.drewN nq = W0 at y0 y1 y2 d0 HI2 ⊢
        have HD := Lib.hid (show (W0.drew.cell? ⟨w.heap.size, 0, none⟩ = some (.int .i64 a) ∧ W0.drew.cell? ⟨w.heap.size, 1, none⟩ = some (.int .i64 b) ∧ W0.drew.cell? ⟨w.heap.size, 2, none⟩ = some (.int .i64 c)) ∧ W0.drew.cell? ⟨g, k, none⟩ = some (.string T) from ⟨⟨y0, y1, y2⟩, d0⟩)
        go_region_held3 (fun w' => (w'.cell? ⟨w.heap.size, 0, none⟩ = some (.int .i64 a) ∧ w'.cell? ⟨w.heap.size, 1, none⟩ = some (.int .i64 b) ∧ w'.cell? ⟨w.heap.size, 2, none⟩ = some (.int .i64 c)) ∧ w'.cell? ⟨g, k, none⟩ = some (.string T))
          (first | (with_reducible assumption) | (with_reducible exact HD.out) | (with_reducible exact kp) | (go_keep; done))
          (first
            | (go_at_call 32; (with_reducible refine (HWD.out _).mono ?_); rintro e W5 ⟨rfl, hb⟩; replace hb := below_undrew hb; have kc := HC.out W5 (HI2.out.2.trans (hb.mono HI2.out.2.size)) k hlt; rw [HT.out.1] at kc; have kp := And.intro (kept3 HI2.out.1 hb).2 kc; have HI5 := Lib.hid (And.intro (kept3 HI2.out.1 hb).1 (HI2.out.2.trans (hb.mono HI2.out.2.size))); clear hb kc))
        all_goals
          go_wp2_with fail
          go_roundg (N - (k + 1))
          case measure => omega
          case rel => exact ⟨k + 1, by omega, rfl, by simp, HI5⟩
      · have hpos : decide (0 < k) = true := decide_eq_true (by omega)
        have hq1 := HC.out _ HI.out.2 q (by omega)
        have hl := hprev q hkq
        obtain ⟨T', hT'⟩ : ∃ z, L.getD q ⟨#[]⟩ = z := ⟨_, rfl⟩
        rw [hT'] at hq1 hl
        have hqq : (k : Int) - 1 = (q : Int) := by omega
        have hwq : IntKind.i64.wrap (q : Int) = (q : Int) := IntWalk.i64_in _ (by omega)
        have hqN : (q : Int) < (N : Int) := by omega
        clear hprev hkq hT'
        go_wp2_with fail
        go_quiet ((go_at_call 33; exact Calls.quiet_of_same (HCK.out _)))
        go_wp2_with fail
        have HI2 := Lib.hid (And.intro (HI.out.1.drewN nq) (below_drewN HI.out.2 nq))
        have y0 : (wr.drewN nq).cell? ⟨w.heap.size, 0, none⟩ = some (.int .i64 a) := x0
        have y1 : (wr.drewN nq).cell? ⟨w.heap.size, 1, none⟩ = some (.int .i64 b) := x1
        have y2 : (wr.drewN nq).cell? ⟨w.heap.size, 2, none⟩ = some (.int .i64 c) := x2
        have d0 : (wr.drewN nq).cell? ⟨g, k, none⟩ = some (.string T) := c0
        clear x0 x1 x2 c0 HI
        generalize wr.drewN nq = W0 at y0 y1 y2 d0 HI2 ⊢
        have HD := Lib.hid (show (W0.drew.cell? ⟨w.heap.size, 0, none⟩ = some (.int .i64 a) ∧ W0.drew.cell? ⟨w.heap.size, 1, none⟩ = some (.int .i64 b) ∧ W0.drew.cell? ⟨w.heap.size, 2, none⟩ = some (.int .i64 c)) ∧ W0.drew.cell? ⟨g, k, none⟩ = some (.string T) from ⟨⟨y0, y1, y2⟩, d0⟩)
        go_region_held3 (fun w' => (w'.cell? ⟨w.heap.size, 0, none⟩ = some (.int .i64 a) ∧ w'.cell? ⟨w.heap.size, 1, none⟩ = some (.int .i64 b) ∧ w'.cell? ⟨w.heap.size, 2, none⟩ = some (.int .i64 c)) ∧ w'.cell? ⟨g, k, none⟩ = some (.string T))
          (first | (with_reducible assumption) | (with_reducible exact HD.out) | (with_reducible exact kp) | (go_keep; done))
          (first
            | (go_at_call 32; (with_reducible refine (HWD.out _).mono ?_); rintro e W5 ⟨rfl, hb⟩; replace hb := below_undrew hb; have kc := HC.out W5 (HI2.out.2.trans (hb.mono HI2.out.2.size)) k hlt; rw [HT.out.1] at kc; have kp := And.intro (kept3 HI2.out.1 hb).2 kc; have HI5 := Lib.hid (And.intro (kept3 HI2.out.1 hb).1 (HI2.out.2.trans (hb.mono HI2.out.2.size))); clear hb kc))
        all_goals
          go_wp2_with fail
          go_roundg (N - (k + 1))
          case measure => omega
          case rel => exact ⟨k + 1, by omega, rfl, by simp, HI5⟩
    · obtain rfl : N = k := by omega
      go_wp2_with fail
      go_ret
      exact ⟨rfl, HI.out.2⟩
end Go.Proofs.Ytbioehaapcnjmaa
