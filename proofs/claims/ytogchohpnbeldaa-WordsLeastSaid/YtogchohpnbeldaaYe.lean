/- Words that are made: the empty one, the normal word. -/
import Derived.Test.YtogchohpnbeldaaYd
namespace Go.Proofs.Ytogchohpnbeldaa
open Go.RowKit Go.Shelf Cx

theorem infoB : (Try.prog.info? 5).map (fun i => (i.zero, i.size, i.bytes)) = some (some (.int .u8 0), 1, 1) := by kernel_rfl

set_option maxRecDepth 100000 in
theorem makeB (k : Nat) (h : k ≤ 140737488355328) (w : World) : (Instr.makeSlice 58 (.int .i64 k) (.int .i64 k)).run Try.prog w = .ok (.slice (some ⟨w.heap.size, 0, none⟩) k k) (w.alloc (.cells (cellsB (List.replicate k 0)).toArray 5)) := by
  have h := run_make_row' (P := Try.prog) 58 5 (.int .u8 0) 1 Try.underlying58 infoB rfl .i64 .i64 k (by omega) (by omega) w
  rw [h]
  congr 3
  congr 1
  apply Array.ext
  · simp [madeCells, cellsB]
  · intro i h1 h2
    simp [madeCells, cellsB, Nat.mod_one]

set_option maxRecDepth 100000 in
set_option maxHeartbeats 1000000 in
theorem empty_any (ob n : Nat) (w : World) (hn : n ≤ 140737488355328) :
    Calls Try.prog 66 #[.pointer (some ⟨ob, 0, none⟩), .int .i64 n] w fun e w' => ∃ mb rb, e = .returned (.pointer (some ⟨mb, 0, none⟩)) ∧ MadeAt w' mb ob rb (List.replicate n 0) [] ∧ mb ≠ rb ∧ w.heap.size ≤ mb ∧ w.heap.size ≤ rb ∧ Below w.heap.size w w' := by
  have hmk := makeB n hn
  go_enter Try.func66, Try.ntmps66
  go_wp2_with fail
  go_ret
  refine ⟨w.heap.size + 1, w.heap.size, rfl, ⟨?_, ?_⟩, by omega, by omega, Nat.le_refl _, (((Below.refl _ w).alloc (Nat.le_refl _) _).alloc (by simp) _)⟩
  · have := SBlk.new' (w.alloc (.cells (cellsB (List.replicate n 0)).toArray 5)) 146 [.pointer (some ⟨ob, 0, none⟩), .slice (some ⟨w.heap.size, 0, none⟩) n n, .int .i64 n] (w.heap.size + 1) (by simp)
    simpa using this
  · have := (SBlk.new w 5 (cellsB (List.replicate n 0))).alloc (.cells #[.pointer (some ⟨ob, 0, none⟩), .slice (some ⟨w.heap.size, 0, none⟩) n n, .int .i64 n] 146)
    simpa using this

set_option maxRecDepth 100000 in
set_option maxHeartbeats 1000000 in
theorem least_any {M : Nat → Nat → Nat} {a b c : Nat} (hMe : M = Mo a b c) (ha : Lim a) (hb : Lim b) (hc : Lim c) (mb ob rb f : Nat) (V1 V2 : Value) (hor : ob ≠ rb) (hmr : mb ≠ rb) (pre l : List Nat) (w : World)
    (hm : SBlk w mb 146 [.pointer (some ⟨ob, 0, none⟩), V1, V2]) (hlow : ∀ y ∈ f :: l, y < 3) (hml : pre.length + (l.length + 1) ≤ 140737488355328) (hred : Red M (f :: l)) (ho : SBlk w ob 144 (ordCells a b c)) (hr : SBlk w rb 5 (cellsB (pre ++ f :: l))) :
    Calls Try.prog 70 #[.pointer (some ⟨mb, 0, none⟩), .slice (some ⟨rb, pre.length, none⟩) (l.length + 1) (l.length + 1)] w fun e w' => e = .returned (.tuple #[]) ∧
      ∃ c y, (mk (c :: y) : G M) = mk (f :: l) ∧ y.length = l.length ∧ (∀ q ∈ c :: y, q < 3) ∧ (∀ j, j < c → ¬ Ds (mk (c :: y) : G M) j) ∧ SBlk w' rb 5 (cellsB (pre ++ c :: y)) ∧ w.grownBy w' (some rb) := by
  have c0 := hr.cell pre.length
  rw [cellsB_get (x := f) (by simp)] at c0
  have hf : f < 3 := hlow f List.mem_cons_self
  have H := Lib.hid (And.intro hm (And.intro hlow (And.intro hred (And.intro ho hr))))
  clear hm hred ho hr
  have j1 : (0 : Int) < (l.length : Int) + 1 := by omega
  go_enter Try.func70, Try.ntmps70
  go_wp2_with fail
  go_loopw [8] (fun i wr => ∃ (k : Nat) (y : List Nat), k ≤ f ∧ i = .int .u8 (k : Int) ∧ (mk (f :: y) : G M) = mk (f :: l) ∧ y.length = l.length ∧ (∀ q ∈ f :: y, q < 3) ∧ (∀ j, j < k → ¬ Ds (mk (f :: l) : G M) j) ∧ SBlk wr rb 5 (cellsB (pre ++ f :: y)) ∧ w.grownBy wr (some rb)) (fun i _ => f - (intOf i).toNat)
  case atStart => exact ⟨0, l, Nat.zero_le _, rfl, rfl, rfl, H.out.2.1, fun j hj => by omega, H.out.2.2.2.2, only_refl _ _⟩
  case round =>
    obtain ⟨k, y, hk, rfl, hs, hyl, hlw, hds, hsb, hgr⟩ := hrel
    by_cases hkf : k < f
    · have hmm := H.out.1.grown hgr (by intro e; injection e with e; exact hmr e)
      have m0 := hmm.cell 0
      simp only [List.getElem?_cons_zero] at m0
      have hc := fun W h1 h2 => bring_any hMe ha hb hc ob rb hor (l.length + 1) k pre (f :: y) W (by simp [hyl]) (by simp) (by omega) hlw (by simp; omega) (red_same H.out.2.2.1 hs (by simp [hyl])) h1 h2
      have e1 : (f :: y).length = l.length + 1 := by simp [hyl]
      rw [e1] at hc
      have HC := Lib.hid hc
      have hoo := H.out.2.2.2.1.grown hgr (by intro e; injection e with e; exact hor e)
      have HX := Lib.hid (And.intro hoo (And.intro hsb (And.intro hs (And.intro hyl (And.intro hlw (And.intro hds hgr))))))
      clear hc hoo hsb hs hyl hlw hds hgr hmm e1
      go_wp2_with (go_at_call 95; refine (HC.out _ HX.out.1 HX.out.2.1).mono ?_; rintro e w' ⟨bb, z, rfl, hbr, hsb, hgr⟩; have HB := Lib.hid (And.intro hbr (And.intro hsb hgr)); clear hbr hsb hgr; rcases bb)
      · go_roundw
        case measure => simp [intOf]; omega
        case rel =>
          obtain ⟨hoo, hsb, hs, hyl, hlw, hds, hgr⟩ := HX.out
          obtain ⟨hbr, hsb2, hgr2⟩ := HB.out
          have h1 := (hbr.no rfl).2
          have h2 := hbr.len
          cases z with
          | nil => simp at h2
          | cons f' z =>
            simp only [List.head?_cons, Option.some.injEq] at h1
            subst h1
            refine ⟨k + 1, z, by omega, by simp, hbr.same.trans hs, by simp at h2; omega, hbr.low hlw, fun j hj => ?_, hsb2, only_trans hgr hgr2⟩
            rcases Nat.lt_or_ge j k with h | h
            · exact hds j h
            · obtain rfl : j = k := by omega
              rw [← hs]
              exact (hbr.no rfl).1
      · refine bodyPost_ret (results_none rfl _ _ _) rfl ?_
        obtain ⟨hoo, hsb, hs, hyl, hlw, hds, hgr⟩ := HX.out
        obtain ⟨hbr, hsb2, hgr2⟩ := HB.out
        have h1 := hbr.yes rfl
        have h2 := hbr.len
        cases z with
        | nil => simp at h1
        | cons c z =>
          simp only [List.head?_cons, Option.some.injEq] at h1
          subst h1
          refine ⟨rfl, c, z, hbr.same.trans hs, by simp at h2; omega, hbr.low hlw, fun j hj => ?_, hsb2, only_trans hgr hgr2⟩
          rw [hbr.same, hs]
          exact hds j hj
    · obtain rfl : k = f := by omega
      have HX := Lib.hid (And.intro hs (And.intro hyl (And.intro hlw (And.intro hds (And.intro hsb hgr)))))
      clear hs hyl hlw hds hsb hgr
      go_wp2_with fail
      go_end0
      obtain ⟨hs, hyl, hlw, hds, hsb, hgr⟩ := HX.out
      exact ⟨rfl, k, y, hs, hyl, hlw, fun j hj => by rw [hs]; exact hds j hj, hsb, hgr⟩
end Go.Proofs.Ytogchohpnbeldaa
