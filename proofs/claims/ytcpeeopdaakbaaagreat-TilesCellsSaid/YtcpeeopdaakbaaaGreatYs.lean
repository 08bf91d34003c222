/- Times, Order; Normal of a word that is not allowed. -/
import Derived.Test.YtcpeeopdaakbaaaGreatYp
import Derived.Deep.DrawnRows
namespace Go.Proofs.YtcpeeopdaakbaaaGreat
open Go.RowKit Go.Shelf Cx
attribute [local go_sem ↓] Go.wp_at_zero Go.wp_at_succ

theorem given_bad {a b c : Nat} (hg : Good a b c) (vb : Nat) (s : ByteArray) (hs : s.size ≤ 140737488355328) (he : checkS s ≠ 0) (w : World) (hv : SBlk w vb 9 [.string s]) :
    Calls Tryz.prog 142 #[.agg #[.int .i64 a, .int .i64 b, .int .i64 c], .slice (some ⟨vb, 0, none⟩) 1 1] w fun e w' => e = .panicked (thrown (checkS s)) ∧ Below w.heap.size w w' := by
  refine (given_any a b c hg.la hg.lb hg.lc hg.lf vb [s] w hv (by simp) (fun t ht => by simp at ht; subst ht; exact Nat.le_trans hs (by omega))).mono ?_
  have e0 : errs [s] = checkS s := by unfold errs; rw [if_neg he]
  rintro e w' ⟨hb, ⟨h0, _⟩ | ⟨_, rfl⟩⟩
  · rw [e0] at h0; exact absurd h0 he
  · rw [e0]; exact ⟨rfl, hb⟩

set_option maxRecDepth 100000 in
set_option maxHeartbeats 4000000 in
theorem normal1_thrown (a b c pb wb : Nat) (s : ByteArray) (hg : Good a b c) (hs : s.size ≤ 140737488355328) (he : checkS s ≠ 0) (w : World) (hp : SBlk w pb 23 [.int .i64 a, .int .i64 b, .int .i64 c]) (hw : SBlk w wb 9 [.string s]) :
    Calls Tryz.prog 141 #[.pointer (some ⟨pb, 0, none⟩), .pointer (some ⟨wb, 0, none⟩)] w fun e w' => e = .panicked (thrown (checkS s)) ∧ Below w.heap.size w w' := by
  have p0 := hp.cell 0
  have p1 := hp.cell 1
  have p2 := hp.cell 2
  have q0 := hw.cell 0
  simp only [List.getElem?_cons_zero, List.getElem?_cons_succ] at p0 p1 p2 q0
  have s1 := fun o => hp.alloc o
  have s2 := fun o o' => (hp.alloc o).alloc o'
  have t1 := fun o => hw.alloc o
  have t2 := fun o o' => (hw.alloc o).alloc o'
  have x0 := fun o => (s1 o).cell 0
  have x1 := fun o => (s1 o).cell 1
  have x2 := fun o => (s1 o).cell 2
  have x3 := fun o => (t1 o).cell 0
  have y0 := fun o o' => (s2 o o').cell 0
  have y1 := fun o o' => (s2 o o').cell 1
  have y2 := fun o o' => (s2 o o').cell 2
  have y3 := fun o o' => (t2 o o').cell 0
  simp only [List.getElem?_cons_zero, List.getElem?_cons_succ] at x0 x1 x2 x3 y0 y1 y2 y3
  clear s1 s2 t1 t2
  have HG := Lib.hid (fun vb W h => given_bad hg vb s hs he W h)
  clear hp hw hg he hs
  go_enter Tryz.func141, Tryz.ntmps141
  go_wp2_with fail
  go_region_with ((go_at_call 142; (refine (HG.out _ _ ?_).mono ?_); (first | exact SBlk.new _ _ [.string s] | exact (SBlk.new _ _ [.string s]).alloc _ | exact SBlk.new' _ _ [.string s] _ (World.size_alloc _ _)); rintro e w1 ⟨rfl, hb⟩; (try have hb := below_undrew hb); (refine (show wpAny Tryz.prog .any #[] (fun _ _ _ => True) 0 #[] { tmps := #[], defers := [] } w1 → _ from fun _ => ?_) ?_); (first | exact And.intro rfl (And.intro rfl (below_a2 hb)) | exact And.intro rfl (And.intro rfl (below_a1 hb)))))
  all_goals trivial
end Go.Proofs.YtcpeeopdaakbaaaGreat
