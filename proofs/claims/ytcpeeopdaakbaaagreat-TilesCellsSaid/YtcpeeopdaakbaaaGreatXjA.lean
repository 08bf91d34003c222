/- What is thrown of orders and words that are handed over. What is thrown of orders and words that are handed over. What is thrown of orders and words that are handed over. What is thrown of orders and words that are handed over. What is thrown of orders and words that are handed over. -/
import Derived.Test.YtcpeeopdaakbaaaGreatXe
import Derived.Test.YtcpeeopdaakbaaaGreatYs
namespace Go.Proofs.YtcpeeopdaakbaaaGreat
set_option linter.unusedSimpArgs false
open Go.RowKit Go.Shelf Cx
attribute [local go_sem ↓] Go.wp_at_zero Go.wp_at_succ

set_option maxRecDepth 100000 in
set_option maxHeartbeats 4000000 in
theorem Normal_err1 (a b c : Int) (pb sb : Nat) (s : ByteArray) (k : Int) (w : World) (hp : SBlk w pb 23 [.int .i64 a, .int .i64 b, .int .i64 c]) (hs : SBlk w sb 9 [.string s])
    (hgv : ∀ vb W, SBlk W vb 9 [.string s] → Calls Tryz.prog 142 #[.agg #[.int .i64 a, .int .i64 b, .int .i64 c], .slice (some ⟨vb, 0, none⟩) 1 1] W fun e w' => e = .panicked (thrown k) ∧ Below W.heap.size W w') :
    Calls Tryz.prog 141 #[.pointer (some ⟨pb, 0, none⟩), .pointer (some ⟨sb, 0, none⟩)] w fun e w' => e = .panicked (thrown k) ∧ Below w.heap.size w w' := by
  have p0 := hp.cell 0
  have p1 := hp.cell 1
  have p2 := hp.cell 2
  have qs := hs.cell 0
  simp only [List.getElem?_cons_zero, List.getElem?_cons_succ] at p0 p1 p2 qs
  have s1 := fun o => hp.alloc o
  have s2 := fun o o' => (hp.alloc o).alloc o'
  have t1s := fun o => hs.alloc o
  have t2s := fun o o' => (hs.alloc o).alloc o'
  have x0 := fun o => (s1 o).cell 0
  have x1 := fun o => (s1 o).cell 1
  have x2 := fun o => (s1 o).cell 2
  have y0 := fun o o' => (s2 o o').cell 0
  have y1 := fun o o' => (s2 o o').cell 1
  have y2 := fun o o' => (s2 o o').cell 2
  have x3s := fun o => (t1s o).cell 0
  have y3s := fun o o' => (t2s o o').cell 0
  simp only [List.getElem?_cons_zero, List.getElem?_cons_succ] at x0 x1 x2 y0 y1 y2 x3s y3s
  clear s1 s2 t1s t2s
  have HG := Lib.hid hgv
  clear hp hgv hs
  go_enter Tryz.func141, Tryz.ntmps141
  go_wp2_with fail
  go_region_with ((go_at_call 142; (refine (HG.out _ _ ?_).mono ?_); (first | exact SBlk.new _ _ [.string s] | exact (SBlk.new _ _ [.string s]).alloc _ | exact SBlk.new' _ _ [.string s] _ (World.size_alloc _ _)); rintro e w1 ⟨rfl, hb⟩; (try have hb := below_undrew hb); (refine (show wpAny Tryz.prog .any #[] (fun _ _ _ => True) 0 #[] { tmps := #[], defers := [] } w1 → _ from fun _ => ?_) ?_); (first | exact And.intro rfl (And.intro rfl (below_a2 hb)) | exact And.intro rfl (And.intro rfl (below_a1 hb)))))
  all_goals trivial

set_option maxRecDepth 100000 in
set_option maxHeartbeats 1000000 in
theorem Normal_err (a b c : Int) (s : ByteArray) (hs : ∀ x ∈ ([s] : List ByteArray), x.size ≤ 9223372036854775807) (he : errorsS a b c [s] ≠ 0) (w : World) :
    Calls Tryz.prog 88 #[.agg #[.int .i64 a, .int .i64 b, .int .i64 c], .string s] w fun e w' => e = .returned (.tuple #[.string ⟨#[]⟩, .int .i64 (errorsS a b c [s])]) ∧ Below w.heap.size w w' := by
  have hmf := makeFunc_run
  have hat := fun W => attempt_string_thrown 141 #[.pointer (some ⟨w.heap.size, 0, none⟩), .pointer (some ⟨w.heap.size + 1, 0, none⟩)] (errorsS a b c [s]) W (enters_of Tryz.func141 (by kernel_rfl) rfl)
  have hcl : ∀ W, Below (w.heap.size + 2) ((w.alloc (.cells #[.int .i64 a, .int .i64 b, .int .i64 c] 23)).alloc (.cells #[.string s] 9)) W → Calls Tryz.prog 141 #[.pointer (some ⟨w.heap.size, 0, none⟩), .pointer (some ⟨w.heap.size + 1, 0, none⟩)] W fun e w' => e = .panicked (thrown (errorsS a b c [s])) ∧ Below W.heap.size W w' := fun W hW =>
    Normal_err1 a b c _ _ s _ W (((SBlk.new w 23 [.int .i64 a, .int .i64 b, .int .i64 c]).alloc _).below hW (by omega)) ((SBlk.new' _ 9 [.string s] _ (World.size_alloc _ _)).below hW (by omega)) (fun vb W' h => given_err a b c vb 1 [s] rfl (by omega) hs he W' h)
  have HA := Lib.hid (And.intro hat hcl)
  generalize errorsS a b c [s] = k at *
  clear hat hcl hs he
  go_enter Tryz.func88, Tryz.ntmps88
  go_wp2_with (go_at_call 140; refine (HA.out.1 _ (fun W hW => HA.out.2 W (hW.mono (by simp)))).mono ?_; rintro e w' ⟨rfl, hb⟩; have HB := Lib.hid (below_a2 hb); clear hb)
  go_ret2
  exact ⟨rfl, HB.out⟩
end Go.Proofs.YtcpeeopdaakbaaaGreat

namespace Go.Proofs.YtcpeeopdaakbaaaGreat
set_option linter.unusedSimpArgs false
open Go.RowKit Go.Shelf Cx
attribute [local go_sem ↓] Go.wp_at_zero Go.wp_at_succ

end Go.Proofs.YtcpeeopdaakbaaaGreat

namespace Go.Proofs.YtcpeeopdaakbaaaGreat
set_option linter.unusedSimpArgs false
open Go.RowKit Go.Shelf Cx
attribute [local go_sem ↓] Go.wp_at_zero Go.wp_at_succ

set_option maxRecDepth 100000 in
set_option maxHeartbeats 4000000 in
theorem Times_err1 (a b c : Int) (pb sb tb : Nat) (s t : ByteArray) (k : Int) (w : World) (hp : SBlk w pb 23 [.int .i64 a, .int .i64 b, .int .i64 c]) (hs : SBlk w sb 9 [.string s]) (ht : SBlk w tb 9 [.string t])
    (hgv : ∀ vb W, SBlk W vb 9 [.string s, .string t] → Calls Tryz.prog 142 #[.agg #[.int .i64 a, .int .i64 b, .int .i64 c], .slice (some ⟨vb, 0, none⟩) 2 2] W fun e w' => e = .panicked (thrown k) ∧ Below W.heap.size W w') :
    Calls Tryz.prog 175 #[.pointer (some ⟨pb, 0, none⟩), .pointer (some ⟨sb, 0, none⟩), .pointer (some ⟨tb, 0, none⟩)] w fun e w' => e = .panicked (thrown k) ∧ Below w.heap.size w w' := by
  have p0 := hp.cell 0
  have p1 := hp.cell 1
  have p2 := hp.cell 2
  have qs := hs.cell 0
  have qt := ht.cell 0
  simp only [List.getElem?_cons_zero, List.getElem?_cons_succ] at p0 p1 p2 qs qt
  have HK := Lib.hid (fun W' (hb : Below w.heap.size w W') => (⟨(hp.below hb hp.lt).cell 0, (hp.below hb hp.lt).cell 1, (hp.below hb hp.lt).cell 2, (hs.below hb hs.lt).cell 0, (ht.below hb ht.lt).cell 0⟩ : W'.cell? ⟨pb, 0, none⟩ = some (.int .i64 a) ∧ W'.cell? ⟨pb, 1, none⟩ = some (.int .i64 b) ∧ W'.cell? ⟨pb, 2, none⟩ = some (.int .i64 c) ∧ W'.cell? ⟨sb, 0, none⟩ = some (.string s) ∧ W'.cell? ⟨tb, 0, none⟩ = some (.string t)))
  have hd0 := (Below.refl w.heap.size w).drew
  have hd1 := ((Below.refl w.heap.size w).alloc (Nat.le_refl _) (.cells #[.string s, .string t] 9)).drew
  have hd2 := (((Below.refl w.heap.size w).alloc (Nat.le_refl _) (.cells #[.string s, .string t] 9)).alloc (by simp) (.cells #[.string s, .string t] 9)).drew
  have HD := Lib.hid (And.intro hd0 (And.intro hd1 hd2))
  clear hd0 hd1 hd2
  have HG := Lib.hid hgv
  clear hp hgv hs ht
  go_enter Tryz.func175, Tryz.ntmps175
  go_wp2_with fail
  refine wp_region_held_drew (S := (fun w' => w'.cell? ⟨pb, 0, none⟩ = some (.int .i64 a) ∧ w'.cell? ⟨pb, 1, none⟩ = some (.int .i64 b) ∧ w'.cell? ⟨pb, 2, none⟩ = some (.int .i64 c) ∧ w'.cell? ⟨sb, 0, none⟩ = some (.string s) ∧ w'.cell? ⟨tb, 0, none⟩ = some (.string t))) (by kernel_rfl) ?_ (fun hHeld => ?_)
  · (first | (with_reducible exact HK.out _ HD.out.1) | (with_reducible exact HK.out _ HD.out.2.1) | (with_reducible exact HK.out _ HD.out.2.2) | (simp [*, World.cell?_alloc_some]; done))
  refine wpAnyH_take (i := 0) (v := ?_) rfl (by kernel_rfl) (by kernel_rfl) (by kernel_rfl) (fun _ _ _ h => h) (Or.inl ⟨by rfl, ?_⟩) (by assumption) ?_
  rotate_left
  · (intro w hSw; (try dsimp only at hSw); go_simp; (try with_reducible rfl))
  simp only [Act.put, List.setIfInBounds_toArray, List.set_cons_zero, List.set_cons_succ]
  refine wpAnyH_take (i := 1) (v := ?_) rfl (by kernel_rfl) (by kernel_rfl) (by kernel_rfl) (fun _ _ _ h => h) (Or.inl ⟨by rfl, ?_⟩) (by assumption) ?_
  rotate_left
  · (intro w hSw; (try dsimp only at hSw); go_simp; (try with_reducible rfl))
  simp only [Act.put, List.setIfInBounds_toArray, List.set_cons_zero, List.set_cons_succ]
  refine wpAnyH_take (i := 2) (v := ?_) rfl (by kernel_rfl) (by kernel_rfl) (by kernel_rfl) (fun _ _ _ h => h) (Or.inl ⟨by rfl, ?_⟩) (by assumption) ?_
  rotate_left
  · (intro w hSw; (try dsimp only at hSw); go_simp; (try with_reducible rfl))
  simp only [Act.put, List.setIfInBounds_toArray, List.set_cons_zero, List.set_cons_succ]
  refine wpAnyH_take (i := 5) (v := ?_) rfl (by kernel_rfl) (by kernel_rfl) (by kernel_rfl) (fun _ _ _ h => h) (Or.inl ⟨by rfl, ?_⟩) (by assumption) ?_
  rotate_left
  · (intro w hSw; (try dsimp only at hSw); go_simp; (try with_reducible rfl))
  simp only [Act.put, List.setIfInBounds_toArray, List.set_cons_zero, List.set_cons_succ]
  refine wpAnyH_take (i := 6) (v := ?_) rfl (by kernel_rfl) (by kernel_rfl) (by kernel_rfl) (fun _ _ _ h => h) (Or.inl ⟨by rfl, ?_⟩) (by assumption) ?_
  rotate_left
  · (intro w hSw; (try dsimp only at hSw); go_simp; (try with_reducible rfl))
  simp only [Act.put, List.setIfInBounds_toArray, List.set_cons_zero, List.set_cons_succ]
  refine wpAnyH_ready (rs := [3, 7]) (by kernel_rfl) (by simp) ?_
  refine AllReadyH.cons rfl (fun K hK => ?_) ?_
  · go_simp
    refine hK.out _ _ ?_ (fun hHeld => ?_)
    · (first | (with_reducible exact HK.out _ HD.out.1) | (with_reducible exact HK.out _ HD.out.2.1) | (with_reducible exact HK.out _ HD.out.2.2) | (simp [*, World.cell?_alloc_some]; done))
    clear hK K
    try simp only [Act.put, List.setIfInBounds_toArray, List.set_cons_zero, List.set_cons_succ]
    refine wpAnyH_ready (rs := [4, 7]) (by kernel_rfl) (by simp) ?_
    refine AllReadyH.cons rfl (fun K hK => ?_) ?_
    · go_simp
      go_wp2_with (go_at_call 142; (refine (HG.out _ _ ?_).mono ?_); (first | exact SBlk.new _ _ [.string s, .string t] | exact (SBlk.new _ _ [.string s, .string t]).alloc _ | exact SBlk.new' _ _ [.string s, .string t] _ (World.size_alloc _ _)); rintro e w1 ⟨rfl, hb⟩; (try have hb := below_undrew hb); (first | exact And.intro rfl (And.intro rfl (below_a2 hb)) | exact And.intro rfl (And.intro rfl (below_a1 hb))))
    refine AllReadyH.cons rfl (fun K hK => ?_) ?_
    · go_simp
      refine hK.out _ _ ?_ (fun hHeld => ?_)
      · (first | (with_reducible exact HK.out _ HD.out.1) | (with_reducible exact HK.out _ HD.out.2.1) | (with_reducible exact HK.out _ HD.out.2.2) | (simp [*, World.cell?_alloc_some]; done))
      clear hK K
      try simp only [Act.put, List.setIfInBounds_toArray, List.set_cons_zero, List.set_cons_succ]
      refine wpAnyH_ready (rs := [4]) (by kernel_rfl) (by simp) ?_
      refine AllReadyH.cons rfl (fun K hK => ?_) ?_
      · go_simp
        go_wp2_with (go_at_call 142; (refine (HG.out _ _ ?_).mono ?_); (first | exact SBlk.new _ _ [.string s, .string t] | exact (SBlk.new _ _ [.string s, .string t]).alloc _ | exact SBlk.new' _ _ [.string s, .string t] _ (World.size_alloc _ _)); rintro e w1 ⟨rfl, hb⟩; (try have hb := below_undrew hb); (first | exact And.intro rfl (And.intro rfl (below_a2 hb)) | exact And.intro rfl (And.intro rfl (below_a1 hb))))
      exact AllReadyH.nil
    exact AllReadyH.nil
  refine AllReadyH.cons rfl (fun K hK => ?_) ?_
  · go_simp
    refine hK.out _ _ ?_ (fun hHeld => ?_)
    · (first | (with_reducible exact HK.out _ HD.out.1) | (with_reducible exact HK.out _ HD.out.2.1) | (with_reducible exact HK.out _ HD.out.2.2) | (simp [*, World.cell?_alloc_some]; done))
    clear hK K
    try simp only [Act.put, List.setIfInBounds_toArray, List.set_cons_zero, List.set_cons_succ]
    refine wpAnyH_ready (rs := [3]) (by kernel_rfl) (by simp) ?_
    refine AllReadyH.cons rfl (fun K hK => ?_) ?_
    · go_simp
      refine hK.out _ _ ?_ (fun hHeld => ?_)
      · (first | (with_reducible exact HK.out _ HD.out.1) | (with_reducible exact HK.out _ HD.out.2.1) | (with_reducible exact HK.out _ HD.out.2.2) | (simp [*, World.cell?_alloc_some]; done))
      clear hK K
      try simp only [Act.put, List.setIfInBounds_toArray, List.set_cons_zero, List.set_cons_succ]
      refine wpAnyH_ready (rs := [4]) (by kernel_rfl) (by simp) ?_
      refine AllReadyH.cons rfl (fun K hK => ?_) ?_
      · go_simp
        go_wp2_with (go_at_call 142; (refine (HG.out _ _ ?_).mono ?_); (first | exact SBlk.new _ _ [.string s, .string t] | exact (SBlk.new _ _ [.string s, .string t]).alloc _ | exact SBlk.new' _ _ [.string s, .string t] _ (World.size_alloc _ _)); rintro e w1 ⟨rfl, hb⟩; (try have hb := below_undrew hb); (first | exact And.intro rfl (And.intro rfl (below_a2 hb)) | exact And.intro rfl (And.intro rfl (below_a1 hb))))
      exact AllReadyH.nil
    exact AllReadyH.nil
  exact AllReadyH.nil

set_option maxRecDepth 100000 in
set_option maxHeartbeats 1000000 in
theorem Times_err (a b c : Int) (s t : ByteArray) (hs : ∀ x ∈ ([s, t] : List ByteArray), x.size ≤ 9223372036854775807) (he : errorsS a b c [s, t] ≠ 0) (w : World) :
    Calls Tryz.prog 121 #[.agg #[.int .i64 a, .int .i64 b, .int .i64 c], .string s, .string t] w fun e w' => e = .returned (.tuple #[.string ⟨#[]⟩, .int .i64 (errorsS a b c [s, t])]) ∧ Below w.heap.size w w' := by
  have hmf := makeFunc_run
  have hat := fun W => attempt_string_thrown 175 #[.pointer (some ⟨w.heap.size, 0, none⟩), .pointer (some ⟨w.heap.size + 1, 0, none⟩), .pointer (some ⟨w.heap.size + 2, 0, none⟩)] (errorsS a b c [s, t]) W (enters_of Tryz.func175 (by kernel_rfl) rfl)
  have hcl : ∀ W, Below (w.heap.size + 3) (((w.alloc (.cells #[.int .i64 a, .int .i64 b, .int .i64 c] 23)).alloc (.cells #[.string s] 9)).alloc (.cells #[.string t] 9)) W → Calls Tryz.prog 175 #[.pointer (some ⟨w.heap.size, 0, none⟩), .pointer (some ⟨w.heap.size + 1, 0, none⟩), .pointer (some ⟨w.heap.size + 2, 0, none⟩)] W fun e w' => e = .panicked (thrown (errorsS a b c [s, t])) ∧ Below W.heap.size W w' := fun W hW =>
    Times_err1 a b c _ _ _ s t _ W ((((SBlk.new w 23 [.int .i64 a, .int .i64 b, .int .i64 c]).alloc _).alloc _).below hW (by omega)) (((SBlk.new' _ 9 [.string s] _ (World.size_alloc _ _)).alloc _).below hW (by omega)) ((SBlk.new' _ 9 [.string t] (w.heap.size + 2) (by simp)).below hW (by omega)) (fun vb W' h => given_err a b c vb 2 [s, t] rfl (by omega) hs he W' h)
  have HA := Lib.hid (And.intro hat hcl)
  generalize errorsS a b c [s, t] = k at *
  clear hat hcl hs he
  go_enter Tryz.func121, Tryz.ntmps121
  go_wp2_with (go_at_call 140; refine (HA.out.1 _ (fun W hW => HA.out.2 W (hW.mono (by simp)))).mono ?_; rintro e w' ⟨rfl, hb⟩; have HB := Lib.hid (below_a1 (below_a2 hb)); clear hb)
  go_ret2
  exact ⟨rfl, HB.out⟩
end Go.Proofs.YtcpeeopdaakbaaaGreat

namespace Go.Proofs.YtcpeeopdaakbaaaGreat
set_option linter.unusedSimpArgs false
open Go.RowKit Go.Shelf Cx
attribute [local go_sem ↓] Go.wp_at_zero Go.wp_at_succ

set_option maxRecDepth 100000 in
set_option maxHeartbeats 4000000 in
theorem Inverse_err1 (a b c : Int) (pb sb : Nat) (s : ByteArray) (k : Int) (w : World) (hp : SBlk w pb 23 [.int .i64 a, .int .i64 b, .int .i64 c]) (hs : SBlk w sb 9 [.string s])
    (hgv : ∀ vb W, SBlk W vb 9 [.string s] → Calls Tryz.prog 142 #[.agg #[.int .i64 a, .int .i64 b, .int .i64 c], .slice (some ⟨vb, 0, none⟩) 1 1] W fun e w' => e = .panicked (thrown k) ∧ Below W.heap.size W w') :
    Calls Tryz.prog 173 #[.pointer (some ⟨pb, 0, none⟩), .pointer (some ⟨sb, 0, none⟩)] w fun e w' => e = .panicked (thrown k) ∧ Below w.heap.size w w' := by
  have p0 := hp.cell 0
  have p1 := hp.cell 1
  have p2 := hp.cell 2
  have qs := hs.cell 0
  simp only [List.getElem?_cons_zero, List.getElem?_cons_succ] at p0 p1 p2 qs
  have s1 := fun o => hp.alloc o
  have s2 := fun o o' => (hp.alloc o).alloc o'
  have t1s := fun o => hs.alloc o
  have t2s := fun o o' => (hs.alloc o).alloc o'
  have x0 := fun o => (s1 o).cell 0
  have x1 := fun o => (s1 o).cell 1
  have x2 := fun o => (s1 o).cell 2
  have y0 := fun o o' => (s2 o o').cell 0
  have y1 := fun o o' => (s2 o o').cell 1
  have y2 := fun o o' => (s2 o o').cell 2
  have x3s := fun o => (t1s o).cell 0
  have y3s := fun o o' => (t2s o o').cell 0
  simp only [List.getElem?_cons_zero, List.getElem?_cons_succ] at x0 x1 x2 y0 y1 y2 x3s y3s
  clear s1 s2 t1s t2s
  have HG := Lib.hid hgv
  clear hp hgv hs
  go_enter Tryz.func173, Tryz.ntmps173
  go_wp2_with fail
  go_region_with ((go_at_call 142; (refine (HG.out _ _ ?_).mono ?_); (first | exact SBlk.new _ _ [.string s] | exact (SBlk.new _ _ [.string s]).alloc _ | exact SBlk.new' _ _ [.string s] _ (World.size_alloc _ _)); rintro e w1 ⟨rfl, hb⟩; (try have hb := below_undrew hb); (refine (show wpAny Tryz.prog .any #[] (fun _ _ _ => True) 0 #[] { tmps := #[], defers := [] } w1 → _ from fun _ => ?_) ?_); (first | exact And.intro rfl (And.intro rfl (below_a2 hb)) | exact And.intro rfl (And.intro rfl (below_a1 hb)))))
  all_goals trivial

set_option maxRecDepth 100000 in
set_option maxHeartbeats 1000000 in
theorem Inverse_err (a b c : Int) (s : ByteArray) (hs : ∀ x ∈ ([s] : List ByteArray), x.size ≤ 9223372036854775807) (he : errorsS a b c [s] ≠ 0) (w : World) :
    Calls Tryz.prog 120 #[.agg #[.int .i64 a, .int .i64 b, .int .i64 c], .string s] w fun e w' => e = .returned (.tuple #[.string ⟨#[]⟩, .int .i64 (errorsS a b c [s])]) ∧ Below w.heap.size w w' := by
  have hmf := makeFunc_run
  have hat := fun W => attempt_string_thrown 173 #[.pointer (some ⟨w.heap.size, 0, none⟩), .pointer (some ⟨w.heap.size + 1, 0, none⟩)] (errorsS a b c [s]) W (enters_of Tryz.func173 (by kernel_rfl) rfl)
  have hcl : ∀ W, Below (w.heap.size + 2) ((w.alloc (.cells #[.int .i64 a, .int .i64 b, .int .i64 c] 23)).alloc (.cells #[.string s] 9)) W → Calls Tryz.prog 173 #[.pointer (some ⟨w.heap.size, 0, none⟩), .pointer (some ⟨w.heap.size + 1, 0, none⟩)] W fun e w' => e = .panicked (thrown (errorsS a b c [s])) ∧ Below W.heap.size W w' := fun W hW =>
    Inverse_err1 a b c _ _ s _ W (((SBlk.new w 23 [.int .i64 a, .int .i64 b, .int .i64 c]).alloc _).below hW (by omega)) ((SBlk.new' _ 9 [.string s] _ (World.size_alloc _ _)).below hW (by omega)) (fun vb W' h => given_err a b c vb 1 [s] rfl (by omega) hs he W' h)
  have HA := Lib.hid (And.intro hat hcl)
  generalize errorsS a b c [s] = k at *
  clear hat hcl hs he
  go_enter Tryz.func120, Tryz.ntmps120
  go_wp2_with (go_at_call 140; refine (HA.out.1 _ (fun W hW => HA.out.2 W (hW.mono (by simp)))).mono ?_; rintro e w' ⟨rfl, hb⟩; have HB := Lib.hid (below_a2 hb); clear hb)
  go_ret2
  exact ⟨rfl, HB.out⟩
end Go.Proofs.YtcpeeopdaakbaaaGreat

namespace Go.Proofs.YtcpeeopdaakbaaaGreat
set_option linter.unusedSimpArgs false
open Go.RowKit Go.Shelf Cx
attribute [local go_sem ↓] Go.wp_at_zero Go.wp_at_succ

end Go.Proofs.YtcpeeopdaakbaaaGreat
