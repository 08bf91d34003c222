/- Normal. -/
import Derived.Test.YtogchohpnbeldaaYl
namespace Go.Proofs.Ytogchohpnbeldaa
open Go.RowKit Go.Shelf Cx

/-- orders that are allowed -/
structure Good (a b c : Nat) : Prop where
  la : Lim a
  lb : Lim b
  lc : Lim c
  lf : faultS a b c = 0

/-- the normal word of words one behind another -/
noncomputable def nfW (a b c : Nat) (ws : List ByteArray) : List Nat := nf (mk (cat ws) : G (Mo a b c))

theorem checkS_low {s : ByteArray} (h : checkS s = 0) : (∀ y ∈ bytesN s, y < 3) ∧ s.size ≤ 60 := by
  unfold checkS at h
  by_cases h1 : (bytesN s).all (· < 3) = true
  · rw [if_pos h1] at h
    refine ⟨fun y hy => by simpa using List.all_eq_true.1 h1 y hy, ?_⟩
    by_cases h2 : 60 < s.size
    · rw [if_pos h2] at h; cases h
    · omega
  · rw [if_neg h1] at h; cases h
theorem errs_low : ∀ {ws : List ByteArray}, errs ws = 0 → ∀ s ∈ ws, checkS s = 0 := by
  intro ws
  induction ws with
  | nil => intro _ s h; cases h
  | cons t ws ih =>
    intro h s hs
    unfold errs at h
    by_cases h0 : checkS t = 0
    · rw [if_pos h0] at h
      rcases List.mem_cons.1 hs with rfl | hs
      · exact h0
      · exact ih h s hs
    · rw [if_neg h0] at h; exact absurd h h0
theorem cat_low {ws : List ByteArray} (h : ∀ s ∈ ws, checkS s = 0) : (∀ y ∈ cat ws, y < 3) ∧ (cat ws).length ≤ ws.length * 60 := by
  induction ws with
  | nil => exact ⟨(fun y hy => by cases hy), by simp [cat]⟩
  | cons t ws ih =>
    have ih := ih (fun s hs => h s (List.mem_cons_of_mem _ hs))
    have ht := checkS_low (h t List.mem_cons_self)
    rw [cat_cons]
    refine ⟨fun y hy => ?_, ?_⟩
    · rcases List.mem_append.1 hy with h1 | h1
      · exact ht.1 y h1
      · exact ih.1 y h1
    · rw [List.length_append, bytesN_length, List.length_cons, Nat.add_mul]; omega

theorem given_ok {a b c : Nat} (hg : Good a b c) (n vb : Nat) (ws : List ByteArray) (hl : ws.length = n) (hn : n ≤ 60) (he : ∀ s ∈ ws, checkS s = 0) (w : World) (hv : SBlk w vb 9 (cellsS ws)) :
    Calls Try.prog 37 #[.agg #[.int .i64 a, .int .i64 b, .int .i64 c], .slice (some ⟨vb, 0, none⟩) n n] w fun e w' => ∃ ob, e = .returned (.pointer (some ⟨ob, 0, none⟩)) ∧ SBlk w' ob 144 (ordCells a b c) ∧ w.heap.size ≤ ob ∧ Below w.heap.size w w' := by
  subst hl
  refine (given_any a b c hg.la hg.lb hg.lc hg.lf vb ws w hv (by omega) (fun s hs => by have := (checkS_low (he s hs)).2; omega)).mono ?_
  rintro e w' ⟨hb, ⟨_, ob, rfl, ho, hle⟩ | ⟨h0, _⟩⟩
  · exact ⟨ob, rfl, ho, hle, hb⟩
  · exfalso
    apply h0
    clear h0 hv hn hb
    rename_i hp
    clear hp
    induction ws with
    | nil => rfl
    | cons t ws ih => unfold errs; rw [if_pos (he t List.mem_cons_self)]; exact ih (fun s hs => he s (List.mem_cons_of_mem _ hs))

/-- what product leaves, for normal -/
def RProd (a b c ob : Nat) (ws : List ByteArray) (w : World) (e : Ending) (w' : World) : Prop :=
  ∃ mb rb pre l, e = .returned (.pointer (some ⟨mb, 0, none⟩)) ∧ MadeAt w' mb ob rb pre l ∧ SBlk w' ob 144 (ordCells a b c) ∧ Red (Mo a b c) l ∧ (mk l : G (Mo a b c)) = mk (cat ws) ∧ (∀ y ∈ l, y < 3) ∧ pre.length + l.length ≤ 140737488355328 ∧ mb ≠ rb ∧ ob ≠ rb ∧ w.heap.size ≤ rb ∧ Below w.heap.size w w'

theorem product_ok {a b c : Nat} (hg : Good a b c) (n ob vb : Nat) (ws : List ByteArray) (hl : ws.length = n) (hn : n ≤ 60) (he : ∀ s ∈ ws, checkS s = 0) (w : World) (ho : SBlk w ob 144 (ordCells a b c)) (hv : SBlk w vb 9 (cellsS ws)) :
    Calls Try.prog 38 #[.pointer (some ⟨ob, 0, none⟩), .slice (some ⟨vb, 0, none⟩) n n] w (RProd a b c ob ws w) := by
  subst hl
  have hc := cat_low he
  have holt := ho.lt
  refine (product_any rfl hg.la hg.lb hg.lc ob vb ws w ho hv hc.1 (by omega) (by omega)).mono ?_
  rintro e w' ⟨mb, rb, pre, l, rfl, h1, h2, h3, h4, h5, h6, h7, h8, h9⟩
  exact ⟨mb, rb, pre, l, rfl, h1, ho.below h9 holt, h2, h3, h4, by omega, h6, by omega, h8, h9⟩

theorem normal_ok {a b c ob mb rb : Nat} (hg : Good a b c) (pre l : List Nat) (ws : List ByteArray) (w : World) (h1 : MadeAt w mb ob rb pre l) (ho : SBlk w ob 144 (ordCells a b c)) (h2 : Red (Mo a b c) l) (h3 : (mk l : G (Mo a b c)) = mk (cat ws)) (h4 : ∀ y ∈ l, y < 3) (h5 : pre.length + l.length ≤ 140737488355328) (h6 : mb ≠ rb) (h7 : ob ≠ rb) :
    Calls Try.prog 39 #[.pointer (some ⟨mb, 0, none⟩)] w fun e w' => e = .returned (.string (str (nfW a b c ws))) ∧ w.grownBy w' (some rb) := by
  refine (normal_any rfl hg.la hg.lb hg.lc mb ob rb h7 h6 pre l w h1 h4 h5 h2 ho).mono ?_
  rintro e w' ⟨rfl, _, _, hgr⟩
  exact ⟨by rw [h3]; rfl, hgr⟩

theorem one_ok {s : ByteArray} (he : checkS s = 0) : ∀ t ∈ [s], checkS t = 0 := by
  intro t ht; simp at ht; subst ht; exact he
theorem two_ok {s t : ByteArray} (hs : checkS s = 0) (ht : checkS t = 0) : ∀ u ∈ [s, t], checkS u = 0 := by
  intro u hu; simp at hu; rcases hu with rfl | rfl <;> assumption

theorem below_undrew {n : Nat} {A B : World} (h : Below n A.drew B) : Below n A B := ⟨h.os, h.tape, h.output, h.size, h.block⟩

/-- what given leaves, behind blocks that are new -/
def RGive (a b c : Nat) (w : World) (P : World → Prop) (e : Ending) (w' : World) : Prop :=
  ∃ ob, e = .returned (.pointer (some ⟨ob, 0, none⟩)) ∧ SBlk w' ob 144 (ordCells a b c) ∧ P w' ∧ Below w.heap.size w w'

theorem given_one {a b c : Nat} (hg : Good a b c) (n : Nat) (ws : List ByteArray) (vs : List Value) (hvs : vs = cellsS ws) (hl : ws.length = n) (hn : n ≤ 60) (he : ∀ s ∈ ws, checkS s = 0) (w : World) :
    Calls Try.prog 37 #[.agg #[.int .i64 a, .int .i64 b, .int .i64 c], .slice (some ⟨w.heap.size, 0, none⟩) n n] (w.alloc (.cells vs.toArray 9)).drew (RGive a b c w (fun w' => SBlk w' w.heap.size 9 (cellsS ws))) := by
  subst hvs
  refine (given_ok hg n w.heap.size ws hl hn he _ (by exact SBlk.new w 9 (cellsS ws))).mono ?_
  rintro e w' ⟨ob, rfl, ho, _, hb⟩
  have hb' : Below (w.heap.size + 1) (w.alloc (.cells (cellsS ws).toArray 9)) w' := (below_undrew hb).mono (by simp)
  exact ⟨ob, rfl, ho, (SBlk.new w 9 (cellsS ws)).below hb' (by omega), ((Below.refl _ w).alloc (Nat.le_refl _) _).trans (hb'.mono (by omega))⟩

theorem given_two {a b c : Nat} (hg : Good a b c) (n : Nat) (ws us : List ByteArray) (vs xs : List Value) (hvs : vs = cellsS ws) (hxs : xs = cellsS us) (hl : ws.length = n) (hn : n ≤ 60) (he : ∀ s ∈ ws, checkS s = 0) (w : World) :
    Calls Try.prog 37 #[.agg #[.int .i64 a, .int .i64 b, .int .i64 c], .slice (some ⟨w.heap.size, 0, none⟩) n n] ((w.alloc (.cells vs.toArray 9)).alloc (.cells xs.toArray 9)).drew (RGive a b c w (fun w' => SBlk w' w.heap.size 9 (cellsS ws) ∧ SBlk w' (w.heap.size + 1) 9 (cellsS us))) := by
  subst hvs hxs
  have h1 : SBlk ((w.alloc (.cells (cellsS ws).toArray 9)).alloc (.cells (cellsS us).toArray 9)) w.heap.size 9 (cellsS ws) := (SBlk.new w 9 (cellsS ws)).alloc _
  have h2 : SBlk ((w.alloc (.cells (cellsS ws).toArray 9)).alloc (.cells (cellsS us).toArray 9)) (w.heap.size + 1) 9 (cellsS us) := SBlk.new' _ _ _ _ (by simp)
  refine (given_ok hg n w.heap.size ws hl hn he _ (by exact h1)).mono ?_
  rintro e w' ⟨ob, rfl, ho, _, hb⟩
  have hb' : Below (w.heap.size + 2) ((w.alloc (.cells (cellsS ws).toArray 9)).alloc (.cells (cellsS us).toArray 9)) w' := (below_undrew hb).mono (by simp)
  exact ⟨ob, rfl, ho, ⟨h1.below hb' (by omega), h2.below hb' (by omega)⟩, (((Below.refl _ w).alloc (Nat.le_refl _) _).alloc (by simp) _).trans (hb'.mono (by omega))⟩

theorem given_two' {a b c : Nat} (hg : Good a b c) (n : Nat) (ws us : List ByteArray) (vs xs : List Value) (hvs : vs = cellsS ws) (hxs : xs = cellsS us) (hl : us.length = n) (hn : n ≤ 60) (he : ∀ s ∈ us, checkS s = 0) (w : World) :
    Calls Try.prog 37 #[.agg #[.int .i64 a, .int .i64 b, .int .i64 c], .slice (some ⟨w.heap.size + 1, 0, none⟩) n n] ((w.alloc (.cells vs.toArray 9)).alloc (.cells xs.toArray 9)).drew (RGive a b c w (fun w' => SBlk w' w.heap.size 9 (cellsS ws) ∧ SBlk w' (w.heap.size + 1) 9 (cellsS us))) := by
  subst hvs hxs
  have h1 : SBlk ((w.alloc (.cells (cellsS ws).toArray 9)).alloc (.cells (cellsS us).toArray 9)) w.heap.size 9 (cellsS ws) := (SBlk.new w 9 (cellsS ws)).alloc _
  have h2 : SBlk ((w.alloc (.cells (cellsS ws).toArray 9)).alloc (.cells (cellsS us).toArray 9)) (w.heap.size + 1) 9 (cellsS us) := SBlk.new' _ _ _ _ (by simp)
  refine (given_ok hg n (w.heap.size + 1) us hl hn he _ (by exact h2)).mono ?_
  rintro e w' ⟨ob, rfl, ho, _, hb⟩
  have hb' : Below (w.heap.size + 2) ((w.alloc (.cells (cellsS ws).toArray 9)).alloc (.cells (cellsS us).toArray 9)) w' := (below_undrew hb).mono (by simp)
  exact ⟨ob, rfl, ho, ⟨h1.below hb' (by omega), h2.below hb' (by omega)⟩, (((Below.refl _ w).alloc (Nat.le_refl _) _).alloc (by simp) _).trans (hb'.mono (by omega))⟩

/-- product, its words in a block that is new -/
theorem product_new {a b c : Nat} (hg : Good a b c) (n ob : Nat) (ws : List ByteArray) (vs : List Value) (hvs : vs = cellsS ws) (hl : ws.length = n) (hn : n ≤ 60) (he : ∀ s ∈ ws, checkS s = 0) (w : World) (ho : SBlk w ob 144 (ordCells a b c)) :
    Calls Try.prog 38 #[.pointer (some ⟨ob, 0, none⟩), .slice (some ⟨w.heap.size, 0, none⟩) n n] (w.alloc (.cells vs.toArray 9)) (RProd a b c ob ws w) := by
  subst hvs
  refine (product_ok hg n ob w.heap.size ws hl hn he _ (ho.alloc _) (SBlk.new w 9 (cellsS ws))).mono ?_
  rintro e w' ⟨mb, rb, pre, l, rfl, h1, h2, h3, h4, h5, h6, h7, h8, h9, hb⟩
  have hb' : Below (w.heap.size + 1) (w.alloc (.cells (cellsS ws).toArray 9)) w' := hb.mono (by simp)
  exact ⟨mb, rb, pre, l, rfl, h1, h2, h3, h4, h5, h6, h7, h8, by simp at h9; omega, ((Below.refl _ w).alloc (Nat.le_refl _) _).trans (hb'.mono (by omega))⟩

/-- the cells of orders and words that are kept -/
def KeptO (pb a b c : Nat) (w' : World) : Prop := w'.cell? ⟨pb, 0, none⟩ = some (.int .i64 a) ∧ w'.cell? ⟨pb, 1, none⟩ = some (.int .i64 b) ∧ w'.cell? ⟨pb, 2, none⟩ = some (.int .i64 c)
theorem keptO {pb a b c : Nat} {w w' : World} (h : SBlk w pb 23 [.int .i64 a, .int .i64 b, .int .i64 c]) (hb : Below w.heap.size w w') : w'.cell? ⟨pb, 0, none⟩ = some (.int .i64 a) ∧ w'.cell? ⟨pb, 1, none⟩ = some (.int .i64 b) ∧ w'.cell? ⟨pb, 2, none⟩ = some (.int .i64 c) :=
  ⟨(h.below hb h.lt).cell 0, (h.below hb h.lt).cell 1, (h.below hb h.lt).cell 2⟩
theorem keptS {wb : Nat} {s : ByteArray} {w w' : World} (h : SBlk w wb 9 [.string s]) (hb : Below w.heap.size w w') : w'.cell? ⟨wb, 0, none⟩ = some (.string s) := (h.below hb h.lt).cell 0

set_option maxRecDepth 100000 in
set_option maxHeartbeats 4000000 in
theorem normal1_ret (a b c pb wb : Nat) (s : ByteArray) (hg : Good a b c) (he : checkS s = 0) (w : World) (hp : SBlk w pb 23 [.int .i64 a, .int .i64 b, .int .i64 c]) (hw : SBlk w wb 9 [.string s]) :
    Calls Try.prog 36 #[.pointer (some ⟨pb, 0, none⟩), .pointer (some ⟨wb, 0, none⟩)] w fun e w' => e = .returned (.string (str (nfW a b c [s]))) ∧ Below w.heap.size w w' := by
  have p0 := hp.cell 0
  have p1 := hp.cell 1
  have p2 := hp.cell 2
  have q0 := hw.cell 0
  simp only [List.getElem?_cons_zero, List.getElem?_cons_succ] at p0 p1 p2 q0
  have hplt := hp.lt
  have hwlt := hw.lt
  have HP := Lib.hid (And.intro (And.intro hp hw) (And.intro hg (one_ok he)))
  clear hp hw hg he
  go_enter Try.func36, Try.ntmps36
  go_wp2_with fail
  go_region_held3 (fun w' => w'.cell? ⟨pb, 0, none⟩ = some (.int .i64 a) ∧ w'.cell? ⟨pb, 1, none⟩ = some (.int .i64 b) ∧ w'.cell? ⟨pb, 2, none⟩ = some (.int .i64 c) ∧ w'.cell? ⟨wb, 0, none⟩ = some (.string s))
    (first | (with_reducible assumption) | exact ⟨kp.1, kp.2.1, kp.2.2, kq⟩ | (go_keep; done))
    (first
      | (go_at_call 37; (with_reducible refine (given_one HP.out.2.1 1 [s] [.string s] rfl rfl (by omega) HP.out.2.2 w).mono ?_); rintro e w1 ⟨ob, rfl, hob, hv, hz1⟩; have kp := (keptO HP.out.1.1 hz1); have kq := keptS HP.out.1.2 hz1; have HW1 := Lib.hid (And.intro hob (And.intro (And.intro hv hv) hz1)); clear hob hv hz1)
      | (go_at_call 37; (with_reducible refine (given_two HP.out.2.1 1 [s] [s] [.string s] [.string s] rfl rfl rfl (by omega) HP.out.2.2 w).mono ?_); rintro e w1 ⟨ob, rfl, hob, hv, hz1⟩; have kp := (keptO HP.out.1.1 hz1); have kq := keptS HP.out.1.2 hz1; have HW1 := Lib.hid (And.intro hob (And.intro hv hz1)); clear hob hv hz1)
      | (go_at_call 37; (with_reducible refine (given_two' HP.out.2.1 1 [s] [s] [.string s] [.string s] rfl rfl rfl (by omega) HP.out.2.2 w).mono ?_); rintro e w1 ⟨ob, rfl, hob, hv, hz1⟩; have kp := (keptO HP.out.1.1 hz1); have kq := keptS HP.out.1.2 hz1; have HW1 := Lib.hid (And.intro hob (And.intro hv hz1)); clear hob hv hz1)
      | (go_at_call 38; (with_reducible refine (product_new HP.out.2.1 1 _ [s] [.string s] rfl rfl (by omega) HP.out.2.2 w1 HW1.out.1).mono ?_); rintro e w2 ⟨mb, rb, pre, l, rfl, h1, h2, h3, h4, h5, h6, h7, h8, h9, hb2⟩; have HW2 := Lib.hid (And.intro (And.intro h1 (And.intro h2 (And.intro h3 (And.intro h4 h5)))) (And.intro (And.intro h6 (And.intro h7 h8)) (And.intro (HW1.out.2.2.trans (hb2.mono HW1.out.2.2.size)) (Nat.le_trans HW1.out.2.2.size h9)))); have kp := (keptO HP.out.1.1 HW2.out.2.2.1); have kq := keptS HP.out.1.2 HW2.out.2.2.1; clear h1 h2 h3 h4 h5 h6 h7 h8 h9 hb2)
      | (go_at_call 38; (with_reducible refine (product_ok HP.out.2.1 1 _ _ [s] rfl (by omega) HP.out.2.2 w1 HW1.out.1 HW1.out.2.1.1).mono ?_); rintro e w2 ⟨mb, rb, pre, l, rfl, h1, h2, h3, h4, h5, h6, h7, h8, h9, hb2⟩; have HW2 := Lib.hid (And.intro (And.intro h1 (And.intro h2 (And.intro h3 (And.intro h4 h5)))) (And.intro (And.intro h6 (And.intro h7 h8)) (And.intro (HW1.out.2.2.trans (hb2.mono HW1.out.2.2.size)) (Nat.le_trans HW1.out.2.2.size h9)))); have kp := (keptO HP.out.1.1 HW2.out.2.2.1); have kq := keptS HP.out.1.2 HW2.out.2.2.1; clear h1 h2 h3 h4 h5 h6 h7 h8 h9 hb2)
      | (go_at_call 38; (with_reducible refine (product_ok HP.out.2.1 1 _ _ [s] rfl (by omega) HP.out.2.2 w1 HW1.out.1 HW1.out.2.1.2).mono ?_); rintro e w2 ⟨mb, rb, pre, l, rfl, h1, h2, h3, h4, h5, h6, h7, h8, h9, hb2⟩; have HW2 := Lib.hid (And.intro (And.intro h1 (And.intro h2 (And.intro h3 (And.intro h4 h5)))) (And.intro (And.intro h6 (And.intro h7 h8)) (And.intro (HW1.out.2.2.trans (hb2.mono HW1.out.2.2.size)) (Nat.le_trans HW1.out.2.2.size h9)))); have kp := (keptO HP.out.1.1 HW2.out.2.2.1); have kq := keptS HP.out.1.2 HW2.out.2.2.1; clear h1 h2 h3 h4 h5 h6 h7 h8 h9 hb2)
      | (go_at_call 39; (with_reducible refine (normal_ok HP.out.2.1 _ _ [s] _ HW2.out.1.1 HW2.out.1.2.1 HW2.out.1.2.2.1 HW2.out.1.2.2.2.1 HW2.out.1.2.2.2.2 HW2.out.2.1.1 HW2.out.2.1.2.1 HW2.out.2.1.2.2).mono ?_); rintro e w3 ⟨rfl, hgr⟩; have HW3 := Lib.hid (below_only HW2.out.2.2.1 hgr HW2.out.2.2.2 HW2.out.2.2.1.size); have kp := (keptO HP.out.1.1 HW3.out); have kq := keptS HP.out.1.2 HW3.out; clear hgr))
  all_goals
    go_wp2_with fail
    go_ret
    exact ⟨rfl, HW3.out⟩
end Go.Proofs.Ytogchohpnbeldaa
