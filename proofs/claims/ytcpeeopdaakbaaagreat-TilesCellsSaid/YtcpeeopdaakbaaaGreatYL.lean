/- attempt: what is done, or the error that is thrown on the way. Normal. Same: two chains of calls in an open order. Normal, Same of orders and words that are allowed. -/
import Derived.Test.YtcpeeopdaakbaaaGreatYI
namespace Go.Proofs.YtcpeeopdaakbaaaGreat
open Go.RowKit Go.Shelf Cx

theorem assert_run (k : Int) (w : World) : (Instr.typeAssert (.iface 24 (.int .i64 k)) 20 24 true).run Tryz.prog w = .ok (.tuple #[.int .i64 k, .bool true]) w := by kernel_rfl

theorem idle_string (p : Option Addr) (w : World) :
    CallsD Tryz.prog 186 #[.pointer p] .returning w fun e u' w' => e = .returned (.tuple #[]) ∧ u' = .returning ∧ w' = w := by
  refine callsD_of_wpS Tryz.func186 rfl fun c₀ cs hu => ?_
  apply wpS_seq
  apply wpS_region
  simp [wpOpsS, go_sem, recoverD, hu, Tryz.ntmps186, Exit.thenS]
  refine wpS_of_wp ?_
  change Code.wp _ _ _ { tmps := #[.pointer p, undef, undef, undef, .nilIface, undef, undef, undef, undef, undef], defers := [] } _
  go_wp2_with fail
  cases c₀
  simp_all [bodyPostS, results, Tryz.results186]

theorem catch_string (b : Nat) (k : Int) (w : World) (hb : SBlk w b 24 [.int .i64 0]) :
    CallsD Tryz.prog 186 #[.pointer (some ⟨b, 0, none⟩)] (.panicking [{ v := errV k, recovered := false }]) w fun e u' w' => e = .returned (.tuple #[]) ∧ u' = .panicking [{ v := errV k, recovered := true }] ∧ w' = w.setCell ⟨b, 0, none⟩ (.int .i64 k) := by
  refine callsD_of_wpS Tryz.func186 rfl fun c₀ cs hu => ?_
  apply wpS_seq
  apply wpS_region
  simp [wpOpsS, go_sem, recoverD, hu, Tryz.ntmps186, Exit.thenS]
  refine wpS_of_wp ?_
  change Code.wp _ _ _ { tmps := #[.pointer (some ⟨b, 0, none⟩), undef, undef, undef, .iface 24 (.int .i64 k), undef, undef, undef, undef, undef], defers := [] } _
  have c0 := hb.cell 0
  have f0 := hb.frozen 0
  have asr := assert_run k
  simp only [List.getElem?_cons_zero] at c0
  go_wp2_with fail
  clear asr c0 f0 hb
  cases c₀
  simp_all [bodyPostS, results, Tryz.results186]

set_option maxRecDepth 100000 in
set_option maxHeartbeats 1000000 in
theorem attempt_string_ret (g : Nat) (caps : Array Value) (v : Value) (w : World) (eg : ∀ args w, (callFunc g args).run Tryz.prog w = .ok (.enter g args) w)
    (hdo : ∀ W, Below w.heap.size w W → Calls Tryz.prog g caps W fun e w' => e = .returned v ∧ Below W.heap.size W w') :
    Calls Tryz.prog 140 #[.func (.func g) #[] caps] w fun e w' => e = .returned (.tuple #[v, .int .i64 0]) ∧ Below w.heap.size w w' := by
  have hmf := makeFunc_run
  have hb1 := fun (A : Obj) => ((Below.refl w.heap.size w).alloc (Nat.le_refl _) A)
  have HD := Lib.hid (fun A => hdo _ (hb1 A))
  clear hdo
  go_enter_defers Tryz.func140, Tryz.ntmps140
  go_wp2_with fail
  refine (HD.out _).mono ?_
  rintro e w1 ⟨rfl, hb2⟩
  have hs0 := (SBlk.new w 24 [.int .i64 0]).below hb2 (by simp)
  have hbz := (hb1 (.cells #[.int .i64 0] 24)).trans (hb2.mono (by simp))
  have k0 := hs0.cell 0
  have f0 := hs0.frozen 0
  simp only [List.getElem?_cons_zero] at k0
  have hs1 := hs0.set 0 (.int .i64 0)
  have e0 := hs1.cell 0
  simp at e0
  have HH := Lib.hid (hbz.setCell (p := ⟨w.heap.size, 0, none⟩) (Nat.le_refl _) (.int .i64 0))
  clear hs0 hs1 hbz hb2 hb1
  go_wp2_with fail
  refine leaves_cons (f := 186) (args := #[.pointer (some ⟨w.heap.size, 0, none⟩)]) (by simp) (by simp [go_sem]) ?_
  refine (idle_string _ _).mono ?_
  rintro e u' w'' ⟨rfl, rfl, rfl⟩
  simp [Leaves, settle, results, Tryz.results140, go_sem, e0]
  exact HH.out

set_option maxRecDepth 100000 in
set_option maxHeartbeats 1000000 in
theorem attempt_string_thrown (g : Nat) (caps : Array Value) (k : Int) (w : World) (eg : ∀ args w, (callFunc g args).run Tryz.prog w = .ok (.enter g args) w)
    (hdo : ∀ W, Below w.heap.size w W → Calls Tryz.prog g caps W fun e w' => e = .panicked (thrown k) ∧ Below W.heap.size W w') :
    Calls Tryz.prog 140 #[.func (.func g) #[] caps] w fun e w' => e = .returned (.tuple #[.string ⟨#[]⟩, .int .i64 k]) ∧ Below w.heap.size w w' := by
  have hmf := makeFunc_run
  have hb1 := fun (A : Obj) => ((Below.refl w.heap.size w).alloc (Nat.le_refl _) A)
  have HD := Lib.hid (fun A => hdo _ (hb1 A))
  clear hdo
  go_enter_defers Tryz.func140, Tryz.ntmps140
  go_wp2_with fail
  refine (HD.out _).mono ?_
  rintro e w1 ⟨rfl, hb2⟩
  have hs0 := (SBlk.new w 24 [.int .i64 0]).below hb2 (by simp)
  have hbz := (hb1 (.cells #[.int .i64 0] 24)).trans (hb2.mono (by simp))
  have hs1 := hs0.set 0 (.int .i64 k)
  have e0 := hs1.cell 0
  simp at e0
  have HH := Lib.hid (hbz.setCell (p := ⟨w.heap.size, 0, none⟩) (Nat.le_refl _) (.int .i64 k))
  have HS := Lib.hid hs0
  clear hs0 hs1 hbz hb2 hb1
  go_wp2_with fail
  refine leaves_cons (f := 186) (args := #[.pointer (some ⟨w.heap.size, 0, none⟩)]) (by simp) (by simp [go_sem]) ?_
  refine (catch_string _ _ _ HS.out).mono ?_
  rintro e u' w'' ⟨rfl, rfl, rfl⟩
  simp [Leaves, settle, results, Tryz.results140, go_sem, e0]
  exact HH.out

end Go.Proofs.YtcpeeopdaakbaaaGreat

namespace Go.Proofs.YtcpeeopdaakbaaaGreat
open Go.RowKit Go.Shelf Cx

/-- orders that are allowed -/
structure Good (a b c : Nat) : Prop where
  la : Lim a
  lb : Lim b
  lc : Lim c
  lf : faultS a b c = 0

/-- the normal word of words one behind another -/
noncomputable def nfW (a b c : Nat) (ws : List ByteArray) : List Nat := nf (mk (cat ws) : G (Mo a b c))

theorem checkS_low {s : ByteArray} (h : checkS s = 0) : (∀ y ∈ bytesN s, y < 3) ∧ s.size ≤ 60 := by
  unfold checkS at h
  by_cases h1 : (bytesN s).all (· < 3) = true
  · rw [if_pos h1] at h
    refine ⟨fun y hy => by simpa using List.all_eq_true.1 h1 y hy, ?_⟩
    by_cases h2 : 60 < s.size
    · rw [if_pos h2] at h; cases h
    · omega
  · rw [if_neg h1] at h; cases h
theorem errs_low : ∀ {ws : List ByteArray}, errs ws = 0 → ∀ s ∈ ws, checkS s = 0 := by
  intro ws
  induction ws with
  | nil => intro _ s h; cases h
  | cons t ws ih =>
    intro h s hs
    unfold errs at h
    by_cases h0 : checkS t = 0
    · rw [if_pos h0] at h
      rcases List.mem_cons.1 hs with rfl | hs
      · exact h0
      · exact ih h s hs
    · rw [if_neg h0] at h; exact absurd h h0
theorem cat_low {ws : List ByteArray} (h : ∀ s ∈ ws, checkS s = 0) : (∀ y ∈ cat ws, y < 3) ∧ (cat ws).length ≤ ws.length * 60 := by
  induction ws with
  | nil => exact ⟨(fun y hy => by cases hy), by simp [cat]⟩
  | cons t ws ih =>
    have ih := ih (fun s hs => h s (List.mem_cons_of_mem _ hs))
    have ht := checkS_low (h t List.mem_cons_self)
    rw [cat_cons]
    refine ⟨fun y hy => ?_, ?_⟩
    · rcases List.mem_append.1 hy with h1 | h1
      · exact ht.1 y h1
      · exact ih.1 y h1
    · rw [List.length_append, bytesN_length, List.length_cons, Nat.add_mul]; omega

theorem given_ok {a b c : Nat} (hg : Good a b c) (n vb : Nat) (ws : List ByteArray) (hl : ws.length = n) (hn : n ≤ 60) (he : ∀ s ∈ ws, checkS s = 0) (w : World) (hv : SBlk w vb 9 (cellsS ws)) :
    Calls Tryz.prog 142 #[.agg #[.int .i64 a, .int .i64 b, .int .i64 c], .slice (some ⟨vb, 0, none⟩) n n] w fun e w' => ∃ ob, e = .returned (.pointer (some ⟨ob, 0, none⟩)) ∧ SBlk w' ob 272 (ordCells a b c) ∧ w.heap.size ≤ ob ∧ Below w.heap.size w w' := by
  subst hl
  refine (given_any a b c hg.la hg.lb hg.lc hg.lf vb ws w hv (by omega) (fun s hs => by have := (checkS_low (he s hs)).2; omega)).mono ?_
  rintro e w' ⟨hb, ⟨_, ob, rfl, ho, hle⟩ | ⟨h0, _⟩⟩
  · exact ⟨ob, rfl, ho, hle, hb⟩
  · exfalso
    apply h0
    clear h0 hv hn hb
    rename_i hp
    clear hp
    induction ws with
    | nil => rfl
    | cons t ws ih => unfold errs; rw [if_pos (he t List.mem_cons_self)]; exact ih (fun s hs => he s (List.mem_cons_of_mem _ hs))

/-- what product leaves, for normal -/
def RProd (a b c ob : Nat) (ws : List ByteArray) (w : World) (e : Ending) (w' : World) : Prop :=
  ∃ mb rb pre l, e = .returned (.pointer (some ⟨mb, 0, none⟩)) ∧ MadeAt w' mb ob rb pre l ∧ SBlk w' ob 272 (ordCells a b c) ∧ Red (Mo a b c) l ∧ (mk l : G (Mo a b c)) = mk (cat ws) ∧ (∀ y ∈ l, y < 3) ∧ pre.length + l.length ≤ 140737488355328 ∧ mb ≠ rb ∧ ob ≠ rb ∧ w.heap.size ≤ rb ∧ Below w.heap.size w w'

theorem product_ok {a b c : Nat} (hg : Good a b c) (n ob vb : Nat) (ws : List ByteArray) (hl : ws.length = n) (hn : n ≤ 60) (he : ∀ s ∈ ws, checkS s = 0) (w : World) (ho : SBlk w ob 272 (ordCells a b c)) (hv : SBlk w vb 9 (cellsS ws)) :
    Calls Tryz.prog 143 #[.pointer (some ⟨ob, 0, none⟩), .slice (some ⟨vb, 0, none⟩) n n] w (RProd a b c ob ws w) := by
  subst hl
  have hc := cat_low he
  have holt := ho.lt
  refine (product_any rfl hg.la hg.lb hg.lc ob vb ws w ho hv hc.1 (by omega) (by omega)).mono ?_
  rintro e w' ⟨mb, rb, pre, l, rfl, h1, h2, h3, h4, h5, h6, h7, h8, h9⟩
  exact ⟨mb, rb, pre, l, rfl, h1, ho.below h9 holt, h2, h3, h4, by omega, h6, by omega, h8, h9⟩

theorem normal_ok {a b c ob mb rb : Nat} (hg : Good a b c) (pre l : List Nat) (ws : List ByteArray) (w : World) (h1 : MadeAt w mb ob rb pre l) (ho : SBlk w ob 272 (ordCells a b c)) (h2 : Red (Mo a b c) l) (h3 : (mk l : G (Mo a b c)) = mk (cat ws)) (h4 : ∀ y ∈ l, y < 3) (h5 : pre.length + l.length ≤ 140737488355328) (h6 : mb ≠ rb) (h7 : ob ≠ rb) :
    Calls Tryz.prog 144 #[.pointer (some ⟨mb, 0, none⟩)] w fun e w' => e = .returned (.string (str (nfW a b c ws))) ∧ w.grownBy w' (some rb) := by
  refine (normal_any rfl hg.la hg.lb hg.lc mb ob rb h7 h6 pre l w h1 h4 h5 h2 ho).mono ?_
  rintro e w' ⟨rfl, _, _, hgr⟩
  exact ⟨by rw [h3]; rfl, hgr⟩

theorem one_ok {s : ByteArray} (he : checkS s = 0) : ∀ t ∈ [s], checkS t = 0 := by
  intro t ht; simp at ht; subst ht; exact he
theorem two_ok {s t : ByteArray} (hs : checkS s = 0) (ht : checkS t = 0) : ∀ u ∈ [s, t], checkS u = 0 := by
  intro u hu; simp at hu; rcases hu with rfl | rfl <;> assumption

theorem below_undrew {n : Nat} {A B : World} (h : Below n A.drew B) : Below n A B := ⟨h.os, h.tape, h.output, h.size, h.block⟩

/-- what given leaves, behind blocks that are new -/
def RGive (a b c : Nat) (w : World) (P : World → Prop) (e : Ending) (w' : World) : Prop :=
  ∃ ob, e = .returned (.pointer (some ⟨ob, 0, none⟩)) ∧ SBlk w' ob 272 (ordCells a b c) ∧ P w' ∧ Below w.heap.size w w'

theorem given_one {a b c : Nat} (hg : Good a b c) (n : Nat) (ws : List ByteArray) (vs : List Value) (hvs : vs = cellsS ws) (hl : ws.length = n) (hn : n ≤ 60) (he : ∀ s ∈ ws, checkS s = 0) (w : World) :
    Calls Tryz.prog 142 #[.agg #[.int .i64 a, .int .i64 b, .int .i64 c], .slice (some ⟨w.heap.size, 0, none⟩) n n] (w.alloc (.cells vs.toArray 9)).drew (RGive a b c w (fun w' => SBlk w' w.heap.size 9 (cellsS ws))) := by
  subst hvs
  refine (given_ok hg n w.heap.size ws hl hn he _ (by exact SBlk.new w 9 (cellsS ws))).mono ?_
  rintro e w' ⟨ob, rfl, ho, _, hb⟩
  have hb' : Below (w.heap.size + 1) (w.alloc (.cells (cellsS ws).toArray 9)) w' := (below_undrew hb).mono (by simp)
  exact ⟨ob, rfl, ho, (SBlk.new w 9 (cellsS ws)).below hb' (by omega), ((Below.refl _ w).alloc (Nat.le_refl _) _).trans (hb'.mono (by omega))⟩

theorem given_two {a b c : Nat} (hg : Good a b c) (n : Nat) (ws us : List ByteArray) (vs xs : List Value) (hvs : vs = cellsS ws) (hxs : xs = cellsS us) (hl : ws.length = n) (hn : n ≤ 60) (he : ∀ s ∈ ws, checkS s = 0) (w : World) :
    Calls Tryz.prog 142 #[.agg #[.int .i64 a, .int .i64 b, .int .i64 c], .slice (some ⟨w.heap.size, 0, none⟩) n n] ((w.alloc (.cells vs.toArray 9)).alloc (.cells xs.toArray 9)).drew (RGive a b c w (fun w' => SBlk w' w.heap.size 9 (cellsS ws) ∧ SBlk w' (w.heap.size + 1) 9 (cellsS us))) := by
  subst hvs hxs
  have h1 : SBlk ((w.alloc (.cells (cellsS ws).toArray 9)).alloc (.cells (cellsS us).toArray 9)) w.heap.size 9 (cellsS ws) := (SBlk.new w 9 (cellsS ws)).alloc _
  have h2 : SBlk ((w.alloc (.cells (cellsS ws).toArray 9)).alloc (.cells (cellsS us).toArray 9)) (w.heap.size + 1) 9 (cellsS us) := SBlk.new' _ _ _ _ (by simp)
  refine (given_ok hg n w.heap.size ws hl hn he _ (by exact h1)).mono ?_
  rintro e w' ⟨ob, rfl, ho, _, hb⟩
  have hb' : Below (w.heap.size + 2) ((w.alloc (.cells (cellsS ws).toArray 9)).alloc (.cells (cellsS us).toArray 9)) w' := (below_undrew hb).mono (by simp)
  exact ⟨ob, rfl, ho, ⟨h1.below hb' (by omega), h2.below hb' (by omega)⟩, (((Below.refl _ w).alloc (Nat.le_refl _) _).alloc (by simp) _).trans (hb'.mono (by omega))⟩

theorem given_two' {a b c : Nat} (hg : Good a b c) (n : Nat) (ws us : List ByteArray) (vs xs : List Value) (hvs : vs = cellsS ws) (hxs : xs = cellsS us) (hl : us.length = n) (hn : n ≤ 60) (he : ∀ s ∈ us, checkS s = 0) (w : World) :
    Calls Tryz.prog 142 #[.agg #[.int .i64 a, .int .i64 b, .int .i64 c], .slice (some ⟨w.heap.size + 1, 0, none⟩) n n] ((w.alloc (.cells vs.toArray 9)).alloc (.cells xs.toArray 9)).drew (RGive a b c w (fun w' => SBlk w' w.heap.size 9 (cellsS ws) ∧ SBlk w' (w.heap.size + 1) 9 (cellsS us))) := by
  subst hvs hxs
  have h1 : SBlk ((w.alloc (.cells (cellsS ws).toArray 9)).alloc (.cells (cellsS us).toArray 9)) w.heap.size 9 (cellsS ws) := (SBlk.new w 9 (cellsS ws)).alloc _
  have h2 : SBlk ((w.alloc (.cells (cellsS ws).toArray 9)).alloc (.cells (cellsS us).toArray 9)) (w.heap.size + 1) 9 (cellsS us) := SBlk.new' _ _ _ _ (by simp)
  refine (given_ok hg n (w.heap.size + 1) us hl hn he _ (by exact h2)).mono ?_
  rintro e w' ⟨ob, rfl, ho, _, hb⟩
  have hb' : Below (w.heap.size + 2) ((w.alloc (.cells (cellsS ws).toArray 9)).alloc (.cells (cellsS us).toArray 9)) w' := (below_undrew hb).mono (by simp)
  exact ⟨ob, rfl, ho, ⟨h1.below hb' (by omega), h2.below hb' (by omega)⟩, (((Below.refl _ w).alloc (Nat.le_refl _) _).alloc (by simp) _).trans (hb'.mono (by omega))⟩

/-- product, its words in a block that is new -/
theorem product_new {a b c : Nat} (hg : Good a b c) (n ob : Nat) (ws : List ByteArray) (vs : List Value) (hvs : vs = cellsS ws) (hl : ws.length = n) (hn : n ≤ 60) (he : ∀ s ∈ ws, checkS s = 0) (w : World) (ho : SBlk w ob 272 (ordCells a b c)) :
    Calls Tryz.prog 143 #[.pointer (some ⟨ob, 0, none⟩), .slice (some ⟨w.heap.size, 0, none⟩) n n] (w.alloc (.cells vs.toArray 9)) (RProd a b c ob ws w) := by
  subst hvs
  refine (product_ok hg n ob w.heap.size ws hl hn he _ (ho.alloc _) (SBlk.new w 9 (cellsS ws))).mono ?_
  rintro e w' ⟨mb, rb, pre, l, rfl, h1, h2, h3, h4, h5, h6, h7, h8, h9, hb⟩
  have hb' : Below (w.heap.size + 1) (w.alloc (.cells (cellsS ws).toArray 9)) w' := hb.mono (by simp)
  exact ⟨mb, rb, pre, l, rfl, h1, h2, h3, h4, h5, h6, h7, h8, by simp at h9; omega, ((Below.refl _ w).alloc (Nat.le_refl _) _).trans (hb'.mono (by omega))⟩

/-- the cells of orders and words that are kept -/
def KeptO (pb a b c : Nat) (w' : World) : Prop := w'.cell? ⟨pb, 0, none⟩ = some (.int .i64 a) ∧ w'.cell? ⟨pb, 1, none⟩ = some (.int .i64 b) ∧ w'.cell? ⟨pb, 2, none⟩ = some (.int .i64 c)
theorem keptO {pb a b c : Nat} {w w' : World} (h : SBlk w pb 23 [.int .i64 a, .int .i64 b, .int .i64 c]) (hb : Below w.heap.size w w') : w'.cell? ⟨pb, 0, none⟩ = some (.int .i64 a) ∧ w'.cell? ⟨pb, 1, none⟩ = some (.int .i64 b) ∧ w'.cell? ⟨pb, 2, none⟩ = some (.int .i64 c) :=
  ⟨(h.below hb h.lt).cell 0, (h.below hb h.lt).cell 1, (h.below hb h.lt).cell 2⟩
theorem keptS {wb : Nat} {s : ByteArray} {w w' : World} (h : SBlk w wb 9 [.string s]) (hb : Below w.heap.size w w') : w'.cell? ⟨wb, 0, none⟩ = some (.string s) := (h.below hb h.lt).cell 0

set_option maxRecDepth 100000 in
set_option maxHeartbeats 4000000 in
theorem normal1_ret (a b c pb wb : Nat) (s : ByteArray) (hg : Good a b c) (he : checkS s = 0) (w : World) (hp : SBlk w pb 23 [.int .i64 a, .int .i64 b, .int .i64 c]) (hw : SBlk w wb 9 [.string s]) :
    Calls Tryz.prog 141 #[.pointer (some ⟨pb, 0, none⟩), .pointer (some ⟨wb, 0, none⟩)] w fun e w' => e = .returned (.string (str (nfW a b c [s]))) ∧ Below w.heap.size w w' := by
  have p0 := hp.cell 0
  have p1 := hp.cell 1
  have p2 := hp.cell 2
  have q0 := hw.cell 0
  simp only [List.getElem?_cons_zero, List.getElem?_cons_succ] at p0 p1 p2 q0
  have hplt := hp.lt
  have hwlt := hw.lt
  have HP := Lib.hid (And.intro (And.intro hp hw) (And.intro hg (one_ok he)))
  clear hp hw hg he
  go_enter Tryz.func141, Tryz.ntmps141
  go_wp2_with fail
  go_region_held3 (fun w' => w'.cell? ⟨pb, 0, none⟩ = some (.int .i64 a) ∧ w'.cell? ⟨pb, 1, none⟩ = some (.int .i64 b) ∧ w'.cell? ⟨pb, 2, none⟩ = some (.int .i64 c) ∧ w'.cell? ⟨wb, 0, none⟩ = some (.string s))
    (first | (with_reducible assumption) | exact ⟨kp.1, kp.2.1, kp.2.2, kq⟩ | (go_keep; done))
    (first
      | (go_at_call 142; (with_reducible refine (given_one HP.out.2.1 1 [s] [.string s] rfl rfl (by omega) HP.out.2.2 w).mono ?_); rintro e w1 ⟨ob, rfl, hob, hv, hz1⟩; have kp := (keptO HP.out.1.1 hz1); have kq := keptS HP.out.1.2 hz1; have HW1 := Lib.hid (And.intro hob (And.intro (And.intro hv hv) hz1)); clear hob hv hz1)
      | (go_at_call 142; (with_reducible refine (given_two HP.out.2.1 1 [s] [s] [.string s] [.string s] rfl rfl rfl (by omega) HP.out.2.2 w).mono ?_); rintro e w1 ⟨ob, rfl, hob, hv, hz1⟩; have kp := (keptO HP.out.1.1 hz1); have kq := keptS HP.out.1.2 hz1; have HW1 := Lib.hid (And.intro hob (And.intro hv hz1)); clear hob hv hz1)
      | (go_at_call 142; (with_reducible refine (given_two' HP.out.2.1 1 [s] [s] [.string s] [.string s] rfl rfl rfl (by omega) HP.out.2.2 w).mono ?_); rintro e w1 ⟨ob, rfl, hob, hv, hz1⟩; have kp := (keptO HP.out.1.1 hz1); have kq := keptS HP.out.1.2 hz1; have HW1 := Lib.hid (And.intro hob (And.intro hv hz1)); clear hob hv hz1)
      | (go_at_call 143; (with_reducible refine (product_new HP.out.2.1 1 _ [s] [.string s] rfl rfl (by omega) HP.out.2.2 w1 HW1.out.1).mono ?_); rintro e w2 ⟨mb, rb, pre, l, rfl, h1, h2, h3, h4, h5, h6, h7, h8, h9, hb2⟩; have HW2 := Lib.hid (And.intro (And.intro h1 (And.intro h2 (And.intro h3 (And.intro h4 h5)))) (And.intro (And.intro h6 (And.intro h7 h8)) (And.intro (HW1.out.2.2.trans (hb2.mono HW1.out.2.2.size)) (Nat.le_trans HW1.out.2.2.size h9)))); have kp := (keptO HP.out.1.1 HW2.out.2.2.1); have kq := keptS HP.out.1.2 HW2.out.2.2.1; clear h1 h2 h3 h4 h5 h6 h7 h8 h9 hb2)
      | (go_at_call 143; (with_reducible refine (product_ok HP.out.2.1 1 _ _ [s] rfl (by omega) HP.out.2.2 w1 HW1.out.1 HW1.out.2.1.1).mono ?_); rintro e w2 ⟨mb, rb, pre, l, rfl, h1, h2, h3, h4, h5, h6, h7, h8, h9, hb2⟩; have HW2 := Lib.hid (And.intro (And.intro h1 (And.intro h2 (And.intro h3 (And.intro h4 h5)))) (And.intro (And.intro h6 (And.intro h7 h8)) (And.intro (HW1.out.2.2.trans (hb2.mono HW1.out.2.2.size)) (Nat.le_trans HW1.out.2.2.size h9)))); have kp := (keptO HP.out.1.1 HW2.out.2.2.1); have kq := keptS HP.out.1.2 HW2.out.2.2.1; clear h1 h2 h3 h4 h5 h6 h7 h8 h9 hb2)
      | (go_at_call 143; (with_reducible refine (product_ok HP.out.2.1 1 _ _ [s] rfl (by omega) HP.out.2.2 w1 HW1.out.1 HW1.out.2.1.2).mono ?_); rintro e w2 ⟨mb, rb, pre, l, rfl, h1, h2, h3, h4, h5, h6, h7, h8, h9, hb2⟩; have HW2 := Lib.hid (And.intro (And.intro h1 (And.intro h2 (And.intro h3 (And.intro h4 h5)))) (And.intro (And.intro h6 (And.intro h7 h8)) (And.intro (HW1.out.2.2.trans (hb2.mono HW1.out.2.2.size)) (Nat.le_trans HW1.out.2.2.size h9)))); have kp := (keptO HP.out.1.1 HW2.out.2.2.1); have kq := keptS HP.out.1.2 HW2.out.2.2.1; clear h1 h2 h3 h4 h5 h6 h7 h8 h9 hb2)
      | (go_at_call 144; (with_reducible refine (normal_ok HP.out.2.1 _ _ [s] _ HW2.out.1.1 HW2.out.1.2.1 HW2.out.1.2.2.1 HW2.out.1.2.2.2.1 HW2.out.1.2.2.2.2 HW2.out.2.1.1 HW2.out.2.1.2.1 HW2.out.2.1.2.2).mono ?_); rintro e w3 ⟨rfl, hgr⟩; have HW3 := Lib.hid (below_only HW2.out.2.2.1 hgr HW2.out.2.2.2 HW2.out.2.2.1.size); have kp := (keptO HP.out.1.1 HW3.out); have kq := keptS HP.out.1.2 HW3.out; clear hgr))
  all_goals
    go_wp2_with fail
    go_ret
    exact ⟨rfl, HW3.out⟩
end Go.Proofs.YtcpeeopdaakbaaaGreat

namespace Go.Proofs.YtcpeeopdaakbaaaGreat
open Go.RowKit Go.Shelf Cx

theorem SBlk.ne_ {w : World} {b b' : Nat} {T T' : TypeId} {cs cs' : List Value} (h : SBlk w b T cs) (h' : SBlk w b' T' cs') (hne : T ≠ T') : b ≠ b' := by
  rintro rfl
  unfold SBlk at h h'
  rw [h] at h'
  injection h' with h'
  injection h' with _ ht
  exact hne ht

theorem ne95 : (9 : TypeId) ≠ 5 := by decide

/-- are two strings the same? -/
def eqB (s t : ByteArray) : Bool := s.toList == t.toList

/-- what is known of a product -/
structure MI (a b c ob : Nat) (ws : List ByteArray) (mb rb : Nat) (pre l : List Nat) (W : World) : Prop where
  made : MadeAt W mb ob rb pre l
  ord : SBlk W ob 272 (ordCells a b c)
  red : Red (Mo a b c) l
  same : (mk l : G (Mo a b c)) = mk (cat ws)
  low : ∀ y ∈ l, y < 3
  room : pre.length + l.length ≤ 140737488355328
  mr : mb ≠ rb
  or : ob ≠ rb

theorem MI.below {a b c ob mb rb : Nat} {ws : List ByteArray} {pre l : List Nat} {W W' : World} (h : MI a b c ob ws mb rb pre l W) (hb : Below W.heap.size W W') : MI a b c ob ws mb rb pre l W' :=
  ⟨⟨h.made.m.below hb h.made.m.lt, h.made.r.below hb h.made.r.lt⟩, h.ord.below hb h.ord.lt, h.red, h.same, h.low, h.room, h.mr, h.or⟩
theorem MI.alloc {a b c ob mb rb : Nat} {ws : List ByteArray} {pre l : List Nat} {W : World} (h : MI a b c ob ws mb rb pre l W) (o : Obj) : MI a b c ob ws mb rb pre l (W.alloc o) :=
  ⟨⟨h.made.m.alloc _, h.made.r.alloc _⟩, h.ord.alloc _, h.red, h.same, h.low, h.room, h.mr, h.or⟩
theorem MI.grown {a b c ob mb rb g : Nat} {ws : List ByteArray} {pre l cs : List Nat} {W W' : World} (h : MI a b c ob ws mb rb pre l W) (hg : W.grownBy W' (some g)) (hs : SBlk W g 5 (cellsB cs)) (hne : rb ≠ g) (hob : ob ≠ g) : MI a b c ob ws mb rb pre l W' :=
  ⟨⟨h.made.m.grown hg (by intro e; injection e with e; exact h.made.m.ne_ hs (by decide) e), h.made.r.grown hg (by intro e; injection e with e; exact hne e)⟩, h.ord.grown hg (by intro e; injection e with e; exact hob e), h.red, h.same, h.low, h.room, h.mr, h.or⟩

theorem below_a1 {W W' : World} {o : Obj} (h : Below (W.alloc o).heap.size (W.alloc o) W') : Below W.heap.size W W' := ((Below.refl _ W).alloc (Nat.le_refl _) _).trans (h.mono (by simp))
theorem below_a2 {W W' : World} {o o' : Obj} (h : Below ((W.alloc o).alloc o').heap.size ((W.alloc o).alloc o') W') : Below W.heap.size W W' := below_a1 (below_a1 h)
theorem blk_a1 {W W' : World} {vs : List Value} {T : TypeId} (h : Below (W.alloc (.cells vs.toArray T)).heap.size (W.alloc (.cells vs.toArray T)) W') : SBlk W' W.heap.size T vs := (SBlk.new W T vs).below h (by simp)
theorem blk_a2 {W W' : World} {vs : List Value} {T : TypeId} {o : Obj} (h : Below ((W.alloc (.cells vs.toArray T)).alloc o).heap.size ((W.alloc (.cells vs.toArray T)).alloc o) W') : SBlk W' W.heap.size T vs := blk_a1 (below_a1 h)
theorem blk_a3 {W W' : World} {vs : List Value} {T : TypeId} {o : Obj} (h : Below ((W.alloc o).alloc (.cells vs.toArray T)).heap.size ((W.alloc o).alloc (.cells vs.toArray T)) W') : SBlk W' (W.heap.size + 1) T vs := by
  have := blk_a1 h
  rwa [World.size_alloc] at this
theorem grown_a1 {W W' : World} {o : Obj} {r : Option Nat} (h : (W.alloc o).grownBy W' r) : W.grownBy W' r := only_trans (only_below (only_refl W r) ((Below.refl _ W).alloc (Nat.le_refl _) _)) h
theorem blkg_a1 {W W' : World} {vs : List Value} {T : TypeId} {g : Nat} (h : (W.alloc (.cells vs.toArray T)).grownBy W' (some g)) (hg : g < W.heap.size) : SBlk W' W.heap.size T vs :=
  (SBlk.new W T vs).grown h (by intro e; injection e with e; omega)

theorem product_mi {a b c : Nat} (hg : Good a b c) (ob vb : Nat) (s : ByteArray) (he : checkS s = 0) (w : World) (ho : SBlk w ob 272 (ordCells a b c)) (hv : SBlk w vb 9 [.string s]) :
    Calls Tryz.prog 143 #[.pointer (some ⟨ob, 0, none⟩), .slice (some ⟨vb, 0, none⟩) 1 1] w fun e w' => ∃ mb rb pre l, e = .returned (.pointer (some ⟨mb, 0, none⟩)) ∧ MI a b c ob [s] mb rb pre l w' ∧ w.heap.size ≤ rb ∧ Below w.heap.size w w' := by
  refine (product_ok hg 1 ob vb [s] rfl (by omega) (one_ok he) w ho hv).mono ?_
  rintro e w' ⟨mb, rb, pre, l, rfl, h1, h2, h3, h4, h5, h6, h7, h8, h9, hb⟩
  exact ⟨mb, rb, pre, l, rfl, ⟨h1, h2, h3, h4, h5, h6, h7, h8⟩, h9, hb⟩

theorem normal_mi {a b c ob mb rb : Nat} (hg : Good a b c) (s : ByteArray) (pre l : List Nat) (w : World) (h : MI a b c ob [s] mb rb pre l w) :
    Calls Tryz.prog 144 #[.pointer (some ⟨mb, 0, none⟩)] w fun e w' => e = .returned (.string (str (nfW a b c [s]))) ∧ w.grownBy w' (some rb) :=
  normal_ok hg pre l [s] w h.made h.ord h.red h.same h.low h.room h.mr h.or

end Go.Proofs.YtcpeeopdaakbaaaGreat

namespace Go.Proofs.YtcpeeopdaakbaaaGreat
open Go.RowKit Go.Shelf Cx

set_option maxRecDepth 100000 in
set_option maxHeartbeats 1000000 in
theorem Normal_ok (a b c : Nat) (s : ByteArray) (hg : Good a b c) (he : checkS s = 0) (w : World) :
    Calls Tryz.prog 88 #[.agg #[.int .i64 a, .int .i64 b, .int .i64 c], .string s] w fun e w' => e = .returned (.tuple #[.string (str (nfW a b c [s])), .int .i64 0]) ∧ Below w.heap.size w w' := by
  have hmf := makeFunc_run
  have hat := fun W => attempt_string_ret 141 #[.pointer (some ⟨w.heap.size, 0, none⟩), .pointer (some ⟨w.heap.size + 1, 0, none⟩)] (.string (str (nfW a b c [s]))) W (enters_of Tryz.func141 (by kernel_rfl) rfl)
  have hcl : ∀ W, Below (w.heap.size + 2) ((w.alloc (.cells #[.int .i64 a, .int .i64 b, .int .i64 c] 23)).alloc (.cells #[.string s] 9)) W → Calls Tryz.prog 141 #[.pointer (some ⟨w.heap.size, 0, none⟩), .pointer (some ⟨w.heap.size + 1, 0, none⟩)] W fun e w' => e = .returned (.string (str (nfW a b c [s]))) ∧ Below W.heap.size W w' := fun W hW =>
    normal1_ret a b c _ _ s hg he W (((SBlk.new w 23 [.int .i64 a, .int .i64 b, .int .i64 c]).alloc _).below hW (by omega)) ((SBlk.new' _ 9 [.string s] _ (World.size_alloc _ _)).below hW (by omega))
  have HA := Lib.hid (And.intro hat hcl)
  clear hat hcl hg he
  go_enter Tryz.func88, Tryz.ntmps88
  go_wp2_with (go_at_call 140; refine (HA.out.1 _ (fun W hW => HA.out.2 W (hW.mono (by simp)))).mono ?_; rintro e w' ⟨rfl, hb⟩; have HB := Lib.hid (below_a2 hb); clear hb)
  go_ret2
  exact ⟨rfl, HB.out⟩

end Go.Proofs.YtcpeeopdaakbaaaGreat
