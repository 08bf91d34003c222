/- attempt: what is done, or the error that is thrown on the way. Normal. Same: two chains of calls in an open order. Normal, Same of orders and words that are allowed. -/
import Derived.Test.YtbioehaapcnjmaaYI
namespace Go.Proofs.Ytbioehaapcnjmaa
open Go.RowKit Go.Shelf Cx

theorem assert_run (k : Int) (w : World) : (Instr.typeAssert (.iface 25 (.int .i64 k)) 20 25 true).run Try.prog w = .ok (.tuple #[.int .i64 k, .bool true]) w := by kernel_rfl

theorem idle_string (p : Option Addr) (w : World) :
    CallsD Try.prog 63 #[.pointer p] .returning w fun e u' w' => e = .returned (.tuple #[]) ∧ u' = .returning ∧ w' = w := by
  refine callsD_of_wpS Try.func63 rfl fun c₀ cs hu => ?_
  apply wpS_seq
  apply wpS_region
  simp [wpOpsS, go_sem, recoverD, hu, Try.ntmps63, Exit.thenS]
  refine wpS_of_wp ?_
  change Code.wp _ _ _ { tmps := #[.pointer p, undef, undef, undef, .nilIface, undef, undef, undef, undef, undef], defers := [] } _
  go_wp2_with fail
  cases c₀
  simp_all [bodyPostS, results, Try.results63]

theorem catch_string (b : Nat) (k : Int) (w : World) (hb : SBlk w b 25 [.int .i64 0]) :
    CallsD Try.prog 63 #[.pointer (some ⟨b, 0, none⟩)] (.panicking [{ v := errV k, recovered := false }]) w fun e u' w' => e = .returned (.tuple #[]) ∧ u' = .panicking [{ v := errV k, recovered := true }] ∧ w' = w.setCell ⟨b, 0, none⟩ (.int .i64 k) := by
  refine callsD_of_wpS Try.func63 rfl fun c₀ cs hu => ?_
  apply wpS_seq
  apply wpS_region
  simp [wpOpsS, go_sem, recoverD, hu, Try.ntmps63, Exit.thenS]
  refine wpS_of_wp ?_
  change Code.wp _ _ _ { tmps := #[.pointer (some ⟨b, 0, none⟩), undef, undef, undef, .iface 25 (.int .i64 k), undef, undef, undef, undef, undef], defers := [] } _
  have c0 := hb.cell 0
  have f0 := hb.frozen 0
  have asr := assert_run k
  simp only [List.getElem?_cons_zero] at c0
  go_wp2_with fail
  clear asr c0 f0 hb
  cases c₀
  simp_all [bodyPostS, results, Try.results63]

set_option maxRecDepth 100000 in
set_option maxHeartbeats 1000000 in
theorem attempt_string_ret (g : Nat) (caps : Array Value) (v : Value) (w : World) (eg : ∀ args w, (callFunc g args).run Try.prog w = .ok (.enter g args) w)
    (hdo : ∀ W, Below w.heap.size w W → Calls Try.prog g caps W fun e w' => e = .returned v ∧ Below W.heap.size W w') :
    Calls Try.prog 35 #[.func (.func g) #[] caps] w fun e w' => e = .returned (.tuple #[v, .int .i64 0]) ∧ Below w.heap.size w w' := by
  have hmf := makeFunc_run
  have hb1 := fun (A : Obj) => ((Below.refl w.heap.size w).alloc (Nat.le_refl _) A)
  have HD := Lib.hid (fun A => hdo _ (hb1 A))
  clear hdo
  go_enter_defers Try.func35, Try.ntmps35
  go_wp2_with fail
  refine (HD.out _).mono ?_
  rintro e w1 ⟨rfl, hb2⟩
  have hs0 := (SBlk.new w 25 [.int .i64 0]).below hb2 (by simp)
  have hbz := (hb1 (.cells #[.int .i64 0] 25)).trans (hb2.mono (by simp))
  have k0 := hs0.cell 0
  have f0 := hs0.frozen 0
  simp only [List.getElem?_cons_zero] at k0
  have hs1 := hs0.set 0 (.int .i64 0)
  have e0 := hs1.cell 0
  simp at e0
  have HH := Lib.hid (hbz.setCell (p := ⟨w.heap.size, 0, none⟩) (Nat.le_refl _) (.int .i64 0))
  clear hs0 hs1 hbz hb2 hb1
  go_wp2_with fail
  refine leaves_cons (f := 63) (args := #[.pointer (some ⟨w.heap.size, 0, none⟩)]) (by simp) (by simp [go_sem]) ?_
  refine (idle_string _ _).mono ?_
  rintro e u' w'' ⟨rfl, rfl, rfl⟩
  simp [Leaves, settle, results, Try.results35, go_sem, e0]
  exact HH.out

set_option maxRecDepth 100000 in
set_option maxHeartbeats 1000000 in
theorem attempt_string_thrown (g : Nat) (caps : Array Value) (k : Int) (w : World) (eg : ∀ args w, (callFunc g args).run Try.prog w = .ok (.enter g args) w)
    (hdo : ∀ W, Below w.heap.size w W → Calls Try.prog g caps W fun e w' => e = .panicked (thrown k) ∧ Below W.heap.size W w') :
    Calls Try.prog 35 #[.func (.func g) #[] caps] w fun e w' => e = .returned (.tuple #[.string ⟨#[]⟩, .int .i64 k]) ∧ Below w.heap.size w w' := by
  have hmf := makeFunc_run
  have hb1 := fun (A : Obj) => ((Below.refl w.heap.size w).alloc (Nat.le_refl _) A)
  have HD := Lib.hid (fun A => hdo _ (hb1 A))
  clear hdo
  go_enter_defers Try.func35, Try.ntmps35
  go_wp2_with fail
  refine (HD.out _).mono ?_
  rintro e w1 ⟨rfl, hb2⟩
  have hs0 := (SBlk.new w 25 [.int .i64 0]).below hb2 (by simp)
  have hbz := (hb1 (.cells #[.int .i64 0] 25)).trans (hb2.mono (by simp))
  have hs1 := hs0.set 0 (.int .i64 k)
  have e0 := hs1.cell 0
  simp at e0
  have HH := Lib.hid (hbz.setCell (p := ⟨w.heap.size, 0, none⟩) (Nat.le_refl _) (.int .i64 k))
  have HS := Lib.hid hs0
  clear hs0 hs1 hbz hb2 hb1
  go_wp2_with fail
  refine leaves_cons (f := 63) (args := #[.pointer (some ⟨w.heap.size, 0, none⟩)]) (by simp) (by simp [go_sem]) ?_
  refine (catch_string _ _ _ HS.out).mono ?_
  rintro e u' w'' ⟨rfl, rfl, rfl⟩
  simp [Leaves, settle, results, Try.results35, go_sem, e0]
  exact HH.out

theorem idle_bool (p : Option Addr) (w : World) :
    CallsD Try.prog 71 #[.pointer p] .returning w fun e u' w' => e = .returned (.tuple #[]) ∧ u' = .returning ∧ w' = w := by
  refine callsD_of_wpS Try.func71 rfl fun c₀ cs hu => ?_
  apply wpS_seq
  apply wpS_region
  simp [wpOpsS, go_sem, recoverD, hu, Try.ntmps71, Exit.thenS]
  refine wpS_of_wp ?_
  change Code.wp _ _ _ { tmps := #[.pointer p, undef, undef, undef, .nilIface, undef, undef, undef, undef, undef], defers := [] } _
  go_wp2_with fail
  cases c₀
  simp_all [bodyPostS, results, Try.results71]

theorem catch_bool (b : Nat) (k : Int) (w : World) (hb : SBlk w b 25 [.int .i64 0]) :
    CallsD Try.prog 71 #[.pointer (some ⟨b, 0, none⟩)] (.panicking [{ v := errV k, recovered := false }]) w fun e u' w' => e = .returned (.tuple #[]) ∧ u' = .panicking [{ v := errV k, recovered := true }] ∧ w' = w.setCell ⟨b, 0, none⟩ (.int .i64 k) := by
  refine callsD_of_wpS Try.func71 rfl fun c₀ cs hu => ?_
  apply wpS_seq
  apply wpS_region
  simp [wpOpsS, go_sem, recoverD, hu, Try.ntmps71, Exit.thenS]
  refine wpS_of_wp ?_
  change Code.wp _ _ _ { tmps := #[.pointer (some ⟨b, 0, none⟩), undef, undef, undef, .iface 25 (.int .i64 k), undef, undef, undef, undef, undef], defers := [] } _
  have c0 := hb.cell 0
  have f0 := hb.frozen 0
  have asr := assert_run k
  simp only [List.getElem?_cons_zero] at c0
  go_wp2_with fail
  clear asr c0 f0 hb
  cases c₀
  simp_all [bodyPostS, results, Try.results71]

set_option maxRecDepth 100000 in
set_option maxHeartbeats 1000000 in
theorem attempt_bool_ret (g : Nat) (caps : Array Value) (v : Value) (w : World) (eg : ∀ args w, (callFunc g args).run Try.prog w = .ok (.enter g args) w)
    (hdo : ∀ W, Below w.heap.size w W → Calls Try.prog g caps W fun e w' => e = .returned v ∧ Below W.heap.size W w') :
    Calls Try.prog 40 #[.func (.func g) #[] caps] w fun e w' => e = .returned (.tuple #[v, .int .i64 0]) ∧ Below w.heap.size w w' := by
  have hmf := makeFunc_run
  have hb1 := fun (A : Obj) => ((Below.refl w.heap.size w).alloc (Nat.le_refl _) A)
  have HD := Lib.hid (fun A => hdo _ (hb1 A))
  clear hdo
  go_enter_defers Try.func40, Try.ntmps40
  go_wp2_with fail
  refine (HD.out _).mono ?_
  rintro e w1 ⟨rfl, hb2⟩
  have hs0 := (SBlk.new w 25 [.int .i64 0]).below hb2 (by simp)
  have hbz := (hb1 (.cells #[.int .i64 0] 25)).trans (hb2.mono (by simp))
  have k0 := hs0.cell 0
  have f0 := hs0.frozen 0
  simp only [List.getElem?_cons_zero] at k0
  have hs1 := hs0.set 0 (.int .i64 0)
  have e0 := hs1.cell 0
  simp at e0
  have HH := Lib.hid (hbz.setCell (p := ⟨w.heap.size, 0, none⟩) (Nat.le_refl _) (.int .i64 0))
  clear hs0 hs1 hbz hb2 hb1
  go_wp2_with fail
  refine leaves_cons (f := 71) (args := #[.pointer (some ⟨w.heap.size, 0, none⟩)]) (by simp) (by simp [go_sem]) ?_
  refine (idle_bool _ _).mono ?_
  rintro e u' w'' ⟨rfl, rfl, rfl⟩
  simp [Leaves, settle, results, Try.results40, go_sem, e0]
  exact HH.out

set_option maxRecDepth 100000 in
set_option maxHeartbeats 1000000 in
theorem attempt_bool_thrown (g : Nat) (caps : Array Value) (k : Int) (w : World) (eg : ∀ args w, (callFunc g args).run Try.prog w = .ok (.enter g args) w)
    (hdo : ∀ W, Below w.heap.size w W → Calls Try.prog g caps W fun e w' => e = .panicked (thrown k) ∧ Below W.heap.size W w') :
    Calls Try.prog 40 #[.func (.func g) #[] caps] w fun e w' => e = .returned (.tuple #[.bool false, .int .i64 k]) ∧ Below w.heap.size w w' := by
  have hmf := makeFunc_run
  have hb1 := fun (A : Obj) => ((Below.refl w.heap.size w).alloc (Nat.le_refl _) A)
  have HD := Lib.hid (fun A => hdo _ (hb1 A))
  clear hdo
  go_enter_defers Try.func40, Try.ntmps40
  go_wp2_with fail
  refine (HD.out _).mono ?_
  rintro e w1 ⟨rfl, hb2⟩
  have hs0 := (SBlk.new w 25 [.int .i64 0]).below hb2 (by simp)
  have hbz := (hb1 (.cells #[.int .i64 0] 25)).trans (hb2.mono (by simp))
  have hs1 := hs0.set 0 (.int .i64 k)
  have e0 := hs1.cell 0
  simp at e0
  have HH := Lib.hid (hbz.setCell (p := ⟨w.heap.size, 0, none⟩) (Nat.le_refl _) (.int .i64 k))
  have HS := Lib.hid hs0
  clear hs0 hs1 hbz hb2 hb1
  go_wp2_with fail
  refine leaves_cons (f := 71) (args := #[.pointer (some ⟨w.heap.size, 0, none⟩)]) (by simp) (by simp [go_sem]) ?_
  refine (catch_bool _ _ _ HS.out).mono ?_
  rintro e u' w'' ⟨rfl, rfl, rfl⟩
  simp [Leaves, settle, results, Try.results40, go_sem, e0]
  exact HH.out

theorem idle_int (p : Option Addr) (w : World) :
    CallsD Try.prog 73 #[.pointer p] .returning w fun e u' w' => e = .returned (.tuple #[]) ∧ u' = .returning ∧ w' = w := by
  refine callsD_of_wpS Try.func73 rfl fun c₀ cs hu => ?_
  apply wpS_seq
  apply wpS_region
  simp [wpOpsS, go_sem, recoverD, hu, Try.ntmps73, Exit.thenS]
  refine wpS_of_wp ?_
  change Code.wp _ _ _ { tmps := #[.pointer p, undef, undef, undef, .nilIface, undef, undef, undef, undef, undef], defers := [] } _
  go_wp2_with fail
  cases c₀
  simp_all [bodyPostS, results, Try.results73]

theorem catch_int (b : Nat) (k : Int) (w : World) (hb : SBlk w b 25 [.int .i64 0]) :
    CallsD Try.prog 73 #[.pointer (some ⟨b, 0, none⟩)] (.panicking [{ v := errV k, recovered := false }]) w fun e u' w' => e = .returned (.tuple #[]) ∧ u' = .panicking [{ v := errV k, recovered := true }] ∧ w' = w.setCell ⟨b, 0, none⟩ (.int .i64 k) := by
  refine callsD_of_wpS Try.func73 rfl fun c₀ cs hu => ?_
  apply wpS_seq
  apply wpS_region
  simp [wpOpsS, go_sem, recoverD, hu, Try.ntmps73, Exit.thenS]
  refine wpS_of_wp ?_
  change Code.wp _ _ _ { tmps := #[.pointer (some ⟨b, 0, none⟩), undef, undef, undef, .iface 25 (.int .i64 k), undef, undef, undef, undef, undef], defers := [] } _
  have c0 := hb.cell 0
  have f0 := hb.frozen 0
  have asr := assert_run k
  simp only [List.getElem?_cons_zero] at c0
  go_wp2_with fail
  clear asr c0 f0 hb
  cases c₀
  simp_all [bodyPostS, results, Try.results73]

set_option maxRecDepth 100000 in
set_option maxHeartbeats 1000000 in
theorem attempt_int_ret (g : Nat) (caps : Array Value) (v : Value) (w : World) (eg : ∀ args w, (callFunc g args).run Try.prog w = .ok (.enter g args) w)
    (hdo : ∀ W, Below w.heap.size w W → Calls Try.prog g caps W fun e w' => e = .returned v ∧ Below W.heap.size W w') :
    Calls Try.prog 45 #[.func (.func g) #[] caps] w fun e w' => e = .returned (.tuple #[v, .int .i64 0]) ∧ Below w.heap.size w w' := by
  have hmf := makeFunc_run
  have hb1 := fun (A : Obj) => ((Below.refl w.heap.size w).alloc (Nat.le_refl _) A)
  have HD := Lib.hid (fun A => hdo _ (hb1 A))
  clear hdo
  go_enter_defers Try.func45, Try.ntmps45
  go_wp2_with fail
  refine (HD.out _).mono ?_
  rintro e w1 ⟨rfl, hb2⟩
  have hs0 := (SBlk.new w 25 [.int .i64 0]).below hb2 (by simp)
  have hbz := (hb1 (.cells #[.int .i64 0] 25)).trans (hb2.mono (by simp))
  have k0 := hs0.cell 0
  have f0 := hs0.frozen 0
  simp only [List.getElem?_cons_zero] at k0
  have hs1 := hs0.set 0 (.int .i64 0)
  have e0 := hs1.cell 0
  simp at e0
  have HH := Lib.hid (hbz.setCell (p := ⟨w.heap.size, 0, none⟩) (Nat.le_refl _) (.int .i64 0))
  clear hs0 hs1 hbz hb2 hb1
  go_wp2_with fail
  refine leaves_cons (f := 73) (args := #[.pointer (some ⟨w.heap.size, 0, none⟩)]) (by simp) (by simp [go_sem]) ?_
  refine (idle_int _ _).mono ?_
  rintro e u' w'' ⟨rfl, rfl, rfl⟩
  simp [Leaves, settle, results, Try.results45, go_sem, e0]
  exact HH.out

set_option maxRecDepth 100000 in
set_option maxHeartbeats 1000000 in
theorem attempt_int_thrown (g : Nat) (caps : Array Value) (k : Int) (w : World) (eg : ∀ args w, (callFunc g args).run Try.prog w = .ok (.enter g args) w)
    (hdo : ∀ W, Below w.heap.size w W → Calls Try.prog g caps W fun e w' => e = .panicked (thrown k) ∧ Below W.heap.size W w') :
    Calls Try.prog 45 #[.func (.func g) #[] caps] w fun e w' => e = .returned (.tuple #[.int .i64 0, .int .i64 k]) ∧ Below w.heap.size w w' := by
  have hmf := makeFunc_run
  have hb1 := fun (A : Obj) => ((Below.refl w.heap.size w).alloc (Nat.le_refl _) A)
  have HD := Lib.hid (fun A => hdo _ (hb1 A))
  clear hdo
  go_enter_defers Try.func45, Try.ntmps45
  go_wp2_with fail
  refine (HD.out _).mono ?_
  rintro e w1 ⟨rfl, hb2⟩
  have hs0 := (SBlk.new w 25 [.int .i64 0]).below hb2 (by simp)
  have hbz := (hb1 (.cells #[.int .i64 0] 25)).trans (hb2.mono (by simp))
  have hs1 := hs0.set 0 (.int .i64 k)
  have e0 := hs1.cell 0
  simp at e0
  have HH := Lib.hid (hbz.setCell (p := ⟨w.heap.size, 0, none⟩) (Nat.le_refl _) (.int .i64 k))
  have HS := Lib.hid hs0
  clear hs0 hs1 hbz hb2 hb1
  go_wp2_with fail
  refine leaves_cons (f := 73) (args := #[.pointer (some ⟨w.heap.size, 0, none⟩)]) (by simp) (by simp [go_sem]) ?_
  refine (catch_int _ _ _ HS.out).mono ?_
  rintro e u' w'' ⟨rfl, rfl, rfl⟩
  simp [Leaves, settle, results, Try.results45, go_sem, e0]
  exact HH.out
end Go.Proofs.Ytbioehaapcnjmaa

namespace Go.Proofs.Ytbioehaapcnjmaa
open Go.RowKit Go.Shelf Cx

/-- orders that are allowed -/
structure Good (a b c : Nat) : Prop where
  la : Lim a
  lb : Lim b
  lc : Lim c
  lf : faultS a b c = 0

/-- the normal word of words one behind another -/
noncomputable def nfW (a b c : Nat) (ws : List ByteArray) : List Nat := nf (mk (cat ws) : G (Mo a b c))

theorem checkS_low {s : ByteArray} (h : checkS s = 0) : (∀ y ∈ bytesN s, y < 3) ∧ s.size ≤ 60 := by
  unfold checkS at h
  by_cases h1 : (bytesN s).all (· < 3) = true
  · rw [if_pos h1] at h
    refine ⟨fun y hy => by simpa using List.all_eq_true.1 h1 y hy, ?_⟩
    by_cases h2 : 60 < s.size
    · rw [if_pos h2] at h; cases h
    · omega
  · rw [if_neg h1] at h; cases h
theorem errs_low : ∀ {ws : List ByteArray}, errs ws = 0 → ∀ s ∈ ws, checkS s = 0 := by
  intro ws
  induction ws with
  | nil => intro _ s h; cases h
  | cons t ws ih =>
    intro h s hs
    unfold errs at h
    by_cases h0 : checkS t = 0
    · rw [if_pos h0] at h
      rcases List.mem_cons.1 hs with rfl | hs
      · exact h0
      · exact ih h s hs
    · rw [if_neg h0] at h; exact absurd h h0
theorem cat_low {ws : List ByteArray} (h : ∀ s ∈ ws, checkS s = 0) : (∀ y ∈ cat ws, y < 3) ∧ (cat ws).length ≤ ws.length * 60 := by
  induction ws with
  | nil => exact ⟨(fun y hy => by cases hy), by simp [cat]⟩
  | cons t ws ih =>
    have ih := ih (fun s hs => h s (List.mem_cons_of_mem _ hs))
    have ht := checkS_low (h t List.mem_cons_self)
    rw [cat_cons]
    refine ⟨fun y hy => ?_, ?_⟩
    · rcases List.mem_append.1 hy with h1 | h1
      · exact ht.1 y h1
      · exact ih.1 y h1
    · rw [List.length_append, bytesN_length, List.length_cons, Nat.add_mul]; omega

theorem given_ok {a b c : Nat} (hg : Good a b c) (n vb : Nat) (ws : List ByteArray) (hl : ws.length = n) (hn : n ≤ 60) (he : ∀ s ∈ ws, checkS s = 0) (w : World) (hv : SBlk w vb 9 (cellsS ws)) :
    Calls Try.prog 37 #[.agg #[.int .i64 a, .int .i64 b, .int .i64 c], .slice (some ⟨vb, 0, none⟩) n n] w fun e w' => ∃ ob, e = .returned (.pointer (some ⟨ob, 0, none⟩)) ∧ SBlk w' ob 144 (ordCells a b c) ∧ w.heap.size ≤ ob ∧ Below w.heap.size w w' := by
  subst hl
  refine (given_any a b c hg.la hg.lb hg.lc hg.lf vb ws w hv (by omega) (fun s hs => by have := (checkS_low (he s hs)).2; omega)).mono ?_
  rintro e w' ⟨hb, ⟨_, ob, rfl, ho, hle⟩ | ⟨h0, _⟩⟩
  · exact ⟨ob, rfl, ho, hle, hb⟩
  · exfalso
    apply h0
    clear h0 hv hn hb
    rename_i hp
    clear hp
    induction ws with
    | nil => rfl
    | cons t ws ih => unfold errs; rw [if_pos (he t List.mem_cons_self)]; exact ih (fun s hs => he s (List.mem_cons_of_mem _ hs))

/-- what product leaves, for normal -/
def RProd (a b c ob : Nat) (ws : List ByteArray) (w : World) (e : Ending) (w' : World) : Prop :=
  ∃ mb rb pre l, e = .returned (.pointer (some ⟨mb, 0, none⟩)) ∧ MadeAt w' mb ob rb pre l ∧ SBlk w' ob 144 (ordCells a b c) ∧ Red (Mo a b c) l ∧ (mk l : G (Mo a b c)) = mk (cat ws) ∧ (∀ y ∈ l, y < 3) ∧ pre.length + l.length ≤ 140737488355328 ∧ mb ≠ rb ∧ ob ≠ rb ∧ w.heap.size ≤ rb ∧ Below w.heap.size w w'

theorem product_ok {a b c : Nat} (hg : Good a b c) (n ob vb : Nat) (ws : List ByteArray) (hl : ws.length = n) (hn : n ≤ 60) (he : ∀ s ∈ ws, checkS s = 0) (w : World) (ho : SBlk w ob 144 (ordCells a b c)) (hv : SBlk w vb 9 (cellsS ws)) :
    Calls Try.prog 38 #[.pointer (some ⟨ob, 0, none⟩), .slice (some ⟨vb, 0, none⟩) n n] w (RProd a b c ob ws w) := by
  subst hl
  have hc := cat_low he
  have holt := ho.lt
  refine (product_any rfl hg.la hg.lb hg.lc ob vb ws w ho hv hc.1 (by omega) (by omega)).mono ?_
  rintro e w' ⟨mb, rb, pre, l, rfl, h1, h2, h3, h4, h5, h6, h7, h8, h9⟩
  exact ⟨mb, rb, pre, l, rfl, h1, ho.below h9 holt, h2, h3, h4, by omega, h6, by omega, h8, h9⟩

theorem normal_ok {a b c ob mb rb : Nat} (hg : Good a b c) (pre l : List Nat) (ws : List ByteArray) (w : World) (h1 : MadeAt w mb ob rb pre l) (ho : SBlk w ob 144 (ordCells a b c)) (h2 : Red (Mo a b c) l) (h3 : (mk l : G (Mo a b c)) = mk (cat ws)) (h4 : ∀ y ∈ l, y < 3) (h5 : pre.length + l.length ≤ 140737488355328) (h6 : mb ≠ rb) (h7 : ob ≠ rb) :
    Calls Try.prog 39 #[.pointer (some ⟨mb, 0, none⟩)] w fun e w' => e = .returned (.string (str (nfW a b c ws))) ∧ w.grownBy w' (some rb) := by
  refine (normal_any rfl hg.la hg.lb hg.lc mb ob rb h7 h6 pre l w h1 h4 h5 h2 ho).mono ?_
  rintro e w' ⟨rfl, _, _, hgr⟩
  exact ⟨by rw [h3]; rfl, hgr⟩

theorem one_ok {s : ByteArray} (he : checkS s = 0) : ∀ t ∈ [s], checkS t = 0 := by
  intro t ht; simp at ht; subst ht; exact he
theorem two_ok {s t : ByteArray} (hs : checkS s = 0) (ht : checkS t = 0) : ∀ u ∈ [s, t], checkS u = 0 := by
  intro u hu; simp at hu; rcases hu with rfl | rfl <;> assumption

theorem below_undrew {n : Nat} {A B : World} (h : Below n A.drew B) : Below n A B := ⟨h.os, h.tape, h.output, h.size, h.block⟩

/-- what given leaves, behind blocks that are new -/
def RGive (a b c : Nat) (w : World) (P : World → Prop) (e : Ending) (w' : World) : Prop :=
  ∃ ob, e = .returned (.pointer (some ⟨ob, 0, none⟩)) ∧ SBlk w' ob 144 (ordCells a b c) ∧ P w' ∧ Below w.heap.size w w'

theorem given_one {a b c : Nat} (hg : Good a b c) (n : Nat) (ws : List ByteArray) (vs : List Value) (hvs : vs = cellsS ws) (hl : ws.length = n) (hn : n ≤ 60) (he : ∀ s ∈ ws, checkS s = 0) (w : World) :
    Calls Try.prog 37 #[.agg #[.int .i64 a, .int .i64 b, .int .i64 c], .slice (some ⟨w.heap.size, 0, none⟩) n n] (w.alloc (.cells vs.toArray 9)).drew (RGive a b c w (fun w' => SBlk w' w.heap.size 9 (cellsS ws))) := by
  subst hvs
  refine (given_ok hg n w.heap.size ws hl hn he _ (by exact SBlk.new w 9 (cellsS ws))).mono ?_
  rintro e w' ⟨ob, rfl, ho, _, hb⟩
  have hb' : Below (w.heap.size + 1) (w.alloc (.cells (cellsS ws).toArray 9)) w' := (below_undrew hb).mono (by simp)
  exact ⟨ob, rfl, ho, (SBlk.new w 9 (cellsS ws)).below hb' (by omega), ((Below.refl _ w).alloc (Nat.le_refl _) _).trans (hb'.mono (by omega))⟩

theorem given_two {a b c : Nat} (hg : Good a b c) (n : Nat) (ws us : List ByteArray) (vs xs : List Value) (hvs : vs = cellsS ws) (hxs : xs = cellsS us) (hl : ws.length = n) (hn : n ≤ 60) (he : ∀ s ∈ ws, checkS s = 0) (w : World) :
    Calls Try.prog 37 #[.agg #[.int .i64 a, .int .i64 b, .int .i64 c], .slice (some ⟨w.heap.size, 0, none⟩) n n] ((w.alloc (.cells vs.toArray 9)).alloc (.cells xs.toArray 9)).drew (RGive a b c w (fun w' => SBlk w' w.heap.size 9 (cellsS ws) ∧ SBlk w' (w.heap.size + 1) 9 (cellsS us))) := by
  subst hvs hxs
  have h1 : SBlk ((w.alloc (.cells (cellsS ws).toArray 9)).alloc (.cells (cellsS us).toArray 9)) w.heap.size 9 (cellsS ws) := (SBlk.new w 9 (cellsS ws)).alloc _
  have h2 : SBlk ((w.alloc (.cells (cellsS ws).toArray 9)).alloc (.cells (cellsS us).toArray 9)) (w.heap.size + 1) 9 (cellsS us) := SBlk.new' _ _ _ _ (by simp)
  refine (given_ok hg n w.heap.size ws hl hn he _ (by exact h1)).mono ?_
  rintro e w' ⟨ob, rfl, ho, _, hb⟩
  have hb' : Below (w.heap.size + 2) ((w.alloc (.cells (cellsS ws).toArray 9)).alloc (.cells (cellsS us).toArray 9)) w' := (below_undrew hb).mono (by simp)
  exact ⟨ob, rfl, ho, ⟨h1.below hb' (by omega), h2.below hb' (by omega)⟩, (((Below.refl _ w).alloc (Nat.le_refl _) _).alloc (by simp) _).trans (hb'.mono (by omega))⟩

theorem given_two' {a b c : Nat} (hg : Good a b c) (n : Nat) (ws us : List ByteArray) (vs xs : List Value) (hvs : vs = cellsS ws) (hxs : xs = cellsS us) (hl : us.length = n) (hn : n ≤ 60) (he : ∀ s ∈ us, checkS s = 0) (w : World) :
    Calls Try.prog 37 #[.agg #[.int .i64 a, .int .i64 b, .int .i64 c], .slice (some ⟨w.heap.size + 1, 0, none⟩) n n] ((w.alloc (.cells vs.toArray 9)).alloc (.cells xs.toArray 9)).drew (RGive a b c w (fun w' => SBlk w' w.heap.size 9 (cellsS ws) ∧ SBlk w' (w.heap.size + 1) 9 (cellsS us))) := by
  subst hvs hxs
  have h1 : SBlk ((w.alloc (.cells (cellsS ws).toArray 9)).alloc (.cells (cellsS us).toArray 9)) w.heap.size 9 (cellsS ws) := (SBlk.new w 9 (cellsS ws)).alloc _
  have h2 : SBlk ((w.alloc (.cells (cellsS ws).toArray 9)).alloc (.cells (cellsS us).toArray 9)) (w.heap.size + 1) 9 (cellsS us) := SBlk.new' _ _ _ _ (by simp)
  refine (given_ok hg n (w.heap.size + 1) us hl hn he _ (by exact h2)).mono ?_
  rintro e w' ⟨ob, rfl, ho, _, hb⟩
  have hb' : Below (w.heap.size + 2) ((w.alloc (.cells (cellsS ws).toArray 9)).alloc (.cells (cellsS us).toArray 9)) w' := (below_undrew hb).mono (by simp)
  exact ⟨ob, rfl, ho, ⟨h1.below hb' (by omega), h2.below hb' (by omega)⟩, (((Below.refl _ w).alloc (Nat.le_refl _) _).alloc (by simp) _).trans (hb'.mono (by omega))⟩

/-- product, its words in a block that is new -/
theorem product_new {a b c : Nat} (hg : Good a b c) (n ob : Nat) (ws : List ByteArray) (vs : List Value) (hvs : vs = cellsS ws) (hl : ws.length = n) (hn : n ≤ 60) (he : ∀ s ∈ ws, checkS s = 0) (w : World) (ho : SBlk w ob 144 (ordCells a b c)) :
    Calls Try.prog 38 #[.pointer (some ⟨ob, 0, none⟩), .slice (some ⟨w.heap.size, 0, none⟩) n n] (w.alloc (.cells vs.toArray 9)) (RProd a b c ob ws w) := by
  subst hvs
  refine (product_ok hg n ob w.heap.size ws hl hn he _ (ho.alloc _) (SBlk.new w 9 (cellsS ws))).mono ?_
  rintro e w' ⟨mb, rb, pre, l, rfl, h1, h2, h3, h4, h5, h6, h7, h8, h9, hb⟩
  have hb' : Below (w.heap.size + 1) (w.alloc (.cells (cellsS ws).toArray 9)) w' := hb.mono (by simp)
  exact ⟨mb, rb, pre, l, rfl, h1, h2, h3, h4, h5, h6, h7, h8, by simp at h9; omega, ((Below.refl _ w).alloc (Nat.le_refl _) _).trans (hb'.mono (by omega))⟩

/-- the cells of orders and words that are kept -/
def KeptO (pb a b c : Nat) (w' : World) : Prop := w'.cell? ⟨pb, 0, none⟩ = some (.int .i64 a) ∧ w'.cell? ⟨pb, 1, none⟩ = some (.int .i64 b) ∧ w'.cell? ⟨pb, 2, none⟩ = some (.int .i64 c)
theorem keptO {pb a b c : Nat} {w w' : World} (h : SBlk w pb 23 [.int .i64 a, .int .i64 b, .int .i64 c]) (hb : Below w.heap.size w w') : w'.cell? ⟨pb, 0, none⟩ = some (.int .i64 a) ∧ w'.cell? ⟨pb, 1, none⟩ = some (.int .i64 b) ∧ w'.cell? ⟨pb, 2, none⟩ = some (.int .i64 c) :=
  ⟨(h.below hb h.lt).cell 0, (h.below hb h.lt).cell 1, (h.below hb h.lt).cell 2⟩
theorem keptS {wb : Nat} {s : ByteArray} {w w' : World} (h : SBlk w wb 9 [.string s]) (hb : Below w.heap.size w w') : w'.cell? ⟨wb, 0, none⟩ = some (.string s) := (h.below hb h.lt).cell 0

set_option maxRecDepth 100000 in
set_option maxHeartbeats 4000000 in
theorem normal1_ret (a b c pb wb : Nat) (s : ByteArray) (hg : Good a b c) (he : checkS s = 0) (w : World) (hp : SBlk w pb 23 [.int .i64 a, .int .i64 b, .int .i64 c]) (hw : SBlk w wb 9 [.string s]) :
    Calls Try.prog 36 #[.pointer (some ⟨pb, 0, none⟩), .pointer (some ⟨wb, 0, none⟩)] w fun e w' => e = .returned (.string (str (nfW a b c [s]))) ∧ Below w.heap.size w w' := by
  have p0 := hp.cell 0
  have p1 := hp.cell 1
  have p2 := hp.cell 2
  have q0 := hw.cell 0
  simp only [List.getElem?_cons_zero, List.getElem?_cons_succ] at p0 p1 p2 q0
  have hplt := hp.lt
  have hwlt := hw.lt
  have HP := Lib.hid (And.intro (And.intro hp hw) (And.intro hg (one_ok he)))
  clear hp hw hg he
  go_enter Try.func36, Try.ntmps36
  go_wp2_with fail
  go_region_held3 (fun w' => w'.cell? ⟨pb, 0, none⟩ = some (.int .i64 a) ∧ w'.cell? ⟨pb, 1, none⟩ = some (.int .i64 b) ∧ w'.cell? ⟨pb, 2, none⟩ = some (.int .i64 c) ∧ w'.cell? ⟨wb, 0, none⟩ = some (.string s))
    (first | (with_reducible assumption) | exact ⟨kp.1, kp.2.1, kp.2.2, kq⟩ | (go_keep; done))
    (first
      | (go_at_call 37; (with_reducible refine (given_one HP.out.2.1 1 [s] [.string s] rfl rfl (by omega) HP.out.2.2 w).mono ?_); rintro e w1 ⟨ob, rfl, hob, hv, hz1⟩; have kp := (keptO HP.out.1.1 hz1); have kq := keptS HP.out.1.2 hz1; have HW1 := Lib.hid (And.intro hob (And.intro (And.intro hv hv) hz1)); clear hob hv hz1)
      | (go_at_call 37; (with_reducible refine (given_two HP.out.2.1 1 [s] [s] [.string s] [.string s] rfl rfl rfl (by omega) HP.out.2.2 w).mono ?_); rintro e w1 ⟨ob, rfl, hob, hv, hz1⟩; have kp := (keptO HP.out.1.1 hz1); have kq := keptS HP.out.1.2 hz1; have HW1 := Lib.hid (And.intro hob (And.intro hv hz1)); clear hob hv hz1)
      | (go_at_call 37; (with_reducible refine (given_two' HP.out.2.1 1 [s] [s] [.string s] [.string s] rfl rfl rfl (by omega) HP.out.2.2 w).mono ?_); rintro e w1 ⟨ob, rfl, hob, hv, hz1⟩; have kp := (keptO HP.out.1.1 hz1); have kq := keptS HP.out.1.2 hz1; have HW1 := Lib.hid (And.intro hob (And.intro hv hz1)); clear hob hv hz1)
      | (go_at_call 38; (with_reducible refine (product_new HP.out.2.1 1 _ [s] [.string s] rfl rfl (by omega) HP.out.2.2 w1 HW1.out.1).mono ?_); rintro e w2 ⟨mb, rb, pre, l, rfl, h1, h2, h3, h4, h5, h6, h7, h8, h9, hb2⟩; have HW2 := Lib.hid (And.intro (And.intro h1 (And.intro h2 (And.intro h3 (And.intro h4 h5)))) (And.intro (And.intro h6 (And.intro h7 h8)) (And.intro (HW1.out.2.2.trans (hb2.mono HW1.out.2.2.size)) (Nat.le_trans HW1.out.2.2.size h9)))); have kp := (keptO HP.out.1.1 HW2.out.2.2.1); have kq := keptS HP.out.1.2 HW2.out.2.2.1; clear h1 h2 h3 h4 h5 h6 h7 h8 h9 hb2)
      | (go_at_call 38; (with_reducible refine (product_ok HP.out.2.1 1 _ _ [s] rfl (by omega) HP.out.2.2 w1 HW1.out.1 HW1.out.2.1.1).mono ?_); rintro e w2 ⟨mb, rb, pre, l, rfl, h1, h2, h3, h4, h5, h6, h7, h8, h9, hb2⟩; have HW2 := Lib.hid (And.intro (And.intro h1 (And.intro h2 (And.intro h3 (And.intro h4 h5)))) (And.intro (And.intro h6 (And.intro h7 h8)) (And.intro (HW1.out.2.2.trans (hb2.mono HW1.out.2.2.size)) (Nat.le_trans HW1.out.2.2.size h9)))); have kp := (keptO HP.out.1.1 HW2.out.2.2.1); have kq := keptS HP.out.1.2 HW2.out.2.2.1; clear h1 h2 h3 h4 h5 h6 h7 h8 h9 hb2)
      | (go_at_call 38; (with_reducible refine (product_ok HP.out.2.1 1 _ _ [s] rfl (by omega) HP.out.2.2 w1 HW1.out.1 HW1.out.2.1.2).mono ?_); rintro e w2 ⟨mb, rb, pre, l, rfl, h1, h2, h3, h4, h5, h6, h7, h8, h9, hb2⟩; have HW2 := Lib.hid (And.intro (And.intro h1 (And.intro h2 (And.intro h3 (And.intro h4 h5)))) (And.intro (And.intro h6 (And.intro h7 h8)) (And.intro (HW1.out.2.2.trans (hb2.mono HW1.out.2.2.size)) (Nat.le_trans HW1.out.2.2.size h9)))); have kp := (keptO HP.out.1.1 HW2.out.2.2.1); have kq := keptS HP.out.1.2 HW2.out.2.2.1; clear h1 h2 h3 h4 h5 h6 h7 h8 h9 hb2)
      | (go_at_call 39; (with_reducible refine (normal_ok HP.out.2.1 _ _ [s] _ HW2.out.1.1 HW2.out.1.2.1 HW2.out.1.2.2.1 HW2.out.1.2.2.2.1 HW2.out.1.2.2.2.2 HW2.out.2.1.1 HW2.out.2.1.2.1 HW2.out.2.1.2.2).mono ?_); rintro e w3 ⟨rfl, hgr⟩; have HW3 := Lib.hid (below_only HW2.out.2.2.1 hgr HW2.out.2.2.2 HW2.out.2.2.1.size); have kp := (keptO HP.out.1.1 HW3.out); have kq := keptS HP.out.1.2 HW3.out; clear hgr))
  all_goals
    go_wp2_with fail
    go_ret
    exact ⟨rfl, HW3.out⟩
end Go.Proofs.Ytbioehaapcnjmaa

namespace Go.Proofs.Ytbioehaapcnjmaa
open Go.RowKit Go.Shelf Cx

theorem SBlk.ne_ {w : World} {b b' : Nat} {T T' : TypeId} {cs cs' : List Value} (h : SBlk w b T cs) (h' : SBlk w b' T' cs') (hne : T ≠ T') : b ≠ b' := by
  rintro rfl
  unfold SBlk at h h'
  rw [h] at h'
  injection h' with h'
  injection h' with _ ht
  exact hne ht

theorem ne95 : (9 : TypeId) ≠ 5 := by decide

/-- are two strings the same? -/
def eqB (s t : ByteArray) : Bool := s.toList == t.toList

/-- what is known of a product -/
structure MI (a b c ob : Nat) (ws : List ByteArray) (mb rb : Nat) (pre l : List Nat) (W : World) : Prop where
  made : MadeAt W mb ob rb pre l
  ord : SBlk W ob 144 (ordCells a b c)
  red : Red (Mo a b c) l
  same : (mk l : G (Mo a b c)) = mk (cat ws)
  low : ∀ y ∈ l, y < 3
  room : pre.length + l.length ≤ 140737488355328
  mr : mb ≠ rb
  or : ob ≠ rb

theorem MI.below {a b c ob mb rb : Nat} {ws : List ByteArray} {pre l : List Nat} {W W' : World} (h : MI a b c ob ws mb rb pre l W) (hb : Below W.heap.size W W') : MI a b c ob ws mb rb pre l W' :=
  ⟨⟨h.made.m.below hb h.made.m.lt, h.made.r.below hb h.made.r.lt⟩, h.ord.below hb h.ord.lt, h.red, h.same, h.low, h.room, h.mr, h.or⟩
theorem MI.alloc {a b c ob mb rb : Nat} {ws : List ByteArray} {pre l : List Nat} {W : World} (h : MI a b c ob ws mb rb pre l W) (o : Obj) : MI a b c ob ws mb rb pre l (W.alloc o) :=
  ⟨⟨h.made.m.alloc _, h.made.r.alloc _⟩, h.ord.alloc _, h.red, h.same, h.low, h.room, h.mr, h.or⟩
theorem MI.grown {a b c ob mb rb g : Nat} {ws : List ByteArray} {pre l cs : List Nat} {W W' : World} (h : MI a b c ob ws mb rb pre l W) (hg : W.grownBy W' (some g)) (hs : SBlk W g 5 (cellsB cs)) (hne : rb ≠ g) (hob : ob ≠ g) : MI a b c ob ws mb rb pre l W' :=
  ⟨⟨h.made.m.grown hg (by intro e; injection e with e; exact h.made.m.ne_ hs (by decide) e), h.made.r.grown hg (by intro e; injection e with e; exact hne e)⟩, h.ord.grown hg (by intro e; injection e with e; exact hob e), h.red, h.same, h.low, h.room, h.mr, h.or⟩

theorem below_a1 {W W' : World} {o : Obj} (h : Below (W.alloc o).heap.size (W.alloc o) W') : Below W.heap.size W W' := ((Below.refl _ W).alloc (Nat.le_refl _) _).trans (h.mono (by simp))
theorem below_a2 {W W' : World} {o o' : Obj} (h : Below ((W.alloc o).alloc o').heap.size ((W.alloc o).alloc o') W') : Below W.heap.size W W' := below_a1 (below_a1 h)
theorem blk_a1 {W W' : World} {vs : List Value} {T : TypeId} (h : Below (W.alloc (.cells vs.toArray T)).heap.size (W.alloc (.cells vs.toArray T)) W') : SBlk W' W.heap.size T vs := (SBlk.new W T vs).below h (by simp)
theorem blk_a2 {W W' : World} {vs : List Value} {T : TypeId} {o : Obj} (h : Below ((W.alloc (.cells vs.toArray T)).alloc o).heap.size ((W.alloc (.cells vs.toArray T)).alloc o) W') : SBlk W' W.heap.size T vs := blk_a1 (below_a1 h)
theorem blk_a3 {W W' : World} {vs : List Value} {T : TypeId} {o : Obj} (h : Below ((W.alloc o).alloc (.cells vs.toArray T)).heap.size ((W.alloc o).alloc (.cells vs.toArray T)) W') : SBlk W' (W.heap.size + 1) T vs := by
  have := blk_a1 h
  rwa [World.size_alloc] at this
theorem grown_a1 {W W' : World} {o : Obj} {r : Option Nat} (h : (W.alloc o).grownBy W' r) : W.grownBy W' r := only_trans (only_below (only_refl W r) ((Below.refl _ W).alloc (Nat.le_refl _) _)) h
theorem blkg_a1 {W W' : World} {vs : List Value} {T : TypeId} {g : Nat} (h : (W.alloc (.cells vs.toArray T)).grownBy W' (some g)) (hg : g < W.heap.size) : SBlk W' W.heap.size T vs :=
  (SBlk.new W T vs).grown h (by intro e; injection e with e; omega)

theorem product_mi {a b c : Nat} (hg : Good a b c) (ob vb : Nat) (s : ByteArray) (he : checkS s = 0) (w : World) (ho : SBlk w ob 144 (ordCells a b c)) (hv : SBlk w vb 9 [.string s]) :
    Calls Try.prog 38 #[.pointer (some ⟨ob, 0, none⟩), .slice (some ⟨vb, 0, none⟩) 1 1] w fun e w' => ∃ mb rb pre l, e = .returned (.pointer (some ⟨mb, 0, none⟩)) ∧ MI a b c ob [s] mb rb pre l w' ∧ w.heap.size ≤ rb ∧ Below w.heap.size w w' := by
  refine (product_ok hg 1 ob vb [s] rfl (by omega) (one_ok he) w ho hv).mono ?_
  rintro e w' ⟨mb, rb, pre, l, rfl, h1, h2, h3, h4, h5, h6, h7, h8, h9, hb⟩
  exact ⟨mb, rb, pre, l, rfl, ⟨h1, h2, h3, h4, h5, h6, h7, h8⟩, h9, hb⟩

theorem normal_mi {a b c ob mb rb : Nat} (hg : Good a b c) (s : ByteArray) (pre l : List Nat) (w : World) (h : MI a b c ob [s] mb rb pre l w) :
    Calls Try.prog 39 #[.pointer (some ⟨mb, 0, none⟩)] w fun e w' => e = .returned (.string (str (nfW a b c [s]))) ∧ w.grownBy w' (some rb) :=
  normal_ok hg pre l [s] w h.made h.ord h.red h.same h.low h.room h.mr h.or

set_option maxRecDepth 100000 in
set_option maxHeartbeats 8000000 in
theorem same1_ret (a b c pb ub vb : Nat) (u v : ByteArray) (hg : Good a b c) (hu : checkS u = 0) (hv : checkS v = 0) (w : World) (hp : SBlk w pb 23 [.int .i64 a, .int .i64 b, .int .i64 c]) (hwu : SBlk w ub 9 [.string u]) (hwv : SBlk w vb 9 [.string v]) :
    Calls Try.prog 41 #[.pointer (some ⟨pb, 0, none⟩), .pointer (some ⟨ub, 0, none⟩), .pointer (some ⟨vb, 0, none⟩)] w fun e w' => e = .returned (.bool (eqB (str (nfW a b c [u])) (str (nfW a b c [v])))) ∧ Below w.heap.size w w' := by
  have p0 := hp.cell 0
  have p1 := hp.cell 1
  have p2 := hp.cell 2
  have q0 := hwu.cell 0
  have r0 := hwv.cell 0
  simp only [List.getElem?_cons_zero, List.getElem?_cons_succ] at p0 p1 p2 q0 r0
  have HP := Lib.hid (And.intro (And.intro hwu hwv) (And.intro hg (And.intro hu hv)))
  have HG := Lib.hid (fun W h => given_ok hg 2 w.heap.size [u, v] rfl (by omega) (two_ok hu hv) W h)
  clear hp hwu hwv hg hu hv
  go_enter Try.func41, Try.ntmps41
  go_wp2_with (go_at_call 37; refine (HG.out _ (SBlk.new w 9 [.string u, .string v])).mono ?_; rintro e W ⟨ob, rfl, hob, hle, hb1⟩; have HO := Lib.hid hob; have HZ := Lib.hid (below_a1 hb1); have kq := keptS HP.out.1.1 HZ.out; have kr := keptS HP.out.1.2 HZ.out; clear hob hle hb1)
  go_region_held3 (fun w' => w'.cell? ⟨ub, 0, none⟩ = some (.string u) ∧ w'.cell? ⟨vb, 0, none⟩ = some (.string v))
    (first | (with_reducible assumption) | exact ⟨kq, kr⟩ | (go_keep; done))
    (first
      | (go_at_call 38; (with_reducible refine (product_mi HP.out.2.1 _ _ u HP.out.2.2.1 _ ?_ ?_).mono ?_); (first | exact HO.out | exact HO.out.alloc _ | exact (HO.out.alloc _).alloc _); (first | exact HAv.out | exact SBlk.new _ _ [.string u] | exact (SBlk.new _ _ [.string u]).alloc _ | exact SBlk.new' _ _ [.string u] _ (World.size_alloc _ _)); rintro e W' ⟨mbA, rbA, preA, lA, rfl, hmi, hlo0, hb⟩; (try have hb := below_undrew hb); (first | (have hz : Below W.heap.size W W' := hb) | (have hz : Below W.heap.size W W' := below_a1 hb) | (have hz : Below W.heap.size W W' := below_a2 hb)); (have hlo : W.heap.size ≤ rbA := Nat.le_trans (by simp; try omega) hlo0); (try have HNE : Hid (rbB ≠ rbA) := Lib.hid (Nat.ne_of_lt (Nat.lt_of_lt_of_le HBm.out.made.r.lt hlo))); have HO := Lib.hid (HO.out.below hz HO.out.lt); (try have HBv := Lib.hid (HBv.out.below hz HBv.out.lt)); (try have HBm := Lib.hid (HBm.out.below hz)); (first | (have HBv : Hid (SBlk W' (W.heap.size + 1) 9 [.string v]) := Lib.hid (blk_a3 hb)) | (have HBv : Hid (SBlk W' W.heap.size 9 [.string v]) := Lib.hid (blk_a2 hb)) | (have HBv : Hid (SBlk W' W.heap.size 9 [.string v]) := Lib.hid (blk_a1 hb)) | skip); have HAm := Lib.hid hmi; have HAz := Lib.hid (Nat.le_trans HZ.out.size hlo); have HZ := Lib.hid (HZ.out.trans (hz.mono HZ.out.size)); have kq := keptS HP.out.1.1 HZ.out; have kr := keptS HP.out.1.2 HZ.out; clear hmi hb hz hlo hlo0; (obtain ⟨W, rfl⟩ : ∃ z : World, z = W' := ⟨_, rfl⟩))
      | (go_at_call 38; (with_reducible refine (product_mi HP.out.2.1 _ _ v HP.out.2.2.2 _ ?_ ?_).mono ?_); (first | exact HO.out | exact HO.out.alloc _ | exact (HO.out.alloc _).alloc _); (first | exact HBv.out | exact SBlk.new _ _ [.string v] | exact (SBlk.new _ _ [.string v]).alloc _ | exact SBlk.new' _ _ [.string v] _ (World.size_alloc _ _)); rintro e W' ⟨mbB, rbB, preB, lB, rfl, hmi, hlo0, hb⟩; (try have hb := below_undrew hb); (first | (have hz : Below W.heap.size W W' := hb) | (have hz : Below W.heap.size W W' := below_a1 hb) | (have hz : Below W.heap.size W W' := below_a2 hb)); (have hlo : W.heap.size ≤ rbB := Nat.le_trans (by simp; try omega) hlo0); (try have HNE : Hid (rbA ≠ rbB) := Lib.hid (Nat.ne_of_lt (Nat.lt_of_lt_of_le HAm.out.made.r.lt hlo))); have HO := Lib.hid (HO.out.below hz HO.out.lt); (try have HAv := Lib.hid (HAv.out.below hz HAv.out.lt)); (try have HAm := Lib.hid (HAm.out.below hz)); (first | (have HAv : Hid (SBlk W' (W.heap.size + 1) 9 [.string u]) := Lib.hid (blk_a3 hb)) | (have HAv : Hid (SBlk W' W.heap.size 9 [.string u]) := Lib.hid (blk_a2 hb)) | (have HAv : Hid (SBlk W' W.heap.size 9 [.string u]) := Lib.hid (blk_a1 hb)) | skip); have HBm := Lib.hid hmi; have HBz := Lib.hid (Nat.le_trans HZ.out.size hlo); have HZ := Lib.hid (HZ.out.trans (hz.mono HZ.out.size)); have kq := keptS HP.out.1.1 HZ.out; have kr := keptS HP.out.1.2 HZ.out; clear hmi hb hz hlo hlo0; (obtain ⟨W, rfl⟩ : ∃ z : World, z = W' := ⟨_, rfl⟩))
      | (go_at_call 39; (with_reducible refine (normal_mi (ob := ob) (rb := rbA) HP.out.2.1 u preA lA _ ?_).mono ?_); (first | exact HAm.out | exact HAm.out.alloc _); rintro e W' ⟨rfl, hgr⟩; (first | (have hg1 : W.grownBy W' (some rbA) := hgr) | (have hg1 : W.grownBy W' (some rbA) := grown_a1 hgr)); (have hne : ob ≠ rbA := HAm.out.or); (try have HBv := Lib.hid (HBv.out.grown hg1 (fun e => absurd (Option.some.inj e) (HBv.out.ne_ HAm.out.made.r ne95)))); (first | (have HBm := Lib.hid (HBm.out.grown hg1 HAm.out.made.r HNE.out hne)) | (have HBm := Lib.hid (HBm.out.grown hg1 HAm.out.made.r HNE.out.symm hne)) | skip); (try have HBv : Hid (SBlk W' W.heap.size 9 [.string v]) := Lib.hid (blkg_a1 hgr HAm.out.made.r.lt)); have HO := Lib.hid (HO.out.grown hg1 (fun e => absurd (Option.some.inj e) hne)); have HZ := Lib.hid (below_only HZ.out hg1 HAz.out HZ.out.size); have kq := keptS HP.out.1.1 HZ.out; have kr := keptS HP.out.1.2 HZ.out; clear hgr hg1 hne; (obtain ⟨W, rfl⟩ : ∃ z : World, z = W' := ⟨_, rfl⟩))
      | (go_at_call 39; (with_reducible refine (normal_mi (ob := ob) (rb := rbB) HP.out.2.1 v preB lB _ ?_).mono ?_); (first | exact HBm.out | exact HBm.out.alloc _); rintro e W' ⟨rfl, hgr⟩; (first | (have hg1 : W.grownBy W' (some rbB) := hgr) | (have hg1 : W.grownBy W' (some rbB) := grown_a1 hgr)); (have hne : ob ≠ rbB := HBm.out.or); (try have HAv := Lib.hid (HAv.out.grown hg1 (fun e => absurd (Option.some.inj e) (HAv.out.ne_ HBm.out.made.r ne95)))); (first | (have HAm := Lib.hid (HAm.out.grown hg1 HBm.out.made.r HNE.out hne)) | (have HAm := Lib.hid (HAm.out.grown hg1 HBm.out.made.r HNE.out.symm hne)) | skip); (try have HAv : Hid (SBlk W' W.heap.size 9 [.string u]) := Lib.hid (blkg_a1 hgr HBm.out.made.r.lt)); have HO := Lib.hid (HO.out.grown hg1 (fun e => absurd (Option.some.inj e) hne)); have HZ := Lib.hid (below_only HZ.out hg1 HBz.out HZ.out.size); have kq := keptS HP.out.1.1 HZ.out; have kr := keptS HP.out.1.2 HZ.out; clear hgr hg1 hne; (obtain ⟨W, rfl⟩ : ∃ z : World, z = W' := ⟨_, rfl⟩)))
  all_goals
    go_wp2_with fail
    go_ret
    exact ⟨rfl, HZ.out⟩
end Go.Proofs.Ytbioehaapcnjmaa

namespace Go.Proofs.Ytbioehaapcnjmaa
open Go.RowKit Go.Shelf Cx

set_option maxRecDepth 100000 in
set_option maxHeartbeats 1000000 in
theorem Normal_ok (a b c : Nat) (s : ByteArray) (hg : Good a b c) (he : checkS s = 0) (w : World) :
    Calls Try.prog 12 #[.agg #[.int .i64 a, .int .i64 b, .int .i64 c], .string s] w fun e w' => e = .returned (.tuple #[.string (str (nfW a b c [s])), .int .i64 0]) ∧ Below w.heap.size w w' := by
  have hmf := makeFunc_run
  have hat := fun W => attempt_string_ret 36 #[.pointer (some ⟨w.heap.size, 0, none⟩), .pointer (some ⟨w.heap.size + 1, 0, none⟩)] (.string (str (nfW a b c [s]))) W (enters_of Try.func36 (by kernel_rfl) rfl)
  have hcl : ∀ W, Below (w.heap.size + 2) ((w.alloc (.cells #[.int .i64 a, .int .i64 b, .int .i64 c] 23)).alloc (.cells #[.string s] 9)) W → Calls Try.prog 36 #[.pointer (some ⟨w.heap.size, 0, none⟩), .pointer (some ⟨w.heap.size + 1, 0, none⟩)] W fun e w' => e = .returned (.string (str (nfW a b c [s]))) ∧ Below W.heap.size W w' := fun W hW =>
    normal1_ret a b c _ _ s hg he W (((SBlk.new w 23 [.int .i64 a, .int .i64 b, .int .i64 c]).alloc _).below hW (by omega)) ((SBlk.new' _ 9 [.string s] _ (World.size_alloc _ _)).below hW (by omega))
  have HA := Lib.hid (And.intro hat hcl)
  clear hat hcl hg he
  go_enter Try.func12, Try.ntmps12
  go_wp2_with (go_at_call 35; refine (HA.out.1 _ (fun W hW => HA.out.2 W (hW.mono (by simp)))).mono ?_; rintro e w' ⟨rfl, hb⟩; have HB := Lib.hid (below_a2 hb); clear hb)
  go_ret2
  exact ⟨rfl, HB.out⟩

set_option maxRecDepth 100000 in
set_option maxHeartbeats 1000000 in
theorem Same_ok (a b c : Nat) (u v : ByteArray) (hg : Good a b c) (hu : checkS u = 0) (hv : checkS v = 0) (w : World) :
    Calls Try.prog 14 #[.agg #[.int .i64 a, .int .i64 b, .int .i64 c], .string u, .string v] w fun e w' => e = .returned (.tuple #[.bool (eqB (str (nfW a b c [u])) (str (nfW a b c [v]))), .int .i64 0]) ∧ Below w.heap.size w w' := by
  have hmf := makeFunc_run
  have hat := fun W => attempt_bool_ret 41 #[.pointer (some ⟨w.heap.size, 0, none⟩), .pointer (some ⟨w.heap.size + 1, 0, none⟩), .pointer (some ⟨w.heap.size + 2, 0, none⟩)] (.bool (eqB (str (nfW a b c [u])) (str (nfW a b c [v])))) W (enters_of Try.func41 (by kernel_rfl) rfl)
  have hcl : ∀ W, Below (w.heap.size + 3) (((w.alloc (.cells #[.int .i64 a, .int .i64 b, .int .i64 c] 23)).alloc (.cells #[.string u] 9)).alloc (.cells #[.string v] 9)) W → Calls Try.prog 41 #[.pointer (some ⟨w.heap.size, 0, none⟩), .pointer (some ⟨w.heap.size + 1, 0, none⟩), .pointer (some ⟨w.heap.size + 2, 0, none⟩)] W fun e w' => e = .returned (.bool (eqB (str (nfW a b c [u])) (str (nfW a b c [v])))) ∧ Below W.heap.size W w' := fun W hW =>
    same1_ret a b c _ _ _ u v hg hu hv W ((((SBlk.new w 23 [.int .i64 a, .int .i64 b, .int .i64 c]).alloc _).alloc _).below hW (by omega)) (((SBlk.new' _ 9 [.string u] _ (World.size_alloc _ _)).alloc _).below hW (by omega)) ((SBlk.new' _ 9 [.string v] (w.heap.size + 2) (by simp)).below hW (by omega))
  have HA := Lib.hid (And.intro hat hcl)
  generalize eqB (str (nfW a b c [u])) (str (nfW a b c [v])) = r at *
  clear hat hcl hg hu hv
  go_enter Try.func14, Try.ntmps14
  go_wp2_with (go_at_call 40; refine (HA.out.1 _ (fun W hW => HA.out.2 W (hW.mono (by simp)))).mono ?_; rintro e w' ⟨rfl, hb⟩; have HB := Lib.hid (below_a1 (below_a2 hb)); clear hb)
  go_ret2
  exact ⟨rfl, HB.out⟩
end Go.Proofs.Ytbioehaapcnjmaa
