/- attempt: what is done, or the error that is thrown on the way. -/
import Derived.Test.YtogchohpnbeldaaYk
namespace Go.Proofs.Ytogchohpnbeldaa
open Go.RowKit Go.Shelf Cx

theorem assert_run (k : Int) (w : World) : (Instr.typeAssert (.iface 25 (.int .i64 k)) 20 25 true).run Try.prog w = .ok (.tuple #[.int .i64 k, .bool true]) w := by kernel_rfl

theorem idle_string (p : Option Addr) (w : World) :
    CallsD Try.prog 63 #[.pointer p] .returning w fun e u' w' => e = .returned (.tuple #[]) ∧ u' = .returning ∧ w' = w := by
  refine callsD_of_wpS Try.func63 rfl fun c₀ cs hu => ?_
  apply wpS_seq
  apply wpS_region
  simp [wpOpsS, go_sem, recoverD, hu, Try.ntmps63, Exit.thenS]
  refine wpS_of_wp ?_
  change Code.wp _ _ _ { tmps := #[.pointer p, undef, undef, undef, .nilIface, undef, undef, undef, undef, undef], defers := [] } _
  go_wp2_with fail
  cases c₀
  simp_all [bodyPostS, results, Try.results63]

theorem catch_string (b : Nat) (k : Int) (w : World) (hb : SBlk w b 25 [.int .i64 0]) :
    CallsD Try.prog 63 #[.pointer (some ⟨b, 0, none⟩)] (.panicking [{ v := errV k, recovered := false }]) w fun e u' w' => e = .returned (.tuple #[]) ∧ u' = .panicking [{ v := errV k, recovered := true }] ∧ w' = w.setCell ⟨b, 0, none⟩ (.int .i64 k) := by
  refine callsD_of_wpS Try.func63 rfl fun c₀ cs hu => ?_
  apply wpS_seq
  apply wpS_region
  simp [wpOpsS, go_sem, recoverD, hu, Try.ntmps63, Exit.thenS]
  refine wpS_of_wp ?_
  change Code.wp _ _ _ { tmps := #[.pointer (some ⟨b, 0, none⟩), undef, undef, undef, .iface 25 (.int .i64 k), undef, undef, undef, undef, undef], defers := [] } _
  have c0 := hb.cell 0
  have f0 := hb.frozen 0
  have asr := assert_run k
  simp only [List.getElem?_cons_zero] at c0
  go_wp2_with fail
  clear asr c0 f0 hb
  cases c₀
  simp_all [bodyPostS, results, Try.results63]

set_option maxRecDepth 100000 in
set_option maxHeartbeats 1000000 in
theorem attempt_string_ret (g : Nat) (caps : Array Value) (v : Value) (w : World) (eg : ∀ args w, (callFunc g args).run Try.prog w = .ok (.enter g args) w)
    (hdo : ∀ W, Below w.heap.size w W → Calls Try.prog g caps W fun e w' => e = .returned v ∧ Below W.heap.size W w') :
    Calls Try.prog 35 #[.func (.func g) #[] caps] w fun e w' => e = .returned (.tuple #[v, .int .i64 0]) ∧ Below w.heap.size w w' := by
  have hmf := makeFunc_run
  have hb1 := fun (A : Obj) => ((Below.refl w.heap.size w).alloc (Nat.le_refl _) A)
  have HD := Lib.hid (fun A => hdo _ (hb1 A))
  clear hdo
  go_enter_defers Try.func35, Try.ntmps35
  go_wp2_with fail
  refine (HD.out _).mono ?_
  rintro e w1 ⟨rfl, hb2⟩
  have hs0 := (SBlk.new w 25 [.int .i64 0]).below hb2 (by simp)
  have hbz := (hb1 (.cells #[.int .i64 0] 25)).trans (hb2.mono (by simp))
  have k0 := hs0.cell 0
  have f0 := hs0.frozen 0
  simp only [List.getElem?_cons_zero] at k0
  have hs1 := hs0.set 0 (.int .i64 0)
  have e0 := hs1.cell 0
  simp at e0
  have HH := Lib.hid (hbz.setCell (p := ⟨w.heap.size, 0, none⟩) (Nat.le_refl _) (.int .i64 0))
  clear hs0 hs1 hbz hb2 hb1
  go_wp2_with fail
  refine leaves_cons (f := 63) (args := #[.pointer (some ⟨w.heap.size, 0, none⟩)]) (by simp) (by simp [go_sem]) ?_
  refine (idle_string _ _).mono ?_
  rintro e u' w'' ⟨rfl, rfl, rfl⟩
  simp [Leaves, settle, results, Try.results35, go_sem, e0]
  exact HH.out

set_option maxRecDepth 100000 in
set_option maxHeartbeats 1000000 in
theorem attempt_string_thrown (g : Nat) (caps : Array Value) (k : Int) (w : World) (eg : ∀ args w, (callFunc g args).run Try.prog w = .ok (.enter g args) w)
    (hdo : ∀ W, Below w.heap.size w W → Calls Try.prog g caps W fun e w' => e = .panicked (thrown k) ∧ Below W.heap.size W w') :
    Calls Try.prog 35 #[.func (.func g) #[] caps] w fun e w' => e = .returned (.tuple #[.string ⟨#[]⟩, .int .i64 k]) ∧ Below w.heap.size w w' := by
  have hmf := makeFunc_run
  have hb1 := fun (A : Obj) => ((Below.refl w.heap.size w).alloc (Nat.le_refl _) A)
  have HD := Lib.hid (fun A => hdo _ (hb1 A))
  clear hdo
  go_enter_defers Try.func35, Try.ntmps35
  go_wp2_with fail
  refine (HD.out _).mono ?_
  rintro e w1 ⟨rfl, hb2⟩
  have hs0 := (SBlk.new w 25 [.int .i64 0]).below hb2 (by simp)
  have hbz := (hb1 (.cells #[.int .i64 0] 25)).trans (hb2.mono (by simp))
  have hs1 := hs0.set 0 (.int .i64 k)
  have e0 := hs1.cell 0
  simp at e0
  have HH := Lib.hid (hbz.setCell (p := ⟨w.heap.size, 0, none⟩) (Nat.le_refl _) (.int .i64 k))
  have HS := Lib.hid hs0
  clear hs0 hs1 hbz hb2 hb1
  go_wp2_with fail
  refine leaves_cons (f := 63) (args := #[.pointer (some ⟨w.heap.size, 0, none⟩)]) (by simp) (by simp [go_sem]) ?_
  refine (catch_string _ _ _ HS.out).mono ?_
  rintro e u' w'' ⟨rfl, rfl, rfl⟩
  simp [Leaves, settle, results, Try.results35, go_sem, e0]
  exact HH.out

theorem idle_bool (p : Option Addr) (w : World) :
    CallsD Try.prog 71 #[.pointer p] .returning w fun e u' w' => e = .returned (.tuple #[]) ∧ u' = .returning ∧ w' = w := by
  refine callsD_of_wpS Try.func71 rfl fun c₀ cs hu => ?_
  apply wpS_seq
  apply wpS_region
  simp [wpOpsS, go_sem, recoverD, hu, Try.ntmps71, Exit.thenS]
  refine wpS_of_wp ?_
  change Code.wp _ _ _ { tmps := #[.pointer p, undef, undef, undef, .nilIface, undef, undef, undef, undef, undef], defers := [] } _
  go_wp2_with fail
  cases c₀
  simp_all [bodyPostS, results, Try.results71]

theorem catch_bool (b : Nat) (k : Int) (w : World) (hb : SBlk w b 25 [.int .i64 0]) :
    CallsD Try.prog 71 #[.pointer (some ⟨b, 0, none⟩)] (.panicking [{ v := errV k, recovered := false }]) w fun e u' w' => e = .returned (.tuple #[]) ∧ u' = .panicking [{ v := errV k, recovered := true }] ∧ w' = w.setCell ⟨b, 0, none⟩ (.int .i64 k) := by
  refine callsD_of_wpS Try.func71 rfl fun c₀ cs hu => ?_
  apply wpS_seq
  apply wpS_region
  simp [wpOpsS, go_sem, recoverD, hu, Try.ntmps71, Exit.thenS]
  refine wpS_of_wp ?_
  change Code.wp _ _ _ { tmps := #[.pointer (some ⟨b, 0, none⟩), undef, undef, undef, .iface 25 (.int .i64 k), undef, undef, undef, undef, undef], defers := [] } _
  have c0 := hb.cell 0
  have f0 := hb.frozen 0
  have asr := assert_run k
  simp only [List.getElem?_cons_zero] at c0
  go_wp2_with fail
  clear asr c0 f0 hb
  cases c₀
  simp_all [bodyPostS, results, Try.results71]

set_option maxRecDepth 100000 in
set_option maxHeartbeats 1000000 in
theorem attempt_bool_ret (g : Nat) (caps : Array Value) (v : Value) (w : World) (eg : ∀ args w, (callFunc g args).run Try.prog w = .ok (.enter g args) w)
    (hdo : ∀ W, Below w.heap.size w W → Calls Try.prog g caps W fun e w' => e = .returned v ∧ Below W.heap.size W w') :
    Calls Try.prog 40 #[.func (.func g) #[] caps] w fun e w' => e = .returned (.tuple #[v, .int .i64 0]) ∧ Below w.heap.size w w' := by
  have hmf := makeFunc_run
  have hb1 := fun (A : Obj) => ((Below.refl w.heap.size w).alloc (Nat.le_refl _) A)
  have HD := Lib.hid (fun A => hdo _ (hb1 A))
  clear hdo
  go_enter_defers Try.func40, Try.ntmps40
  go_wp2_with fail
  refine (HD.out _).mono ?_
  rintro e w1 ⟨rfl, hb2⟩
  have hs0 := (SBlk.new w 25 [.int .i64 0]).below hb2 (by simp)
  have hbz := (hb1 (.cells #[.int .i64 0] 25)).trans (hb2.mono (by simp))
  have k0 := hs0.cell 0
  have f0 := hs0.frozen 0
  simp only [List.getElem?_cons_zero] at k0
  have hs1 := hs0.set 0 (.int .i64 0)
  have e0 := hs1.cell 0
  simp at e0
  have HH := Lib.hid (hbz.setCell (p := ⟨w.heap.size, 0, none⟩) (Nat.le_refl _) (.int .i64 0))
  clear hs0 hs1 hbz hb2 hb1
  go_wp2_with fail
  refine leaves_cons (f := 71) (args := #[.pointer (some ⟨w.heap.size, 0, none⟩)]) (by simp) (by simp [go_sem]) ?_
  refine (idle_bool _ _).mono ?_
  rintro e u' w'' ⟨rfl, rfl, rfl⟩
  simp [Leaves, settle, results, Try.results40, go_sem, e0]
  exact HH.out

set_option maxRecDepth 100000 in
set_option maxHeartbeats 1000000 in
theorem attempt_bool_thrown (g : Nat) (caps : Array Value) (k : Int) (w : World) (eg : ∀ args w, (callFunc g args).run Try.prog w = .ok (.enter g args) w)
    (hdo : ∀ W, Below w.heap.size w W → Calls Try.prog g caps W fun e w' => e = .panicked (thrown k) ∧ Below W.heap.size W w') :
    Calls Try.prog 40 #[.func (.func g) #[] caps] w fun e w' => e = .returned (.tuple #[.bool false, .int .i64 k]) ∧ Below w.heap.size w w' := by
  have hmf := makeFunc_run
  have hb1 := fun (A : Obj) => ((Below.refl w.heap.size w).alloc (Nat.le_refl _) A)
  have HD := Lib.hid (fun A => hdo _ (hb1 A))
  clear hdo
  go_enter_defers Try.func40, Try.ntmps40
  go_wp2_with fail
  refine (HD.out _).mono ?_
  rintro e w1 ⟨rfl, hb2⟩
  have hs0 := (SBlk.new w 25 [.int .i64 0]).below hb2 (by simp)
  have hbz := (hb1 (.cells #[.int .i64 0] 25)).trans (hb2.mono (by simp))
  have hs1 := hs0.set 0 (.int .i64 k)
  have e0 := hs1.cell 0
  simp at e0
  have HH := Lib.hid (hbz.setCell (p := ⟨w.heap.size, 0, none⟩) (Nat.le_refl _) (.int .i64 k))
  have HS := Lib.hid hs0
  clear hs0 hs1 hbz hb2 hb1
  go_wp2_with fail
  refine leaves_cons (f := 71) (args := #[.pointer (some ⟨w.heap.size, 0, none⟩)]) (by simp) (by simp [go_sem]) ?_
  refine (catch_bool _ _ _ HS.out).mono ?_
  rintro e u' w'' ⟨rfl, rfl, rfl⟩
  simp [Leaves, settle, results, Try.results40, go_sem, e0]
  exact HH.out

theorem idle_int (p : Option Addr) (w : World) :
    CallsD Try.prog 73 #[.pointer p] .returning w fun e u' w' => e = .returned (.tuple #[]) ∧ u' = .returning ∧ w' = w := by
  refine callsD_of_wpS Try.func73 rfl fun c₀ cs hu => ?_
  apply wpS_seq
  apply wpS_region
  simp [wpOpsS, go_sem, recoverD, hu, Try.ntmps73, Exit.thenS]
  refine wpS_of_wp ?_
  change Code.wp _ _ _ { tmps := #[.pointer p, undef, undef, undef, .nilIface, undef, undef, undef, undef, undef], defers := [] } _
  go_wp2_with fail
  cases c₀
  simp_all [bodyPostS, results, Try.results73]

theorem catch_int (b : Nat) (k : Int) (w : World) (hb : SBlk w b 25 [.int .i64 0]) :
    CallsD Try.prog 73 #[.pointer (some ⟨b, 0, none⟩)] (.panicking [{ v := errV k, recovered := false }]) w fun e u' w' => e = .returned (.tuple #[]) ∧ u' = .panicking [{ v := errV k, recovered := true }] ∧ w' = w.setCell ⟨b, 0, none⟩ (.int .i64 k) := by
  refine callsD_of_wpS Try.func73 rfl fun c₀ cs hu => ?_
  apply wpS_seq
  apply wpS_region
  simp [wpOpsS, go_sem, recoverD, hu, Try.ntmps73, Exit.thenS]
  refine wpS_of_wp ?_
  change Code.wp _ _ _ { tmps := #[.pointer (some ⟨b, 0, none⟩), undef, undef, undef, .iface 25 (.int .i64 k), undef, undef, undef, undef, undef], defers := [] } _
  have c0 := hb.cell 0
  have f0 := hb.frozen 0
  have asr := assert_run k
  simp only [List.getElem?_cons_zero] at c0
  go_wp2_with fail
  clear asr c0 f0 hb
  cases c₀
  simp_all [bodyPostS, results, Try.results73]

set_option maxRecDepth 100000 in
set_option maxHeartbeats 1000000 in
theorem attempt_int_ret (g : Nat) (caps : Array Value) (v : Value) (w : World) (eg : ∀ args w, (callFunc g args).run Try.prog w = .ok (.enter g args) w)
    (hdo : ∀ W, Below w.heap.size w W → Calls Try.prog g caps W fun e w' => e = .returned v ∧ Below W.heap.size W w') :
    Calls Try.prog 45 #[.func (.func g) #[] caps] w fun e w' => e = .returned (.tuple #[v, .int .i64 0]) ∧ Below w.heap.size w w' := by
  have hmf := makeFunc_run
  have hb1 := fun (A : Obj) => ((Below.refl w.heap.size w).alloc (Nat.le_refl _) A)
  have HD := Lib.hid (fun A => hdo _ (hb1 A))
  clear hdo
  go_enter_defers Try.func45, Try.ntmps45
  go_wp2_with fail
  refine (HD.out _).mono ?_
  rintro e w1 ⟨rfl, hb2⟩
  have hs0 := (SBlk.new w 25 [.int .i64 0]).below hb2 (by simp)
  have hbz := (hb1 (.cells #[.int .i64 0] 25)).trans (hb2.mono (by simp))
  have k0 := hs0.cell 0
  have f0 := hs0.frozen 0
  simp only [List.getElem?_cons_zero] at k0
  have hs1 := hs0.set 0 (.int .i64 0)
  have e0 := hs1.cell 0
  simp at e0
  have HH := Lib.hid (hbz.setCell (p := ⟨w.heap.size, 0, none⟩) (Nat.le_refl _) (.int .i64 0))
  clear hs0 hs1 hbz hb2 hb1
  go_wp2_with fail
  refine leaves_cons (f := 73) (args := #[.pointer (some ⟨w.heap.size, 0, none⟩)]) (by simp) (by simp [go_sem]) ?_
  refine (idle_int _ _).mono ?_
  rintro e u' w'' ⟨rfl, rfl, rfl⟩
  simp [Leaves, settle, results, Try.results45, go_sem, e0]
  exact HH.out

set_option maxRecDepth 100000 in
set_option maxHeartbeats 1000000 in
theorem attempt_int_thrown (g : Nat) (caps : Array Value) (k : Int) (w : World) (eg : ∀ args w, (callFunc g args).run Try.prog w = .ok (.enter g args) w)
    (hdo : ∀ W, Below w.heap.size w W → Calls Try.prog g caps W fun e w' => e = .panicked (thrown k) ∧ Below W.heap.size W w') :
    Calls Try.prog 45 #[.func (.func g) #[] caps] w fun e w' => e = .returned (.tuple #[.int .i64 0, .int .i64 k]) ∧ Below w.heap.size w w' := by
  have hmf := makeFunc_run
  have hb1 := fun (A : Obj) => ((Below.refl w.heap.size w).alloc (Nat.le_refl _) A)
  have HD := Lib.hid (fun A => hdo _ (hb1 A))
  clear hdo
  go_enter_defers Try.func45, Try.ntmps45
  go_wp2_with fail
  refine (HD.out _).mono ?_
  rintro e w1 ⟨rfl, hb2⟩
  have hs0 := (SBlk.new w 25 [.int .i64 0]).below hb2 (by simp)
  have hbz := (hb1 (.cells #[.int .i64 0] 25)).trans (hb2.mono (by simp))
  have hs1 := hs0.set 0 (.int .i64 k)
  have e0 := hs1.cell 0
  simp at e0
  have HH := Lib.hid (hbz.setCell (p := ⟨w.heap.size, 0, none⟩) (Nat.le_refl _) (.int .i64 k))
  have HS := Lib.hid hs0
  clear hs0 hs1 hbz hb2 hb1
  go_wp2_with fail
  refine leaves_cons (f := 73) (args := #[.pointer (some ⟨w.heap.size, 0, none⟩)]) (by simp) (by simp [go_sem]) ?_
  refine (catch_int _ _ _ HS.out).mono ?_
  rintro e u' w'' ⟨rfl, rfl, rfl⟩
  simp [Leaves, settle, results, Try.results45, go_sem, e0]
  exact HH.out
end Go.Proofs.Ytogchohpnbeldaa
