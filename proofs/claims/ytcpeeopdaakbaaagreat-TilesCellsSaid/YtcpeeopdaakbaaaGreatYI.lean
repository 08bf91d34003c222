/- newOrders: the rows of letters. check: the error of a word. given: orders and words that are handed over. -/
import Derived.Test.YtcpeeopdaakbaaaGreatYE
namespace Go.Proofs.YtcpeeopdaakbaaaGreat
open Go.RowKit Go.Shelf Cx

def t01 : ByteArray := ⟨#[0, 1, 0, 1, 0, 1, 0, 1, 0, 1, 0, 1, 0]⟩
def t02 : ByteArray := ⟨#[0, 2, 0, 2, 0, 2, 0, 2, 0, 2, 0, 2, 0]⟩
def t12 : ByteArray := ⟨#[1, 2, 1, 2, 1, 2, 1, 2, 1, 2, 1, 2, 1]⟩

set_option maxRecDepth 100000 in
theorem cut0 (m : Nat) (h : m ≤ 12) (w : World) :
    (Instr.slice 9 (.string t01) none (some (.int .i64 m)) none).run Tryz.prog w = .ok (.string (str (alt 0 1 m))) w ∧
    (Instr.slice 9 (.string t02) none (some (.int .i64 m)) none).run Tryz.prog w = .ok (.string (str (alt 0 2 m))) w ∧
    (Instr.slice 9 (.string t12) none (some (.int .i64 m)) none).run Tryz.prog w = .ok (.string (str (alt 1 2 m))) w := by
  rcases m with _ | _ | _ | _ | _ | _ | _ | _ | _ | _ | _ | _ | _ | m
  all_goals (try (exfalso; omega))
  all_goals exact ⟨rfl, rfl, rfl⟩

set_option maxRecDepth 100000 in
theorem cut1 (m : Nat) (h : m ≤ 12) (w : World) :
    (Instr.slice 9 (.string t01) (some (.int .i64 1)) (some (.int .i64 (1 + (m : Int)))) none).run Tryz.prog w = .ok (.string (str (alt 1 0 m))) w ∧
    (Instr.slice 9 (.string t02) (some (.int .i64 1)) (some (.int .i64 (1 + (m : Int)))) none).run Tryz.prog w = .ok (.string (str (alt 2 0 m))) w ∧
    (Instr.slice 9 (.string t12) (some (.int .i64 1)) (some (.int .i64 (1 + (m : Int)))) none).run Tryz.prog w = .ok (.string (str (alt 2 1 m))) w := by
  rcases m with _ | _ | _ | _ | _ | _ | _ | _ | _ | _ | _ | _ | _ | m
  all_goals (try (exfalso; omega))
  all_goals exact ⟨rfl, rfl, rfl⟩

set_option maxRecDepth 100000 in
set_option maxHeartbeats 2000000 in
theorem newOrders_any (a b c : Nat) (ha : Lim a) (hb : Lim b) (hc : Lim c) (hf : faultS a b c = 0) (w : World) :
    Calls Tryz.prog 187 #[.agg #[.int .i64 a, .int .i64 b, .int .i64 c]] w fun e w' => ∃ ob, e = .returned (.pointer (some ⟨ob, 0, none⟩)) ∧ SBlk w' ob 272 (ordCells a b c) ∧ w.heap.size ≤ ob ∧ Below w.heap.size w w' := by
  have hmix : Tryz.prog.follows .mixedOrders = true := by kernel_rfl
  have a1 : a ≤ 12 := by rcases ha with h | h <;> omega
  have b1 : b ≤ 12 := by rcases hb with h | h <;> omega
  have c1 : c ≤ 12 := by rcases hc with h | h <;> omega
  have hF := fun W => fault_any a b c ha hb hc W
  rw [hf] at hF
  have HF := Lib.hid hF
  have s01 := fun w => (cut0 a a1 w).1
  have s02 := fun w => (cut0 c c1 w).2.1
  have s12 := fun w => (cut0 b b1 w).2.2
  have s10 := fun w => (cut1 a a1 w).1
  have s20 := fun w => (cut1 c c1 w).2.1
  have s21 := fun w => (cut1 b b1 w).2.2
  unfold t01 at s01 s10
  unfold t02 at s02 s20
  unfold t12 at s12 s21
  have wa : IntKind.i64.wrap (1 + (a : Int)) = 1 + (a : Int) := IntWalk.i64_in _ (by omega)
  have wb : IntKind.i64.wrap (1 + (b : Int)) = 1 + (b : Int) := IntWalk.i64_in _ (by omega)
  have wc : IntKind.i64.wrap (1 + (c : Int)) = 1 + (c : Int) := IntWalk.i64_in _ (by omega)
  have HS := Lib.hid (And.intro (And.intro s01 (And.intro s02 s12)) (And.intro (And.intro s10 (And.intro s20 s21)) (And.intro wa (And.intro wb wc))))
  clear hF hf s01 s02 s12 s10 s20 s21 wa wb wc
  go_enter Tryz.func187, Tryz.ntmps187
  go_wp2_with (go_at_call 215; refine (HF.out _).mono ?_; rintro e w1 ⟨rfl, hb1⟩; have HB1 := Lib.hid hb1; have q0 := ((SBlk.new w 23 [.int .i64 a, .int .i64 b, .int .i64 c]).below hb1 (by simp)); have k0 := q0.cell 0; have k1 := q0.cell 1; have k2 := q0.cell 2; clear hb1 q0; simp only [List.getElem?_cons_succ, List.getElem?_cons_zero] at k0 k1 k2)
  obtain ⟨⟨s01, s02, s12⟩, ⟨s10, s20, s21⟩, wa, wb, wc⟩ := HS.out
  clear HS
  go_still_tail 27, (by kernel_rfl)
  clear s01 s02 s12 s10 s20 s21 wa wb wc
  change wpList _ _ _ _ _ w1.drew
  go_wp2_with fail
  go_ret
  refine ⟨w1.heap.size, rfl, ?_, ?_, ?_⟩
  · exact SBlk.new w1.drew 272 (ordCells a b c)
  · have := HB1.out.size; simp at this; omega
  · exact ((Below.refl _ w).alloc (Nat.le_refl _) _).trans ((HB1.out.mono (by simp)).trans ((Below.refl _ w1).alloc (by have := HB1.out.size; simp at this; show w.heap.size ≤ w1.heap.size; omega) _).drew)
end Go.Proofs.YtcpeeopdaakbaaaGreat

namespace Go.Proofs.YtcpeeopdaakbaaaGreat
open Go.RowKit Go.Shelf Cx
attribute [local go_sem] Oper.semAt_some

/-- the functions that check runs through -/
def Fc : Fence := { fn := fun f => f = 188 ∨ f = 205 ∨ f = 222 }

/-- the error of a word -/
def checkS (s : ByteArray) : Int := if (bytesN s).all (· < 3) = true then (if 60 < s.size then 4 else 0) else 1

/-- an error as it is thrown -/
def errV (k : Int) : Value := .iface 24 (.int .i64 k)

def thrown (k : Int) : List PanicEntry := [{ v := errV k, recovered := false }]

/-- what check does -/
def RCheck (s : ByteArray) (w : World) (e : Ending) (w' : World) : Prop :=
  Below w.heap.size w w' ∧ e = if checkS s = 0 then .returned (.tuple #[]) else .panicked (thrown (checkS s))

set_option maxRecDepth 100000 in
set_option maxHeartbeats 2000000 in
theorem check_in (s : ByteArray) (w : World) (hs : s.size ≤ 9223372036854775807) :
    CallsIn Fc 1 Tryz.prog 188 #[.string s] w (RCheck s w) := by
  have hfw := forward_in Fc (.inr (.inl rfl)) rfl s w
  have HF := Lib.hid hfw
  have f1 : Fc.fn 205 := .inr (.inl rfl)
  have f2 : Fc.fn 222 := .inr (.inr rfl)
  have hro : Fc.round = none := rfl
  have hdep : Fc.depth = none := rfl
  clear hfw
  refine callsIn_of_wp_marks Tryz.func188 rfl (.inl rfl) ?_ rfl
  simp only [Tryz.ntmps188, List.size_toArray, List.length_cons, List.length_nil, Nat.reduceAdd, Nat.reduceSub, Array.replicate_succ, Array.replicate_zero, List.push_toArray, List.append_toArray, List.nil_append, List.cons_append]
  gi_wp2_with (gi_at_call 205; refine HF.out.mono ?_; rintro e w' ⟨rfl, rfl⟩)
  obtain ⟨W0, hW0⟩ : ∃ W0, w.alloc (.cells #[.string s] 9) = W0 := ⟨_, rfl⟩
  have hsz : W0.heap.size = w.heap.size + 1 := by rw [← hW0]; simp
  have hbel : Below w.heap.size w W0 := by rw [← hW0]; exact (Below.refl _ w).alloc (Nat.le_refl _) _
  have hblk : SBlk W0 w.heap.size 9 [.string s] := by rw [← hW0]; exact SBlk.new w 9 [.string s]
  rw [hW0]
  clear hW0
  refine rangeN (gf := 222) (cap := #[.pointer (some ⟨w.heap.size, 0, none⟩)]) (encs := encB) rfl f2 rfl (enters_of Tryz.func222 (by kernel_rfl) rfl) (fun _ => rfl) (S := fun _ => False)
    (forward_iter Fc f2 rfl rfl w.heap.size s hs _ (by simp; omega) _ hblk)
    (fun pre A => (∀ y ∈ pre, y < 3) ∧ Below w.heap.size w A) (fun _ _ => False) (fun ch A => ch = thrown 1 ∧ (∃ y ∈ bytesN s, 3 ≤ y) ∧ Below w.heap.size w A)
    (fun pre A B h hs2 => ⟨h.1, hs2.below h.2 (Nat.le_refl _) (by omega)⟩) (fun _ _ _ h _ => h) ⟨(fun y hy => by cases hy), hbel⟩
    (fun pre x a' A => ((∀ y ∈ pre, y < 3) ∧ Below w.heap.size w A) ∧ a' = { tmps := #[.string s, undef, .int .u8 x, .string s, .func (.func 222) #[] #[.pointer (some ⟨w.heap.size, 0, none⟩)], .int .u8 x, undef, undef, undef, undef, undef, undef, undef], defers := [] })
    (fun pre x a' A B h hs2 => ⟨⟨h.1.1, hs2.below h.1.2 (Nat.le_refl _) (by omega)⟩, h.2⟩) ?assign ?body ?done (fun _ _ h => h.elim) ?pan
  case assign =>
    intro l2 pre x rest A K hxs2 hI hK
    unfold encB
    gi_wp2_with fail
    exact hK _ _ (KeepsOthers.refl _) (But.refl _ _) ⟨hI, rfl⟩
  case body =>
    rintro l2 pre x rest a' A hxe ⟨⟨hp, hb⟩, rfl⟩
    have HX := Lib.hid (And.intro hxe (And.intro hp hb))
    clear hxe hp hb
    by_cases hx : 2 < x
    · gi_wp2_with fail
      refine ⟨KeepsOthers.refl _, rfl, ?_, rfl, ⟨x, by rw [HX.out.1]; simp, hx⟩, HX.out.2.2⟩
      rintro fn (rfl | rfl | rfl)
      · exact ⟨_, Tryz.func188⟩
      · exact ⟨_, Tryz.func205⟩
      · exact ⟨_, Tryz.func222⟩
    · gi_wp2_with fail
      refine ⟨KeepsOthers.refl _, But.refl _ _, fun y hy => ?_, HX.out.2.2⟩
      rcases List.mem_append.1 hy with h | h
      · exact HX.out.2.1 y h
      · simp at h; omega
  case done =>
    rintro B ⟨hp, hb⟩ hK
    have hall : (bytesN s).all (· < 3) = true := by
      rw [List.all_eq_true]; intro y hy; simpa using hp y hy
    have hrest : ∀ W, Soft W0.heap.size B W → Below w.heap.size w W := fun W h => h.below hb (Nat.le_refl _) (by omega)
    have HR := Lib.hid (And.intro hall hrest)
    clear hp hb hall hrest
    by_cases hl : 60 < s.size
    · have hck : checkS s = 4 := by unfold checkS; rw [if_pos HR.out.1, if_pos hl]
      have HC := Lib.hid hck
      clear hck
      gi_wp2_with fail
      refine ⟨by simp, .inl ⟨_, _, rfl, run_takeDeferred hK, ?_⟩⟩
      exact ⟨HR.out.2 _ (Soft.put _ hK rfl (Nat.le_refl _)), by rw [HC.out]; rfl⟩
    · have hck : checkS s = 0 := by unfold checkS; rw [if_pos HR.out.1, if_neg hl]
      have HC := Lib.hid hck
      clear hck
      gi_wp2_with fail
      refine ⟨by simp, .inl ⟨_, _, rfl, run_takeDeferred hK, ?_⟩⟩
      exact ⟨_, results_none rfl _ _ _, HR.out.2 _ (Soft.put _ hK rfl (Nat.le_refl _)), by rw [HC.out]; rfl⟩
  case pan =>
    rintro ch B ⟨rfl, ⟨y, hy, h3⟩, hb⟩ hK
    refine ⟨by simp, .inl ⟨_, _, rfl, run_takeDeferred hK, ?_⟩⟩
    have hck : checkS s = 1 := by
      unfold checkS
      rw [if_neg]
      intro h
      have := List.all_eq_true.1 h y hy
      simp at this; omega
    exact ⟨(Soft.put (D := W0.heap.size) (.deferred none) hK rfl (Nat.le_refl _)).below hb (Nat.le_refl _) (by omega), by rw [hck]; rfl⟩

theorem check_any (s : ByteArray) (w : World) (hs : s.size ≤ 9223372036854775807) :
    Calls Tryz.prog 188 #[.string s] w (RCheck s w) := (check_in s w hs).calls (fun _ d h => by cases h)
end Go.Proofs.YtcpeeopdaakbaaaGreat

namespace Go.Proofs.YtcpeeopdaakbaaaGreat
open Go.RowKit Go.Shelf Cx

/-- the first error of words -/
def errs : List ByteArray → Int
  | [] => 0
  | s :: ws => if checkS s = 0 then errs ws else checkS s

theorem check_ok (s : ByteArray) (w : World) (hs : s.size ≤ 9223372036854775807) (h : checkS s = 0) :
    Calls Tryz.prog 188 #[.string s] w fun e w' => e = .returned (.tuple #[]) ∧ Below w.heap.size w w' :=
  (check_any s w hs).mono fun e w' ⟨h1, h2⟩ => by rw [if_pos h] at h2; exact ⟨h2, h1⟩
theorem check_bad (s : ByteArray) (w : World) (hs : s.size ≤ 9223372036854775807) (h : checkS s ≠ 0) :
    Calls Tryz.prog 188 #[.string s] w fun e w' => e = .panicked (thrown (checkS s)) ∧ Below w.heap.size w w' :=
  (check_any s w hs).mono fun e w' ⟨h1, h2⟩ => by rw [if_neg h] at h2; exact ⟨h2, h1⟩

/-- what given does where the orders are allowed -/
def RGiven (a b c : Nat) (ws : List ByteArray) (w : World) (e : Ending) (w' : World) : Prop :=
  Below w.heap.size w w' ∧ ((errs ws = 0 ∧ ∃ ob, e = .returned (.pointer (some ⟨ob, 0, none⟩)) ∧ SBlk w' ob 272 (ordCells a b c) ∧ w.heap.size ≤ ob) ∨ (errs ws ≠ 0 ∧ e = .panicked (thrown (errs ws))))

set_option maxRecDepth 100000 in
set_option maxHeartbeats 2000000 in
theorem given_any (a b c : Nat) (ha : Lim a) (hb : Lim b) (hc : Lim c) (hf : faultS a b c = 0) (vb : Nat) (ws : List ByteArray) (w : World) (hv : SBlk w vb 9 (cellsS ws)) (hk : ws.length ≤ 140737488355328) (hn : ∀ s ∈ ws, s.size ≤ 9223372036854775807) :
    Calls Tryz.prog 142 #[.agg #[.int .i64 a, .int .i64 b, .int .i64 c], .slice (some ⟨vb, 0, none⟩) ws.length ws.length] w (RGiven a b c ws w) := by
  have hvlt := hv.lt
  have vcell : ∀ (W : World), SBlk W vb 9 (cellsS ws) → ∀ i (h : i < ws.length), W.cell? ⟨vb, i, none⟩ = some (.string ws[i]) := fun W hW i h => by
    rw [hW.cell]; simp [cellsS, List.getElem?_eq_getElem h]
  have HV := Lib.hid (And.intro hv vcell)
  have HO := Lib.hid (fun W => newOrders_any a b c ha hb hc hf W)
  have HN := Lib.hid hn
  clear hv vcell hn ha hb hc hf
  go_enter Tryz.func142, Tryz.ntmps142
  go_wp2_with (go_at_call 187; refine (HO.out _).mono ?_; rintro e w1 ⟨ob, rfl, hob, hle, hb1⟩; have HW := Lib.hid (And.intro hob (And.intro hle hb1)); clear hob hle hb1)
  go_loopw [12] (fun i wr => ∃ k : Nat, k ≤ ws.length ∧ i = .int .i64 (k : Int) ∧ errs ws = errs (ws.drop k) ∧ Below w.heap.size w wr ∧ SBlk wr ob 272 (ordCells a b c)) (fun i _ => ws.length - (intOf i).toNat)
  case atStart =>
    obtain ⟨hob, hle, hb1⟩ := HW.out
    exact ⟨0, Nat.zero_le _, rfl, rfl, ((Below.refl _ w).alloc (Nat.le_refl _) _).trans (hb1.mono (by simp)), hob⟩
  case round =>
    obtain ⟨k, hk2, rfl, he, hbel, hob⟩ := hrel
    have hle : w.heap.size ≤ ob := by have := HW.out.2.1; simp at this; omega
    by_cases hlt : k < ws.length
    · have hcell := HV.out.2 wr (HV.out.1.below hbel hvlt) k hlt
      have hd : errs (ws.drop k) = if checkS ws[k] = 0 then errs (ws.drop (k + 1)) else checkS ws[k] := by
        rw [List.drop_eq_getElem_cons hlt]; rfl
      have hsz := HN.out ws[k] (List.getElem_mem hlt)
      generalize ws[k] = s at *
      by_cases h0 : checkS s = 0
      · rw [if_pos h0] at hd
        have HC := Lib.hid (check_ok s wr hsz h0)
        have HX := Lib.hid (And.intro (he.trans hd) (And.intro hbel hob))
        clear he hd h0 hbel hob
        go_wp2_with (go_at_call 188; refine HC.out.mono ?_; rintro e w' ⟨rfl, hb2⟩; have HB := Lib.hid hb2; clear hb2)
        go_roundw
        case measure => simp [intOf]; omega
        case rel =>
          obtain ⟨he, hbel, hob⟩ := HX.out
          exact ⟨k + 1, by omega, by simp, he, hbel.trans (HB.out.mono hbel.size), hob.below HB.out hob.lt⟩
      · rw [if_neg h0] at hd
        have HC := Lib.hid (check_bad s wr hsz h0)
        have HX := Lib.hid (And.intro (he.trans hd) (And.intro hbel h0))
        clear he hd h0 hbel hob
        go_wp2_with (go_at_call 188; refine HC.out.mono ?_; rintro e w' ⟨rfl, hb2⟩; have HB := Lib.hid hb2; clear hb2)
        obtain ⟨he, hbel, h0⟩ := HX.out
        exact ⟨rfl, hbel.trans (HB.out.mono hbel.size), .inr ⟨by rw [he]; exact h0, by rw [he]⟩⟩
    · obtain rfl : k = ws.length := by omega
      rw [List.drop_length] at he
      have HX := Lib.hid (And.intro he (And.intro hbel hob))
      clear he hbel hob
      go_wp2_with fail
      go_ret
      obtain ⟨he, hbel, hob⟩ := HX.out
      exact ⟨hbel, .inl ⟨he, ob, rfl, hob, hle⟩⟩
end Go.Proofs.YtcpeeopdaakbaaaGreat
