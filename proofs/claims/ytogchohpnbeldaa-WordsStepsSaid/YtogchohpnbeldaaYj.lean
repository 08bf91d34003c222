/- check: the error of a word. -/
import Derived.Test.YtogchohpnbeldaaYi
namespace Go.Proofs.Ytogchohpnbeldaa
open Go.RowKit Go.Shelf Cx
attribute [local go_sem] Oper.semAt_some

/-- the functions that check runs through -/
def Fc : Fence := { fn := fun f => f = 65 ∨ f = 72 ∨ f = 97 }

/-- the error of a word -/
def checkS (s : ByteArray) : Int := if (bytesN s).all (· < 3) = true then (if 60 < s.size then 4 else 0) else 1

/-- an error as it is thrown -/
def errV (k : Int) : Value := .iface 25 (.int .i64 k)

def thrown (k : Int) : List PanicEntry := [{ v := errV k, recovered := false }]

/-- what check does -/
def RCheck (s : ByteArray) (w : World) (e : Ending) (w' : World) : Prop :=
  Below w.heap.size w w' ∧ e = if checkS s = 0 then .returned (.tuple #[]) else .panicked (thrown (checkS s))

set_option maxRecDepth 100000 in
set_option maxHeartbeats 2000000 in
theorem check_in (s : ByteArray) (w : World) (hs : s.size ≤ 140737488355328) :
    CallsIn Fc 1 Try.prog 65 #[.string s] w (RCheck s w) := by
  have hfw := forward_in Fc (.inr (.inl rfl)) rfl s w
  have HF := Lib.hid hfw
  have f1 : Fc.fn 72 := .inr (.inl rfl)
  have f2 : Fc.fn 97 := .inr (.inr rfl)
  have hro : Fc.round = none := rfl
  have hdep : Fc.depth = none := rfl
  clear hfw
  refine callsIn_of_wp_marks Try.func65 rfl (.inl rfl) ?_ rfl
  simp only [Try.ntmps65, List.size_toArray, List.length_cons, List.length_nil, Nat.reduceAdd, Nat.reduceSub, Array.replicate_succ, Array.replicate_zero, List.push_toArray, List.append_toArray, List.nil_append, List.cons_append]
  gi_wp2_with (gi_at_call 72; refine HF.out.mono ?_; rintro e w' ⟨rfl, rfl⟩)
  obtain ⟨W0, hW0⟩ : ∃ W0, w.alloc (.cells #[.string s] 9) = W0 := ⟨_, rfl⟩
  have hsz : W0.heap.size = w.heap.size + 1 := by rw [← hW0]; simp
  have hbel : Below w.heap.size w W0 := by rw [← hW0]; exact (Below.refl _ w).alloc (Nat.le_refl _) _
  have hblk : SBlk W0 w.heap.size 9 [.string s] := by rw [← hW0]; exact SBlk.new w 9 [.string s]
  rw [hW0]
  clear hW0
  refine rangeN (gf := 97) (cap := #[.pointer (some ⟨w.heap.size, 0, none⟩)]) (encs := encB) rfl f2 rfl (enters_of Try.func97 (by kernel_rfl) rfl) (fun _ => rfl) (S := fun _ => False)
    (forward_iter Fc f2 rfl rfl w.heap.size s hs _ (by simp; omega) _ hblk)
    (fun pre A => (∀ y ∈ pre, y < 3) ∧ Below w.heap.size w A) (fun _ _ => False) (fun ch A => ch = thrown 1 ∧ (∃ y ∈ bytesN s, 3 ≤ y) ∧ Below w.heap.size w A)
    (fun pre A B h hs2 => ⟨h.1, hs2.below h.2 (Nat.le_refl _) (by omega)⟩) (fun _ _ _ h _ => h) ⟨(fun y hy => by cases hy), hbel⟩
    (fun pre x a' A => ((∀ y ∈ pre, y < 3) ∧ Below w.heap.size w A) ∧ a' = { tmps := #[.string s, undef, .int .u8 x, .string s, .func (.func 97) #[] #[.pointer (some ⟨w.heap.size, 0, none⟩)], .int .u8 x, undef, undef, undef, undef, undef, undef, undef], defers := [] })
    (fun pre x a' A B h hs2 => ⟨⟨h.1.1, hs2.below h.1.2 (Nat.le_refl _) (by omega)⟩, h.2⟩) ?assign ?body ?done (fun _ _ h => h.elim) ?pan
  case assign =>
    intro l2 pre x rest A K hxs2 hI hK
    unfold encB
    gi_wp2_with fail
    exact hK _ _ (KeepsOthers.refl _) (But.refl _ _) ⟨hI, rfl⟩
  case body =>
    rintro l2 pre x rest a' A hxe ⟨⟨hp, hb⟩, rfl⟩
    have HX := Lib.hid (And.intro hxe (And.intro hp hb))
    clear hxe hp hb
    by_cases hx : 2 < x
    · gi_wp2_with fail
      refine ⟨KeepsOthers.refl _, rfl, ?_, rfl, ⟨x, by rw [HX.out.1]; simp, hx⟩, HX.out.2.2⟩
      rintro fn (rfl | rfl | rfl)
      · exact ⟨_, Try.func65⟩
      · exact ⟨_, Try.func72⟩
      · exact ⟨_, Try.func97⟩
    · gi_wp2_with fail
      refine ⟨KeepsOthers.refl _, But.refl _ _, fun y hy => ?_, HX.out.2.2⟩
      rcases List.mem_append.1 hy with h | h
      · exact HX.out.2.1 y h
      · simp at h; omega
  case done =>
    rintro B ⟨hp, hb⟩ hK
    have hall : (bytesN s).all (· < 3) = true := by
      rw [List.all_eq_true]; intro y hy; simpa using hp y hy
    have hrest : ∀ W, Soft W0.heap.size B W → Below w.heap.size w W := fun W h => h.below hb (Nat.le_refl _) (by omega)
    have HR := Lib.hid (And.intro hall hrest)
    clear hp hb hall hrest
    by_cases hl : 60 < s.size
    · have hck : checkS s = 4 := by unfold checkS; rw [if_pos HR.out.1, if_pos hl]
      have HC := Lib.hid hck
      clear hck
      gi_wp2_with fail
      refine ⟨by simp, .inl ⟨_, _, rfl, run_takeDeferred hK, ?_⟩⟩
      exact ⟨HR.out.2 _ (Soft.put _ hK rfl (Nat.le_refl _)), by rw [HC.out]; rfl⟩
    · have hck : checkS s = 0 := by unfold checkS; rw [if_pos HR.out.1, if_neg hl]
      have HC := Lib.hid hck
      clear hck
      gi_wp2_with fail
      refine ⟨by simp, .inl ⟨_, _, rfl, run_takeDeferred hK, ?_⟩⟩
      exact ⟨_, results_none rfl _ _ _, HR.out.2 _ (Soft.put _ hK rfl (Nat.le_refl _)), by rw [HC.out]; rfl⟩
  case pan =>
    rintro ch B ⟨rfl, ⟨y, hy, h3⟩, hb⟩ hK
    refine ⟨by simp, .inl ⟨_, _, rfl, run_takeDeferred hK, ?_⟩⟩
    have hck : checkS s = 1 := by
      unfold checkS
      rw [if_neg]
      intro h
      have := List.all_eq_true.1 h y hy
      simp at this; omega
    exact ⟨(Soft.put (D := W0.heap.size) (.deferred none) hK rfl (Nat.le_refl _)).below hb (Nat.le_refl _) (by omega), by rw [hck]; rfl⟩

theorem check_any (s : ByteArray) (w : World) (hs : s.size ≤ 140737488355328) :
    Calls Try.prog 65 #[.string s] w (RCheck s w) := (check_in s w hs).calls (fun _ d h => by cases h)
end Go.Proofs.Ytogchohpnbeldaa
