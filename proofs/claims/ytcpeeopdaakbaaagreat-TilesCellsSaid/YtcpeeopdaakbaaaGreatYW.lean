/- The chapter's examples. The statements' common examples hold. -/
import Derived.Test.YtcpeeopdaakbaaaGreatYs
import Derived.Test.YtcpeeopdaakbaaaGreatCoxA
namespace Go.Proofs.YtcpeeopdaakbaaaGreat
open Go.RowKit Go.Shelf Cx

theorem nfW_eq {a b c : Nat} (hg : Good a b c) {ws : List ByteArray} (h : ∀ s ∈ ws, checkS s = 0) : nfW a b c ws = nfL (Mo a b c) (cat ws) :=
  nfL_eq (Mo_ords hg.la hg.lb hg.lc) (cat_low h).1

theorem good372 : Good 3 7 2 := ⟨.inr ⟨by omega, by omega⟩, .inr ⟨by omega, by omega⟩, .inr ⟨by omega, by omega⟩, by decide +kernel⟩

def wB (l : List UInt8) : ByteArray := ⟨l.toArray⟩

theorem ex1 : checkS ⟨#[1, 0, 1]⟩ = 0 ∧ checkS ⟨#[2, 0]⟩ = 0 ∧ checkS ⟨#[0, 1, 0]⟩ = 0 ∧ checkS ⟨#[0, 1]⟩ = 0 ∧ checkS ⟨#[1, 2]⟩ = 0 ∧ checkS ⟨#[0, 1, 2]⟩ = 0 ∧ checkS ⟨#[3]⟩ = 1 := by decide +kernel

theorem ex2 : nfL (Mo 3 7 2) (cat [⟨#[1, 0, 1]⟩]) = [0, 1, 0] ∧ nfL (Mo 3 7 2) (cat [⟨#[2, 0]⟩]) = [0, 2] ∧ nfL (Mo 3 7 2) (cat [⟨#[0, 1, 0]⟩]) = [0, 1, 0] ∧ nfL (Mo 3 7 2) (cat [⟨#[0, 1]⟩, ⟨#[0, 1]⟩]) = [1, 0] := by decide +kernel

theorem ex3 : ∀ k : Fin 8, 1 ≤ k.val → madeL (Mo 3 7 2) (rep ⟨#[0, 1, 2]⟩ k.val) ≠ [] := by decide +kernel
theorem ex4 : ∀ k : Fin 7, 1 ≤ k.val → madeL (Mo 3 7 2) (rep ⟨#[1, 2]⟩ k.val) ≠ [] := by decide +kernel
theorem ex5 : madeL (Mo 3 7 2) (rep ⟨#[1, 2]⟩ 7) = [] := by decide +kernel

theorem rep_low {s : ByteArray} (h : checkS s = 0) (n : Nat) : ∀ y ∈ rep s n, y < 3 := by
  intro y hy
  unfold rep at hy
  obtain ⟨l, hl, hy⟩ := List.mem_flatten.1 hy
  rw [List.mem_replicate] at hl
  rw [hl.2] at hy
  exact (checkS_low h).1 y hy

theorem order12 : RRound 3 7 2 ⟨#[1, 2]⟩ 7 := by
  have hM := Mo_ords good372.la good372.lb good372.lc
  refine .inr ⟨7, rfl, by omega, by decide, (one_iff hM (rep_low ex1.2.2.2.2.1 _)).2 ex5, fun j h1 h2 => ?_⟩
  intro h
  exact ex4 ⟨j, h2⟩ h1 ((one_iff hM (rep_low ex1.2.2.2.2.1 _)).1 h)

theorem order012 : RRound 3 7 2 ⟨#[0, 1, 2]⟩ 0 := by
  have hM := Mo_ords good372.la good372.lb good372.lc
  refine .inl ⟨rfl, fun j h1 h2 => ?_⟩
  have h7 : mostS 3 7 2 = 7 := by decide
  rw [h7] at h2
  intro h
  exact ex3 ⟨j, by omega⟩ h1 ((one_iff hM (rep_low ex1.2.2.2.2.2.1 _)).1 h)

theorem round_unique {a b c : Nat} {s : ByteArray} {n m : Int} (h : RRound a b c s n) (h' : RRound a b c s m) : n = m := by
  rcases h with ⟨rfl, h⟩ | ⟨k, rfl, k1, k2, k3, k4⟩ <;> rcases h' with ⟨rfl, h'⟩ | ⟨j, rfl, j1, j2, j3, j4⟩
  · rfl
  · exact absurd j3 (h j j1 j2)
  · exact absurd k3 (h' k k1 k2)
  · rcases Nat.lt_trichotomy k j with h | h | h
    · exact absurd k3 (j4 k k1 h)
    · rw [h]
    · exact absurd j3 (k4 j j1 h)

set_option maxRecDepth 100000 in
set_option maxHeartbeats 1000000 in
theorem Times_ok (a b c : Nat) (u v : ByteArray) (hg : Good a b c) (hu : checkS u = 0) (hv : checkS v = 0) (w : World) :
    Calls Tryz.prog 121 #[.agg #[.int .i64 a, .int .i64 b, .int .i64 c], .string u, .string v] w fun e w' => e = .returned (.tuple #[.string (str (nfW a b c [u, v])), .int .i64 0]) ∧ Below w.heap.size w w' := by
  have hmf := makeFunc_run
  have hat := fun W => attempt_string_ret 175 #[.pointer (some ⟨w.heap.size, 0, none⟩), .pointer (some ⟨w.heap.size + 1, 0, none⟩), .pointer (some ⟨w.heap.size + 2, 0, none⟩)] (.string (str (nfW a b c [u, v]))) W (enters_of Tryz.func175 (by kernel_rfl) rfl)
  have hcl : ∀ W, Below (w.heap.size + 3) (((w.alloc (.cells #[.int .i64 a, .int .i64 b, .int .i64 c] 23)).alloc (.cells #[.string u] 9)).alloc (.cells #[.string v] 9)) W → Calls Tryz.prog 175 #[.pointer (some ⟨w.heap.size, 0, none⟩), .pointer (some ⟨w.heap.size + 1, 0, none⟩), .pointer (some ⟨w.heap.size + 2, 0, none⟩)] W fun e w' => e = .returned (.string (str (nfW a b c [u, v]))) ∧ Below W.heap.size W w' := fun W hW =>
    times1_ret a b c _ _ _ u v hg hu hv W ((((SBlk.new w 23 [.int .i64 a, .int .i64 b, .int .i64 c]).alloc _).alloc _).below hW (by omega)) (((SBlk.new' _ 9 [.string u] _ (World.size_alloc _ _)).alloc _).below hW (by omega)) ((SBlk.new' _ 9 [.string v] (w.heap.size + 2) (by simp)).below hW (by omega))
  have HA := Lib.hid (And.intro hat hcl)
  clear hat hcl hg hu hv
  go_enter Tryz.func121, Tryz.ntmps121
  go_wp2_with (go_at_call 140; refine (HA.out.1 _ (fun W hW => HA.out.2 W (hW.mono (by simp)))).mono ?_; rintro e w' ⟨rfl, hb⟩; have HB := Lib.hid (below_a1 (below_a2 hb)); clear hb)
  go_ret2
  exact ⟨rfl, HB.out⟩

set_option maxRecDepth 100000 in
set_option maxHeartbeats 1000000 in
theorem Normal_bad (a b c : Nat) (s : ByteArray) (hg : Good a b c) (hs : s.size ≤ 140737488355328) (he : checkS s ≠ 0) (w : World) :
    Calls Tryz.prog 88 #[.agg #[.int .i64 a, .int .i64 b, .int .i64 c], .string s] w fun e w' => e = .returned (.tuple #[.string ⟨#[]⟩, .int .i64 (checkS s)]) ∧ Below w.heap.size w w' := by
  have hmf := makeFunc_run
  have hat := fun W => attempt_string_thrown 141 #[.pointer (some ⟨w.heap.size, 0, none⟩), .pointer (some ⟨w.heap.size + 1, 0, none⟩)] (checkS s) W (enters_of Tryz.func141 (by kernel_rfl) rfl)
  have hcl : ∀ W, Below (w.heap.size + 2) ((w.alloc (.cells #[.int .i64 a, .int .i64 b, .int .i64 c] 23)).alloc (.cells #[.string s] 9)) W → Calls Tryz.prog 141 #[.pointer (some ⟨w.heap.size, 0, none⟩), .pointer (some ⟨w.heap.size + 1, 0, none⟩)] W fun e w' => e = .panicked (thrown (checkS s)) ∧ Below W.heap.size W w' := fun W hW =>
    normal1_thrown a b c _ _ s hg hs he W (((SBlk.new w 23 [.int .i64 a, .int .i64 b, .int .i64 c]).alloc _).below hW (by omega)) ((SBlk.new' _ 9 [.string s] _ (World.size_alloc _ _)).below hW (by omega))
  have HA := Lib.hid (And.intro hat hcl)
  generalize checkS s = k at *
  clear hat hcl hg he
  go_enter Tryz.func88, Tryz.ntmps88
  go_wp2_with (go_at_call 140; refine (HA.out.1 _ (fun W hW => HA.out.2 W (hW.mono (by simp)))).mono ?_; rintro e w' ⟨rfl, hb⟩; have HB := Lib.hid (below_a2 hb); clear hb)
  go_ret2
  exact ⟨rfl, HB.out⟩
end Go.Proofs.YtcpeeopdaakbaaaGreat

namespace Go.Proofs.YtcpeeopdaakbaaaGreat
open Go.RowKit Go.Shelf Cx

theorem nfS {ws : List ByteArray} {l : List Nat} (h : ∀ s ∈ ws, checkS s = 0) (hl : nfL (Mo 3 7 2) (cat ws) = l) : str (nfW 3 7 2 ws) = str l := by
  rw [nfW_eq good372 h, hl]

theorem sane1 (W : World) : Calls Tryz.prog 88 #[.agg #[.int .i64 3, .int .i64 7, .int .i64 2], .string ⟨#[1, 0, 1]⟩] W fun e w' => e = .returned (.tuple #[.string ⟨#[0, 1, 0]⟩, .int .i64 0]) ∧ Below W.heap.size W w' :=
  (Normal_ok 3 7 2 ⟨#[1, 0, 1]⟩ good372 ex1.1 W).mono (by rintro e w' ⟨rfl, h⟩; exact ⟨by rw [nfS (one_ok ex1.1) ex2.1]; rfl, h⟩)
theorem sane2 (W : World) : Calls Tryz.prog 88 #[.agg #[.int .i64 3, .int .i64 7, .int .i64 2], .string ⟨#[2, 0]⟩] W fun e w' => e = .returned (.tuple #[.string ⟨#[0, 2]⟩, .int .i64 0]) ∧ Below W.heap.size W w' :=
  (Normal_ok 3 7 2 ⟨#[2, 0]⟩ good372 ex1.2.1 W).mono (by rintro e w' ⟨rfl, h⟩; exact ⟨by rw [nfS (one_ok ex1.2.1) ex2.2.1]; rfl, h⟩)
theorem sane4 (W : World) : Calls Tryz.prog 121 #[.agg #[.int .i64 3, .int .i64 7, .int .i64 2], .string ⟨#[0, 1]⟩, .string ⟨#[0, 1]⟩] W fun e w' => e = .returned (.tuple #[.string ⟨#[1, 0]⟩, .int .i64 0]) ∧ Below W.heap.size W w' :=
  (Times_ok 3 7 2 ⟨#[0, 1]⟩ ⟨#[0, 1]⟩ good372 ex1.2.2.2.1 ex1.2.2.2.1 W).mono (by rintro e w' ⟨rfl, h⟩; exact ⟨by rw [nfS (two_ok ex1.2.2.2.1 ex1.2.2.2.1) ex2.2.2.2]; rfl, h⟩)
theorem sane7 (W : World) : Calls Tryz.prog 88 #[.agg #[.int .i64 3, .int .i64 7, .int .i64 2], .string ⟨#[3]⟩] W fun e w' => e = .returned (.tuple #[.string ⟨#[]⟩, .int .i64 1]) ∧ Below W.heap.size W w' :=
  (Normal_bad 3 7 2 ⟨#[3]⟩ good372 (by decide) (by rw [ex1.2.2.2.2.2.2]; decide) W).mono (by rintro e w' ⟨rfl, h⟩; exact ⟨by rw [ex1.2.2.2.2.2.2], h⟩)

/-- three cells are kept -/
theorem kept3 {w w' : World} {b : Nat} {x y z : Value} (h : SBlk w b 23 [x, y, z]) (hb : Below w.heap.size w w') : SBlk w' b 23 [x, y, z] ∧ w'.cell? ⟨b, 0, none⟩ = some x ∧ w'.cell? ⟨b, 1, none⟩ = some y ∧ w'.cell? ⟨b, 2, none⟩ = some z :=
  ⟨h.below hb h.lt, (h.below hb h.lt).cell 0, (h.below hb h.lt).cell 1, (h.below hb h.lt).cell 2⟩

end Go.Proofs.YtcpeeopdaakbaaaGreat
