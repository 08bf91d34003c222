/- Stepped. -/
import Derived.Test.YtbioehaapcnjmaaZd
namespace Go.Proofs.Ytbioehaapcnjmaa
open Go.RowKit Go.Shelf Cx

theorem kept12 {w w' : World} {b : Nat} {x y z : Value} (h : SBlk w b 38 [x, y, z]) (hb : Below w.heap.size w w') : w'.cell? ⟨b, 0, none⟩ = some x ∧ w'.cell? ⟨b, 1, none⟩ = some y ∧ w'.cell? ⟨b, 2, none⟩ = some z :=
  ⟨(h.below hb h.lt).cell 0, (h.below hb h.lt).cell 1, (h.below hb h.lt).cell 2⟩

theorem idx_run (s : ByteArray) {k : Nat} (h : k < s.size) (i : Int) (hi : i = (k : Int)) (W : World) : (Instr.index 9 (.string s) (.int .i64 i)).run Try.prog W = .ok (.int .u8 ((s[k].toNat : Nat) : Int)) W := by
  subst hi
  rw [run_index_string _ _ _ _ _ Try.underlying9, dif_pos ⟨by omega, by omega⟩]
  simp

theorem from_run (s : ByteArray) {k : Nat} (h : k ≤ s.size) (i : Int) (hi : i = (k : Int)) (W : World) : (Instr.slice 9 (.string s) (some (.int .i64 i)) none none).run Try.prog W = .ok (.string (s.extract k s.size)) W := by
  subst hi
  rw [run_slice_string_l _ _ _ Try.underlying9 _ _ (by omega) (by omega)]
  simp

/-- what Stepped does -/
def RStep (a b c : Nat) (s : ByteArray) (w : World) (e : Ending) (w' : World) : Prop :=
  (∃ v, e = .returned (.string v) ∧ StepTo a b c s v) ∧ Below w.heap.size w w'

set_option maxRecDepth 100000 in
set_option maxHeartbeats 2000000 in
theorem Stepped_none (a b c : Nat) (s : ByteArray) (hs : ∀ y ∈ bytesN s, y < 3) (K At M : Int) (hout : At < 0 ∨ (s.size : Int) < At ∨ M < 0 ∨ 2 < M) (w : World) :
    Calls Try.prog 22 #[.agg #[.int .i64 a, .int .i64 b, .int .i64 c], .string s, .agg #[.int .i64 K, .int .i64 At, .int .i64 M]] w (RStep a b c s w) := by
  have HB := Lib.hid (And.intro (((Below.refl w.heap.size w).alloc (Nat.le_refl _) (.cells #[.int .i64 a, .int .i64 b, .int .i64 c] 23)).alloc (by simp) (.cells #[.int .i64 K, .int .i64 At, .int .i64 M] 38)) (StepTo.refl (a := a) (b := b) (c := c) hs))
  clear hs
  have hc : (At < 0) ∨ (¬ At < 0 ∧ (s.size : Int) < At) ∨ (¬ At < 0 ∧ ¬ (s.size : Int) < At ∧ M < 0) ∨ (¬ At < 0 ∧ ¬ (s.size : Int) < At ∧ ¬ M < 0 ∧ 2 < M) := by omega
  clear hout
  rcases hc with h | ⟨h0, h⟩ | ⟨h0, h1, h⟩ | ⟨h0, h1, h2, h⟩
  all_goals
    go_enter Try.func22, Try.ntmps22
    go_wp2_with fail
    go_ret
    exact ⟨⟨s, rfl, HB.out.2⟩, HB.out.1⟩

set_option maxRecDepth 100000 in
set_option maxHeartbeats 2000000 in
theorem Stepped_0 (a b c : Nat) (s : ByteArray) (hs : ∀ y ∈ bytesN s, y < 3) (hl : s.size ≤ 60) (n m : Nat) (hn : n ≤ s.size) (hm : m < 3) (w : World) :
    Calls Try.prog 22 #[.agg #[.int .i64 a, .int .i64 b, .int .i64 c], .string s, .agg #[.int .i64 0, .int .i64 n, .int .i64 m]] w (RStep a b c s w) := by
  have HB := Lib.hid (And.intro (((Below.refl w.heap.size w).alloc (Nat.le_refl _) (.cells #[.int .i64 a, .int .i64 b, .int .i64 c] 23)).alloc (by simp) (.cells #[.int .i64 0, .int .i64 n, .int .i64 m] 38)) (step_two (a := a) (b := b) (c := c) (n := n) hs hm))
  have HT := Lib.hid (SBlk.new' (w.alloc (.cells #[.int .i64 a, .int .i64 b, .int .i64 c] 23)) 38 [.int .i64 0, .int .i64 n, .int .i64 m] (w.heap.size + 1) (World.size_alloc _ _))
  have HL := Lib.hid (fun W => letter_any m hm W)
  have hsz : (str [m]).size = 1 := by rw [str_size]; rfl
  have d1 : ¬ s.size < n := by omega
  have d2 : ¬ 2 < m := by omega
  have e1 : (s.extract 0 n).size = n := by rw [ByteArray.size_extract]; omega
  have e2 : (s.extract n s.size).size = s.size - n := by rw [ByteArray.size_extract]; omega
  clear hs hm
  generalize str [m] = t at *
  have ad1 := fun W => run_string_add_sum (P := Try.prog) (w := W) (s.extract 0 n) t (by omega)
  have ad2 := fun W => run_string_add_sum (P := Try.prog) (w := W) (s.extract 0 n ++ t) t (by rw [ByteArray.size_append]; omega)
  have ad3 := fun W => run_string_add_sum (P := Try.prog) (w := W) (s.extract 0 n ++ t ++ t) (s.extract n s.size) (by rw [ByteArray.size_append, ByteArray.size_append]; omega)
  clear e1 e2 hsz
  go_enter Try.func22, Try.ntmps22
  go_wp2_with fail
  go_region_held3 (fun w' => w'.cell? ⟨w.heap.size + 1, 1, none⟩ = some (.int .i64 n) ∧ w'.cell? ⟨w.heap.size + 1, 2, none⟩ = some (.int .i64 m))
    (first | (with_reducible assumption) | exact kp | (go_keep; done))
    (first
      | (go_at_call 49; (with_reducible refine (HL.out ((w.alloc (.cells #[.int .i64 a, .int .i64 b, .int .i64 c] 23)).alloc (.cells #[.int .i64 0, .int .i64 n, .int .i64 m] 38)).drew).mono ?_); rintro e W1 ⟨rfl, hb⟩; replace hb := below_undrew hb; have HW1 := Lib.hid (And.intro (HT.out.below hb HT.out.lt) (HB.out.1.trans (hb.mono HB.out.1.size))); have kp := (kept12 HT.out hb).2; clear hb)
      | (go_at_call 49; (with_reducible refine (HL.out W1).mono ?_); rintro e W2 ⟨rfl, hb⟩; have HW2 := Lib.hid (HW1.out.2.trans (hb.mono HW1.out.2.size)); have kp := (kept12 HW1.out.1 hb).2; clear hb))
  all_goals
    go_wp2_with fail
    go_ret
    exact ⟨⟨_, rfl, HB.out.2⟩, HW2.out⟩

set_option maxRecDepth 100000 in
set_option maxHeartbeats 2000000 in
theorem Stepped_1 (a b c : Nat) (s : ByteArray) (hs : ∀ y ∈ bytesN s, y < 3) (hl : s.size ≤ 60) (n m : Nat) (hn : n ≤ s.size) (hm : m < 3) (w : World) :
    Calls Try.prog 22 #[.agg #[.int .i64 a, .int .i64 b, .int .i64 c], .string s, .agg #[.int .i64 1, .int .i64 n, .int .i64 m]] w (RStep a b c s w) := by
  have HB := Lib.hid (((Below.refl w.heap.size w).alloc (Nat.le_refl _) (.cells #[.int .i64 a, .int .i64 b, .int .i64 c] 23)).alloc (by simp) (.cells #[.int .i64 1, .int .i64 n, .int .i64 m] 38))
  have d1 : ¬ s.size < n := by omega
  have d2 : ¬ 2 < m := by omega
  have p := (SBlk.new' (w.alloc (.cells #[.int .i64 a, .int .i64 b, .int .i64 c] 23)) 38 [.int .i64 1, .int .i64 n, .int .i64 m] (w.heap.size + 1) (World.size_alloc _ _)).cell
  have p0 := p 0
  have p1 := p 1
  have p2 := p 2
  simp only [List.getElem?_cons_zero, List.getElem?_cons_succ] at p0 p1 p2
  clear p
  have hlow := Lib.hid (StepTo.refl (a := a) (b := b) (c := c) hs)
  have hw1 : IntKind.i64.wrap ((n : Int) + 1) = (n : Int) + 1 := IntWalk.i64_in _ (by omega)
  have hw2 : IntKind.i64.wrap ((n : Int) + 2) = (n : Int) + 2 := IntWalk.i64_in _ (by omega)
  by_cases hlt : n + 1 < s.size
  · have g1 : (n : Int) + 1 < (s.size : Int) := by omega
    have g2 : n < s.size := by omega
    by_cases heq : s[n] = s[n + 1]
    · have i1 := idx_run s hlt ((n : Int) + 1) (by omega)
      have f1 := from_run s (k := n + 2) (by omega) ((n : Int) + 2) (by omega)
      have ad := fun W => run_string_add_sum (P := Try.prog) (w := W) (s.extract 0 n) (s.extract (n + 2) s.size) (by rw [ByteArray.size_extract, ByteArray.size_extract]; omega)
      have hcut := Lib.hid (step_cut (a := a) (b := b) (c := c) hs hlt heq)
      clear hs
      go_enter Try.func22, Try.ntmps22
      go_wp2_with fail
      go_quiet (fail)
      go_wp2_with fail
      go_quiet (fail)
      go_wp2_with fail
      go_ret
      exact ⟨⟨_, rfl, hcut.out⟩, below_dN (below_dN HB.out _) _⟩
    · have i1 := idx_run s hlt ((n : Int) + 1) (by omega)
      have i0 := idx_run s g2 (n : Int) rfl
      have hne : ¬ s[n].toNat = s[n + 1].toNat := fun h => heq (UInt8.toNat_inj.1 h)
      clear hs heq
      generalize s[n].toNat = y0 at *
      generalize s[n + 1].toNat = y1 at *
      have hne2 : ((y0 : Int) == (y1 : Int)) = false := by simp; omega
      go_enter Try.func22, Try.ntmps22
      go_wp2_with fail
      go_quiet (fail)
      go_wp2_with fail
      go_ret
      exact ⟨⟨_, rfl, hlow.out⟩, below_dN HB.out _⟩
  · have g1 : decide ((n : Int) + 1 < (s.size : Int)) = false := by simp; omega
    clear hs
    go_enter Try.func22, Try.ntmps22
    go_wp2_with fail
    go_quiet (fail)
    go_wp2_with fail
    go_ret
    exact ⟨⟨_, rfl, hlow.out⟩, below_dN HB.out _⟩

set_option maxRecDepth 100000 in
set_option maxHeartbeats 2000000 in
theorem Stepped_3 (a b c : Nat) (s : ByteArray) (hs : ∀ y ∈ bytesN s, y < 3) (K : Int) (k0 : ¬ K = 0) (k1 : ¬ K = 1) (k2 : ¬ K = 2) (n m : Nat) (hn : n ≤ s.size) (hm : m < 3) (w : World) :
    Calls Try.prog 22 #[.agg #[.int .i64 a, .int .i64 b, .int .i64 c], .string s, .agg #[.int .i64 K, .int .i64 n, .int .i64 m]] w (RStep a b c s w) := by
  have HB := Lib.hid (((Below.refl w.heap.size w).alloc (Nat.le_refl _) (.cells #[.int .i64 a, .int .i64 b, .int .i64 c] 23)).alloc (by simp) (.cells #[.int .i64 K, .int .i64 n, .int .i64 m] 38))
  have d1 : ¬ s.size < n := by omega
  have d2 : ¬ 2 < m := by omega
  have hlow := Lib.hid (StepTo.refl (a := a) (b := b) (c := c) hs)
  clear hs
  go_enter Try.func22, Try.ntmps22
  go_wp2_with fail
  go_ret
  exact ⟨⟨_, rfl, hlow.out⟩, HB.out⟩
end Go.Proofs.Ytbioehaapcnjmaa
