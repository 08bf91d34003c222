/- WordsMakes. -/
import Derived.Test.YtogchohpnbeldaaXg
namespace Go.Proofs.Ytogchohpnbeldaa
open Go.RowKit Go.Shelf Cx

/-- both answer alike -/
structure MakesF (a b c : Int) (u v : ByteArray) (N T I : ByteArray) (r : Bool) (n k1 k2 : Int) : Prop where
  r0 : ∀ W, Calls Try.prog 11 #[.agg #[.int .i64 a, .int .i64 b, .int .i64 c], .string u] W fun e w' => e = .returned (.tuple #[.string N, .int .i64 k1]) ∧ Below W.heap.size W w'
  p0 : ∀ W, Calls Try.prog 12 #[.agg #[.int .i64 a, .int .i64 b, .int .i64 c], .string u] W fun e w' => e = .returned (.tuple #[.string N, .int .i64 k1]) ∧ Below W.heap.size W w'
  r1 : ∀ W, Calls Try.prog 13 #[.agg #[.int .i64 a, .int .i64 b, .int .i64 c], .string u, .string v] W fun e w' => e = .returned (.tuple #[.bool r, .int .i64 k2]) ∧ Below W.heap.size W w'
  p1 : ∀ W, Calls Try.prog 14 #[.agg #[.int .i64 a, .int .i64 b, .int .i64 c], .string u, .string v] W fun e w' => e = .returned (.tuple #[.bool r, .int .i64 k2]) ∧ Below W.heap.size W w'
  r2 : ∀ W, Calls Try.prog 15 #[.agg #[.int .i64 a, .int .i64 b, .int .i64 c], .string u, .string v] W fun e w' => e = .returned (.tuple #[.string T, .int .i64 k2]) ∧ Below W.heap.size W w'
  p2 : ∀ W, Calls Try.prog 16 #[.agg #[.int .i64 a, .int .i64 b, .int .i64 c], .string u, .string v] W fun e w' => e = .returned (.tuple #[.string T, .int .i64 k2]) ∧ Below W.heap.size W w'
  r3 : ∀ W, Calls Try.prog 17 #[.agg #[.int .i64 a, .int .i64 b, .int .i64 c], .string u] W fun e w' => e = .returned (.tuple #[.string I, .int .i64 k1]) ∧ Below W.heap.size W w'
  p3 : ∀ W, Calls Try.prog 18 #[.agg #[.int .i64 a, .int .i64 b, .int .i64 c], .string u] W fun e w' => e = .returned (.tuple #[.string I, .int .i64 k1]) ∧ Below W.heap.size W w'
  r4 : ∀ W, Calls Try.prog 19 #[.agg #[.int .i64 a, .int .i64 b, .int .i64 c], .string u] W fun e w' => e = .returned (.tuple #[.int .i64 n, .int .i64 k1]) ∧ Below W.heap.size W w'
  p4 : ∀ W, Calls Try.prog 20 #[.agg #[.int .i64 a, .int .i64 b, .int .i64 c], .string u] W fun e w' => e = .returned (.tuple #[.int .i64 n, .int .i64 k1]) ∧ Below W.heap.size W w'

theorem makes_facts (a b c : Int) (u v : ByteArray) (hu : u.size ≤ 200) (hv : v.size ≤ 200) : ∃ N T I r n k1 k2, MakesF a b c u v N T I r n k1 k2 := by
  have one : ∀ s ∈ [u], s.size ≤ 140737488355328 := fun s h => by simp at h; subst h; omega
  have two : ∀ s ∈ [u, v], s.size ≤ 140737488355328 := fun s h => by simp at h; rcases h with rfl | rfl <;> omega
  have A : ∃ N I n k1, (∀ W, Calls Try.prog 11 #[.agg #[.int .i64 a, .int .i64 b, .int .i64 c], .string u] W fun e w' => e = .returned (.tuple #[.string N, .int .i64 k1]) ∧ Below W.heap.size W w') ∧ (∀ W, Calls Try.prog 12 #[.agg #[.int .i64 a, .int .i64 b, .int .i64 c], .string u] W fun e w' => e = .returned (.tuple #[.string N, .int .i64 k1]) ∧ Below W.heap.size W w') ∧
      (∀ W, Calls Try.prog 17 #[.agg #[.int .i64 a, .int .i64 b, .int .i64 c], .string u] W fun e w' => e = .returned (.tuple #[.string I, .int .i64 k1]) ∧ Below W.heap.size W w') ∧ (∀ W, Calls Try.prog 18 #[.agg #[.int .i64 a, .int .i64 b, .int .i64 c], .string u] W fun e w' => e = .returned (.tuple #[.string I, .int .i64 k1]) ∧ Below W.heap.size W w') ∧
      (∀ W, Calls Try.prog 19 #[.agg #[.int .i64 a, .int .i64 b, .int .i64 c], .string u] W fun e w' => e = .returned (.tuple #[.int .i64 n, .int .i64 k1]) ∧ Below W.heap.size W w') ∧ (∀ W, Calls Try.prog 20 #[.agg #[.int .i64 a, .int .i64 b, .int .i64 c], .string u] W fun e w' => e = .returned (.tuple #[.int .i64 n, .int .i64 k1]) ∧ Below W.heap.size W w') := by
    by_cases he : errorsS a b c [u] = 0
    · obtain ⟨h1, h2⟩ := errorsS_zero he
      obtain ⟨hg, ea, eb, ec⟩ := allowed_good h1
      have cu := h2 u (by simp)
      generalize a.toNat = a' at *
      generalize b.toNat = b' at *
      generalize c.toNat = c' at *
      subst ea eb ec
      obtain ⟨n, hn⟩ := round_exists a' b' c' u
      exact ⟨_, _, n, 0, fun W => R3Normal_ok a' b' c' u hg cu W, fun W => Normal_ok a' b' c' u hg cu W, fun W => R3Inverse_ok a' b' c' u hg cu W, fun W => Inverse_ok a' b' c' u hg cu W, fun W => R3Order_ok a' b' c' u n hg cu (round_rr hg cu hn) W, fun W => Order_ok a' b' c' u n hg cu hn W⟩
    · exact ⟨_, _, _, _, fun W => R3Normal_err a b c u one he W, fun W => Normal_err a b c u one he W, fun W => R3Inverse_err a b c u one he W, fun W => Inverse_err a b c u one he W, fun W => R3Order_err a b c u one he W, fun W => Order_err a b c u one he W⟩
  have B : ∃ T r k2, (∀ W, Calls Try.prog 13 #[.agg #[.int .i64 a, .int .i64 b, .int .i64 c], .string u, .string v] W fun e w' => e = .returned (.tuple #[.bool r, .int .i64 k2]) ∧ Below W.heap.size W w') ∧ (∀ W, Calls Try.prog 14 #[.agg #[.int .i64 a, .int .i64 b, .int .i64 c], .string u, .string v] W fun e w' => e = .returned (.tuple #[.bool r, .int .i64 k2]) ∧ Below W.heap.size W w') ∧
      (∀ W, Calls Try.prog 15 #[.agg #[.int .i64 a, .int .i64 b, .int .i64 c], .string u, .string v] W fun e w' => e = .returned (.tuple #[.string T, .int .i64 k2]) ∧ Below W.heap.size W w') ∧ (∀ W, Calls Try.prog 16 #[.agg #[.int .i64 a, .int .i64 b, .int .i64 c], .string u, .string v] W fun e w' => e = .returned (.tuple #[.string T, .int .i64 k2]) ∧ Below W.heap.size W w') := by
    by_cases he : errorsS a b c [u, v] = 0
    · obtain ⟨h1, h2⟩ := errorsS_zero he
      obtain ⟨hg, ea, eb, ec⟩ := allowed_good h1
      have cu := h2 u (by simp)
      have cv := h2 v (by simp)
      generalize a.toNat = a' at *
      generalize b.toNat = b' at *
      generalize c.toNat = c' at *
      subst ea eb ec
      exact ⟨_, _, 0, fun W => R3Same_ok a' b' c' u v hg cu cv W, fun W => Same_ok a' b' c' u v hg cu cv W, fun W => R3Times_ok a' b' c' u v hg cu cv W, fun W => Times_ok a' b' c' u v hg cu cv W⟩
    · exact ⟨_, _, _, fun W => R3Same_err a b c u v two he W, fun W => Same_err a b c u v two he W, fun W => R3Times_err a b c u v two he W, fun W => Times_err a b c u v two he W⟩
  obtain ⟨N, I, n, k1, a1, a2, a3, a4, a5, a6⟩ := A
  obtain ⟨T, r, k2, b1, b2, b3, b4⟩ := B
  exact ⟨N, T, I, r, n, k1, k2, ⟨a1, a2, b1, b2, b3, b4, a3, a4, a5, a6⟩⟩

set_option maxRecDepth 100000 in
set_option maxHeartbeats 8000000 in
theorem WordsMakes_any (a b c : Int) (u v : ByteArray) (w : World) (hu : u.size ≤ 9223372036854775807) (hv : v.size ≤ 9223372036854775807) :
    Calls Try.prog 3 #[.agg #[.int .i64 a, .int .i64 b, .int .i64 c], .string u, .string v] w fun e w' => e = .returned (.bool true) ∧ Below w.heap.size w w' := by
  have HS := Lib.hid sane_any
  go_enter Try.func3, Try.ntmps3
  go_wp2_with fail
  have HZ := Lib.hid ((Below.refl w.heap.size w).alloc (Nat.le_refl _) (.cells #[.int .i64 a, .int .i64 b, .int .i64 c] 23))
  have HK := Lib.hid (SBlk.new w 23 [.int .i64 a, .int .i64 b, .int .i64 c])
  refine (HS.out _).mono ?_
  rintro e W1 ⟨rfl, hb⟩
  have hk := kept3 HK.out hb
  replace HK := Lib.hid hk.1
  have x0 := hk.2.1
  have x1 := hk.2.2.1
  have x2 := hk.2.2.2
  clear hk
  replace HZ := Lib.hid (HZ.out.trans (hb.mono HZ.out.size))
  clear hb
  by_cases lu : 200 < u.size
  · have lu' : (200 : Int) < (u.size : Int) := by omega
    go_wp2_with fail
    go_ret
    exact ⟨rfl, HZ.out⟩
  have lu' : decide ((200 : Int) < (u.size : Int)) = false := decide_eq_false (by omega)
  by_cases lv : 200 < v.size
  · have lv' : (200 : Int) < (v.size : Int) := by omega
    go_wp2_with fail
    go_ret
    exact ⟨rfl, HZ.out⟩
  have lv' : decide ((200 : Int) < (v.size : Int)) = false := decide_eq_false (by omega)
  obtain ⟨N, T, I, r, n, k1, k2, hF⟩ := makes_facts a b c u v (by omega) (by omega)
  have HF := Lib.hid hF
  clear hF
  go_wp2_with fail
  refine (HF.out.r0 _).mono ?_
  rintro e Yr0 ⟨rfl, hb⟩
  have hk := kept3 HK.out hb
  replace HK := Lib.hid hk.1
  replace x0 := hk.2.1
  replace x1 := hk.2.2.1
  replace x2 := hk.2.2.2
  clear hk
  replace HZ := Lib.hid (HZ.out.trans (hb.mono HZ.out.size))
  clear hb
  go_wp2_with fail
  refine (HF.out.p0 _).mono ?_
  rintro e Yp0 ⟨rfl, hb⟩
  have hk := kept3 HK.out hb
  replace HK := Lib.hid hk.1
  replace x0 := hk.2.1
  replace x1 := hk.2.2.1
  replace x2 := hk.2.2.2
  clear hk
  replace HZ := Lib.hid (HZ.out.trans (hb.mono HZ.out.size))
  clear hb
  go_wp2_with fail
  refine (HF.out.r1 _).mono ?_
  rintro e Yr1 ⟨rfl, hb⟩
  have hk := kept3 HK.out hb
  replace HK := Lib.hid hk.1
  replace x0 := hk.2.1
  replace x1 := hk.2.2.1
  replace x2 := hk.2.2.2
  clear hk
  replace HZ := Lib.hid (HZ.out.trans (hb.mono HZ.out.size))
  clear hb
  go_wp2_with fail
  refine (HF.out.p1 _).mono ?_
  rintro e Yp1 ⟨rfl, hb⟩
  have hk := kept3 HK.out hb
  replace HK := Lib.hid hk.1
  replace x0 := hk.2.1
  replace x1 := hk.2.2.1
  replace x2 := hk.2.2.2
  clear hk
  replace HZ := Lib.hid (HZ.out.trans (hb.mono HZ.out.size))
  clear hb
  go_wp2_with fail
  refine (HF.out.r2 _).mono ?_
  rintro e Yr2 ⟨rfl, hb⟩
  have hk := kept3 HK.out hb
  replace HK := Lib.hid hk.1
  replace x0 := hk.2.1
  replace x1 := hk.2.2.1
  replace x2 := hk.2.2.2
  clear hk
  replace HZ := Lib.hid (HZ.out.trans (hb.mono HZ.out.size))
  clear hb
  go_wp2_with fail
  refine (HF.out.p2 _).mono ?_
  rintro e Yp2 ⟨rfl, hb⟩
  have hk := kept3 HK.out hb
  replace HK := Lib.hid hk.1
  replace x0 := hk.2.1
  replace x1 := hk.2.2.1
  replace x2 := hk.2.2.2
  clear hk
  replace HZ := Lib.hid (HZ.out.trans (hb.mono HZ.out.size))
  clear hb
  go_wp2_with fail
  refine (HF.out.r3 _).mono ?_
  rintro e Yr3 ⟨rfl, hb⟩
  have hk := kept3 HK.out hb
  replace HK := Lib.hid hk.1
  replace x0 := hk.2.1
  replace x1 := hk.2.2.1
  replace x2 := hk.2.2.2
  clear hk
  replace HZ := Lib.hid (HZ.out.trans (hb.mono HZ.out.size))
  clear hb
  go_wp2_with fail
  refine (HF.out.p3 _).mono ?_
  rintro e Yp3 ⟨rfl, hb⟩
  have hk := kept3 HK.out hb
  replace HK := Lib.hid hk.1
  replace x0 := hk.2.1
  replace x1 := hk.2.2.1
  replace x2 := hk.2.2.2
  clear hk
  replace HZ := Lib.hid (HZ.out.trans (hb.mono HZ.out.size))
  clear hb
  go_wp2_with fail
  refine (HF.out.r4 _).mono ?_
  rintro e Yr4 ⟨rfl, hb⟩
  have hk := kept3 HK.out hb
  replace HK := Lib.hid hk.1
  replace x0 := hk.2.1
  replace x1 := hk.2.2.1
  replace x2 := hk.2.2.2
  clear hk
  replace HZ := Lib.hid (HZ.out.trans (hb.mono HZ.out.size))
  clear hb
  go_wp2_with fail
  refine (HF.out.p4 _).mono ?_
  rintro e Yp4 ⟨rfl, hb⟩
  have hk := kept3 HK.out hb
  replace HK := Lib.hid hk.1
  replace x0 := hk.2.1
  replace x1 := hk.2.2.1
  replace x2 := hk.2.2.2
  clear hk
  replace HZ := Lib.hid (HZ.out.trans (hb.mono HZ.out.size))
  clear hb
  go_wp2_with fail
  go_ret
  exact ⟨rfl, HZ.out⟩
end Go.Proofs.Ytogchohpnbeldaa
