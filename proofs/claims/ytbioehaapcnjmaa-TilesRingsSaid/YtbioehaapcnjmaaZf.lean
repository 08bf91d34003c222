/- Stepped: a row that is turned round. -/
import Derived.Test.YtbioehaapcnjmaaZe
namespace Go.Proofs.Ytbioehaapcnjmaa
open Go.RowKit Go.Shelf Cx

theorem below_undrewN {n k : Nat} {A B : World} (h : Below n (A.drewN k) B) : Below n A B := ⟨h.os, h.tape, h.output, h.size, h.block⟩

theorem Mo_between (a b c : Nat) {x m : Nat} (hx : x < 3) (hm : m < 3) (h : ¬ x = m) :
    (if wrap64 ((x : Int) + (m : Int)) = 1 then (a : Int) else if wrap64 ((x : Int) + (m : Int)) = 3 then (b : Int) else (c : Int)) = ((Mo a b c x m : Nat) : Int) := by
  have hx' : x = 0 ∨ x = 1 ∨ x = 2 := by omega
  have hm' : m = 0 ∨ m = 1 ∨ m = 2 := by omega
  rcases hx' with rfl | rfl | rfl <;> rcases hm' with rfl | rfl | rfl <;> first | (exfalso; exact h rfl) | rfl | (simp [wrap64, Mo])

theorem str_append (l k : List Nat) : str l ++ str k = str (l ++ k) := by
  apply ByteArray.ext
  simp [str, ByteArray.data_append]

set_option maxRecDepth 100000 in
set_option maxHeartbeats 4000000 in
theorem Stepped_2 (a b c : Nat) (hg : Good a b c) (s : ByteArray) (hs : ∀ y ∈ bytesN s, y < 3) (hl : s.size ≤ 60) (n m : Nat) (hn : n ≤ s.size) (hm : m < 3) (w : World) :
    Calls Try.prog 22 #[.agg #[.int .i64 a, .int .i64 b, .int .i64 c], .string s, .agg #[.int .i64 2, .int .i64 n, .int .i64 m]] w (RStep a b c s w) := by
  have HB := Lib.hid (((Below.refl w.heap.size w).alloc (Nat.le_refl _) (.cells #[.int .i64 a, .int .i64 b, .int .i64 c] 23)).alloc (by simp) (.cells #[.int .i64 2, .int .i64 n, .int .i64 m] 38))
  have HT := Lib.hid (SBlk.new' (w.alloc (.cells #[.int .i64 a, .int .i64 b, .int .i64 c] 23)) 38 [.int .i64 2, .int .i64 n, .int .i64 m] (w.heap.size + 1) (World.size_alloc _ _))
  have HO := Lib.hid ((SBlk.new w 23 [.int .i64 a, .int .i64 b, .int .i64 c]).alloc (.cells #[.int .i64 2, .int .i64 n, .int .i64 m] 38))
  have d1 : ¬ s.size < n := by omega
  have d2 : ¬ 2 < m := by omega
  have p0 := HT.out.cell 0
  have p1 := HT.out.cell 1
  have p2 := HT.out.cell 2
  simp only [List.getElem?_cons_zero, List.getElem?_cons_succ] at p0 p1 p2
  have hlow := Lib.hid (StepTo.refl (a := a) (b := b) (c := c) hs)
  rcases Nat.lt_or_ge n s.size with hlt | hge
  rotate_left
  · have g1 : s.size ≤ n := hge
    clear hs hg
    go_enter Try.func22, Try.ntmps22
    go_wp2_with fail
    go_quiet (fail)
    go_wp2_with fail
    go_ret
    exact ⟨⟨_, rfl, hlow.out⟩, below_dN HB.out _⟩
  · have i0 := idx_run s hlt (n : Int) rfl
    have hmem : (s[n]).toNat ∈ bytesN s := List.mem_of_getElem? (bytesN_get s hlt)
    have hx := hs _ hmem
    have hb0 := bytesN_get s hlt
    have g1 : ¬ s.size ≤ n := by omega
    clear hmem
    generalize s[n].toNat = x at *
    by_cases hxm : x = m
    · subst hxm
      clear hs hg
      go_enter Try.func22, Try.ntmps22
      go_wp2_with fail
      go_quiet (fail)
      go_wp2_with fail
      go_ret
      exact ⟨⟨_, rfl, hlow.out⟩, below_dN HB.out _⟩
    · have hBt := fun W => Between_any a b c x m W
      rw [Mo_between a b c hx hm hxm] at hBt
      have hturn := step_turn (a := a) (b := b) (c := c) (n := n) (x := x) (m := m) hs hx hm
      have hM12 : Mo a b c x m ≤ 12 := by
        rcases Mo_lim hg.la hg.lb hg.lc x m with h | h <;> omega
      generalize Mo a b c x m = M at *
      have HF := Lib.hid (And.intro hturn (And.intro hx (And.intro hm hb0)))
      have HBt := Lib.hid hBt
      have hxm2 : ((x : Int) == (m : Int)) = false := by simp; omega
      have hwx : IntKind.i64.wrap (x : Int) = (x : Int) := IntWalk.i64_in _ (by omega)
      have hwM : IntKind.i64.wrap ((n : Int) + (M : Int)) = (n : Int) + (M : Int) := IntWalk.i64_in _ (by omega)
      clear hs hg hturn hBt hb0
      go_enter Try.func22, Try.ntmps22
      go_wp2_with fail
      go_quiet (fail)
      go_wp2_with fail
      go_region_held3 (fun w' => (w'.cell? ⟨w.heap.size, 0, none⟩ = some (.int .i64 a) ∧ w'.cell? ⟨w.heap.size, 1, none⟩ = some (.int .i64 b) ∧ w'.cell? ⟨w.heap.size, 2, none⟩ = some (.int .i64 c)) ∧ w'.cell? ⟨w.heap.size + 1, 1, none⟩ = some (.int .i64 n) ∧ w'.cell? ⟨w.heap.size + 1, 2, none⟩ = some (.int .i64 m))
        (first | (with_reducible assumption) | exact kp | (go_keep; done))
        (first
          | (go_at_call 50; (with_reducible refine (HBt.out _).mono ?_); rintro e W1 ⟨rfl, hb⟩; replace hb := below_undrewN hb; have HW1 := Lib.hid (And.intro (HT.out.below hb HT.out.lt) (HB.out.trans (hb.mono HB.out.size))); have kp := And.intro (kept3 HO.out hb).2 (kept12 HT.out hb).2; clear hb))
      have q := kept12 HW1.out.1 (Below.refl _ _)
      obtain ⟨q0, q1, q2⟩ := q
      clear kp
      rcases Nat.eq_zero_or_pos M with h0 | h0
      · subst h0
        go_wp2_with fail
        go_ret
        exact ⟨⟨_, rfl, hlow.out⟩, HW1.out.2⟩
      · have hM0 : ¬ M = 0 := by omega
        have hM00 : ((M : Int) == 0) = false := by simp; omega
        by_cases hfar : s.size < n + M
        · have hf2 : (s.size : Int) < (n : Int) + (M : Int) := by omega
          go_wp2_with fail
          go_ret
          exact ⟨⟨_, rfl, hlow.out⟩, HW1.out.2⟩
        · have hf2 : decide ((s.size : Int) < (n : Int) + (M : Int)) = false := by simp; omega
          go_wp2_with fail
          go_loopw [8, 9] (fun row i wr => ∃ k : Nat, k ≤ M ∧ i = .int .i64 (k : Int) ∧ row = .string (str (alt m x k)) ∧ (∀ j, j < k → (bytesN s)[n + j]? = some (turn x m j)) ∧ SBlk wr (w.heap.size + 1) 38 [.int .i64 2, .int .i64 n, .int .i64 m] ∧ Below w.heap.size w wr) (fun _ i _ => M - (intOf i).toNat)
          case atStart => exact ⟨0, Nat.zero_le _, rfl, rfl, fun j hj => absurd hj (Nat.not_lt_zero j), HW1.out.1, HW1.out.2⟩
          case round =>
            obtain ⟨k, hk, rfl, rfl, hj, hblk, hbel⟩ := hrel
            have HR := Lib.hid (And.intro hj (And.intro hblk hbel))
            have r0 := hblk.cell 0
            have r1 := hblk.cell 1
            have r2 := hblk.cell 2
            simp only [List.getElem?_cons_zero, List.getElem?_cons_succ] at r0 r1 r2
            clear hj hblk hbel q0 q1 q2
            by_cases hkM : k < M
            · have hlk : n + k < s.size := by omega
              have hz := bytesN_get s hlk
              have ik := idx_run s hlk ((n : Int) + (k : Int)) (by omega)
              have hwk : IntKind.i64.wrap ((n : Int) + (k : Int)) = (n : Int) + (k : Int) := IntWalk.i64_in _ (by omega)
              have hz256 : (s[n + k]).toNat < 256 := UInt8.toNat_lt _
              generalize s[n + k].toNat = z at *
              have hwz : IntKind.i64.wrap (z : Int) = (z : Int) := IntWalk.i64_in _ (by omega)
              have HZ := Lib.hid hz
              clear hz
              have hlet : ∀ v : Nat, v < 3 → ∀ W, Calls Try.prog 49 #[.int .i64 (v : Int)] W fun e w' => e = .returned (.string (str [v])) ∧ Below W.heap.size W w' := fun v hv W => letter_any v hv W
              have HL := Lib.hid (And.intro (hlet x HF.out.2.1 wr) (hlet m HF.out.2.2.1 wr))
              clear hlet
              have ad := fun (v : Nat) W => run_string_add_sum (P := Try.prog) (w := W) (str (alt m x k)) (str [v]) (by rw [str_size, str_size, alt_length]; simp; omega)
              have ax := ad x
              have am := ad m
              clear ad
              have halt := alt_snoc k m x
              have hsx := str_append (alt m x k) [x]
              have hsm := str_append (alt m x k) [m]
              generalize str (alt m x k) = row at *
              generalize str [x] = tx at *
              generalize str [m] = tm at *
              by_cases hp : k % 2 = 1
              · have t1 : turn x m k = m := by unfold turn; rw [if_neg (by omega)]
                have t2 : turn m x k = x := by unfold turn; rw [if_neg (by omega)]
                have hp2 : (k : Int) % 2 = 1 := by omega
                have hp3 : Int.tmod (k : Int) 2 = 1 := by rw [Int.tmod_eq_emod_of_nonneg (by omega)]; exact hp2
                rw [t2] at halt
                have HH := Lib.hid (And.intro halt (And.intro hsx t1))
                clear halt hsx hsm t1 t2 am
                by_cases hzm : z = m
                · subst hzm
                  go_wp2_with fail
                  refine (HL.out.1).mono ?_
                  rintro e W2 ⟨rfl, hb⟩
                  have HW2 := Lib.hid (And.intro (HR.out.2.1.below hb HR.out.2.1.lt) (HR.out.2.2.trans (hb.mono HR.out.2.2.size)))
                  clear hb
                  go_wp2_with fail
                  go_roundw
                  case measure => simp [intOf]; omega
                  case rel =>
                    refine ⟨k + 1, by omega, by simp, by rw [HH.out.2.1, ← HH.out.1], fun j hj => ?_, HW2.out.1, HW2.out.2⟩
                    rcases Nat.lt_or_ge j k with h | h
                    · exact HR.out.1 j h
                    · obtain rfl : j = k := by omega
                      rw [HZ.out, HH.out.2.2]
                · have hz2 : ((z : Int) == (m : Int)) = false := by simp; omega
                  go_wp2_with fail
                  go_ret
                  exact ⟨⟨_, rfl, hlow.out⟩, HR.out.2.2⟩
              · have t1 : turn x m k = x := by unfold turn; rw [if_pos (by omega)]
                have t2 : turn m x k = m := by unfold turn; rw [if_pos (by omega)]
                have hp2 : ((k : Int) % 2 == 1) = false := by simp; omega
                have hp4 : (k : Int) % 2 = 0 := by omega
                have hp3 : Int.tmod (k : Int) 2 = 0 := by rw [Int.tmod_eq_emod_of_nonneg (by omega)]; exact hp4
                rw [t2] at halt
                have HH := Lib.hid (And.intro halt (And.intro hsm t1))
                clear halt hsx hsm t1 t2 ax
                by_cases hzm : z = x
                · subst hzm
                  go_wp2_with fail
                  refine (HL.out.2).mono ?_
                  rintro e W2 ⟨rfl, hb⟩
                  have HW2 := Lib.hid (And.intro (HR.out.2.1.below hb HR.out.2.1.lt) (HR.out.2.2.trans (hb.mono HR.out.2.2.size)))
                  clear hb
                  go_wp2_with fail
                  go_roundw
                  case measure => simp [intOf]; omega
                  case rel =>
                    refine ⟨k + 1, by omega, by simp, by rw [HH.out.2.1, ← HH.out.1], fun j hj => ?_, HW2.out.1, HW2.out.2⟩
                    rcases Nat.lt_or_ge j k with h | h
                    · exact HR.out.1 j h
                    · obtain rfl : j = k := by omega
                      rw [HZ.out, HH.out.2.2]
                · have hz2 : ((z : Int) == (x : Int)) = false := by simp; omega
                  go_wp2_with fail
                  go_ret
                  exact ⟨⟨_, rfl, hlow.out⟩, HR.out.2.2⟩
            · obtain rfl : k = M := by omega
              have f1 := from_run s (k := n + k) (by omega) ((n : Int) + (k : Int)) (by omega)
              have ad1 := fun W => run_string_add_sum (P := Try.prog) (w := W) (s.extract 0 n) (str (alt m x k)) (by rw [ByteArray.size_extract, str_size, alt_length]; omega)
              have ad2 := fun W => run_string_add_sum (P := Try.prog) (w := W) (s.extract 0 n ++ str (alt m x k)) (s.extract (n + k) s.size) (by rw [ByteArray.size_append, ByteArray.size_extract, ByteArray.size_extract, str_size, alt_length]; omega)
              have HE := Lib.hid (HF.out.1 (by omega) HR.out.1)
              go_wp2_with fail
              go_quiet (fail)
              go_wp2_with fail
              go_ret
              exact ⟨⟨_, rfl, HE.out⟩, below_dN HR.out.2.2 _⟩
end Go.Proofs.Ytbioehaapcnjmaa
