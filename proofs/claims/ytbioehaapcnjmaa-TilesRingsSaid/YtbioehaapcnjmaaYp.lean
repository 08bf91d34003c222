/- Times; the number of rounds; Order. -/
import Derived.Test.YtbioehaapcnjmaaYL
namespace Go.Proofs.Ytbioehaapcnjmaa
open Go.RowKit Go.Shelf Cx

set_option maxRecDepth 100000 in
set_option maxHeartbeats 4000000 in
theorem times1_ret (a b c pb ub vb : Nat) (u v : ByteArray) (hg : Good a b c) (hu : checkS u = 0) (hv : checkS v = 0) (w : World) (hp : SBlk w pb 23 [.int .i64 a, .int .i64 b, .int .i64 c]) (hwu : SBlk w ub 9 [.string u]) (hwv : SBlk w vb 9 [.string v]) :
    Calls Try.prog 42 #[.pointer (some ⟨pb, 0, none⟩), .pointer (some ⟨ub, 0, none⟩), .pointer (some ⟨vb, 0, none⟩)] w fun e w' => e = .returned (.string (str (nfW a b c [u, v]))) ∧ Below w.heap.size w w' := by
  have p0 := hp.cell 0
  have p1 := hp.cell 1
  have p2 := hp.cell 2
  have q0 := hwu.cell 0
  have r0 := hwv.cell 0
  simp only [List.getElem?_cons_zero, List.getElem?_cons_succ] at p0 p1 p2 q0 r0
  have HP := Lib.hid (And.intro (And.intro hp (And.intro hwu hwv)) (And.intro hg (two_ok hu hv)))
  clear hp hwu hwv hg hu hv
  go_enter Try.func42, Try.ntmps42
  go_wp2_with fail
  go_region_held3 (fun w' => w'.cell? ⟨pb, 0, none⟩ = some (.int .i64 a) ∧ w'.cell? ⟨pb, 1, none⟩ = some (.int .i64 b) ∧ w'.cell? ⟨pb, 2, none⟩ = some (.int .i64 c) ∧ w'.cell? ⟨ub, 0, none⟩ = some (.string u) ∧ w'.cell? ⟨vb, 0, none⟩ = some (.string v))
    (first | (with_reducible assumption) | exact ⟨kp.1, kp.2.1, kp.2.2, kq, kr⟩ | (go_keep; done))
    (first
      | (go_at_call 37; (with_reducible refine (given_one HP.out.2.1 2 [u, v] [.string u, .string v] rfl rfl (by omega) HP.out.2.2 w).mono ?_); rintro e w1 ⟨ob, rfl, hob, hv, hz1⟩; have kp := (keptO HP.out.1.1 hz1); have kq := keptS HP.out.1.2.1 hz1; have kr := keptS HP.out.1.2.2 hz1; have HW1 := Lib.hid (And.intro hob (And.intro (And.intro hv hv) hz1)); clear hob hv hz1)
      | (go_at_call 37; (with_reducible refine (given_two HP.out.2.1 2 [u, v] [u, v] [.string u, .string v] [.string u, .string v] rfl rfl rfl (by omega) HP.out.2.2 w).mono ?_); rintro e w1 ⟨ob, rfl, hob, hv, hz1⟩; have kp := (keptO HP.out.1.1 hz1); have kq := keptS HP.out.1.2.1 hz1; have kr := keptS HP.out.1.2.2 hz1; have HW1 := Lib.hid (And.intro hob (And.intro hv hz1)); clear hob hv hz1)
      | (go_at_call 37; (with_reducible refine (given_two' HP.out.2.1 2 [u, v] [u, v] [.string u, .string v] [.string u, .string v] rfl rfl rfl (by omega) HP.out.2.2 w).mono ?_); rintro e w1 ⟨ob, rfl, hob, hv, hz1⟩; have kp := (keptO HP.out.1.1 hz1); have kq := keptS HP.out.1.2.1 hz1; have kr := keptS HP.out.1.2.2 hz1; have HW1 := Lib.hid (And.intro hob (And.intro hv hz1)); clear hob hv hz1)
      | (go_at_call 38; (with_reducible refine (product_new HP.out.2.1 2 _ [u, v] [.string u, .string v] rfl rfl (by omega) HP.out.2.2 w1 HW1.out.1).mono ?_); rintro e w2 ⟨mb, rb, pre, l, rfl, h1, h2, h3, h4, h5, h6, h7, h8, h9, hb2⟩; have HW2 := Lib.hid (And.intro (And.intro h1 (And.intro h2 (And.intro h3 (And.intro h4 h5)))) (And.intro (And.intro h6 (And.intro h7 h8)) (And.intro (HW1.out.2.2.trans (hb2.mono HW1.out.2.2.size)) (Nat.le_trans HW1.out.2.2.size h9)))); have kp := (keptO HP.out.1.1 HW2.out.2.2.1); have kq := keptS HP.out.1.2.1 HW2.out.2.2.1; have kr := keptS HP.out.1.2.2 HW2.out.2.2.1; clear h1 h2 h3 h4 h5 h6 h7 h8 h9 hb2)
      | (go_at_call 38; (with_reducible refine (product_ok HP.out.2.1 2 _ _ [u, v] rfl (by omega) HP.out.2.2 w1 HW1.out.1 HW1.out.2.1.1).mono ?_); rintro e w2 ⟨mb, rb, pre, l, rfl, h1, h2, h3, h4, h5, h6, h7, h8, h9, hb2⟩; have HW2 := Lib.hid (And.intro (And.intro h1 (And.intro h2 (And.intro h3 (And.intro h4 h5)))) (And.intro (And.intro h6 (And.intro h7 h8)) (And.intro (HW1.out.2.2.trans (hb2.mono HW1.out.2.2.size)) (Nat.le_trans HW1.out.2.2.size h9)))); have kp := (keptO HP.out.1.1 HW2.out.2.2.1); have kq := keptS HP.out.1.2.1 HW2.out.2.2.1; have kr := keptS HP.out.1.2.2 HW2.out.2.2.1; clear h1 h2 h3 h4 h5 h6 h7 h8 h9 hb2)
      | (go_at_call 38; (with_reducible refine (product_ok HP.out.2.1 2 _ _ [u, v] rfl (by omega) HP.out.2.2 w1 HW1.out.1 HW1.out.2.1.2).mono ?_); rintro e w2 ⟨mb, rb, pre, l, rfl, h1, h2, h3, h4, h5, h6, h7, h8, h9, hb2⟩; have HW2 := Lib.hid (And.intro (And.intro h1 (And.intro h2 (And.intro h3 (And.intro h4 h5)))) (And.intro (And.intro h6 (And.intro h7 h8)) (And.intro (HW1.out.2.2.trans (hb2.mono HW1.out.2.2.size)) (Nat.le_trans HW1.out.2.2.size h9)))); have kp := (keptO HP.out.1.1 HW2.out.2.2.1); have kq := keptS HP.out.1.2.1 HW2.out.2.2.1; have kr := keptS HP.out.1.2.2 HW2.out.2.2.1; clear h1 h2 h3 h4 h5 h6 h7 h8 h9 hb2)
      | (go_at_call 39; (with_reducible refine (normal_ok HP.out.2.1 _ _ [u, v] _ HW2.out.1.1 HW2.out.1.2.1 HW2.out.1.2.2.1 HW2.out.1.2.2.2.1 HW2.out.1.2.2.2.2 HW2.out.2.1.1 HW2.out.2.1.2.1 HW2.out.2.1.2.2).mono ?_); rintro e w3 ⟨rfl, hgr⟩; have HW3 := Lib.hid (below_only HW2.out.2.2.1 hgr HW2.out.2.2.2 HW2.out.2.2.1.size); have kp := (keptO HP.out.1.1 HW3.out); have kq := keptS HP.out.1.2.1 HW3.out; have kr := keptS HP.out.1.2.2 HW3.out; clear hgr))
  all_goals
    go_wp2_with fail
    go_ret
    exact ⟨rfl, HW3.out⟩

/-- the greatest order -/
def mostS (a b c : Nat) : Int := if (c : Int) > (if (b : Int) > (if (a : Int) > 2 then (a : Int) else 2) then (b : Int) else (if (a : Int) > 2 then (a : Int) else 2)) then (c : Int) else (if (b : Int) > (if (a : Int) > 2 then (a : Int) else 2) then (b : Int) else (if (a : Int) > 2 then (a : Int) else 2))

theorem mostS_nat {a b c : Nat} (ha : a ≤ 12) (hb : b ≤ 12) (hc : c ≤ 12) : ∃ m : Nat, mostS a b c = (m : Int) ∧ 2 ≤ m ∧ m ≤ 12 := by
  refine ⟨(mostS a b c).toNat, ?_, ?_, ?_⟩ <;> unfold mostS <;> split <;> split <;> split <;> omega

theorem max4_run (a b c : Nat) (w : World) : (Builtin.max_ #[3, 3, 3, 3] 3 #[.int .i64 2, .int .i64 a, .int .i64 b, .int .i64 c]).run Try.prog w = .ok (.int .i64 (mostS a b c)) w := by
  simp [Builtin.max_, Builtin.max2, mostS]

set_option maxRecDepth 100000 in
set_option maxHeartbeats 1000000 in
theorem most_any (ob a b c : Nat) (w : World) (ho : SBlk w ob 144 (ordCells a b c)) :
    Calls Try.prog 74 #[.pointer (some ⟨ob, 0, none⟩)] w fun e w' => e = .returned (.int .i64 (mostS a b c)) ∧ ∃ n, w' = w.drewN n := by
  have c0 := ho.cell 0
  have c1 := ho.cell 1
  have c2 := ho.cell 2
  unfold ordCells at c0 c1 c2
  simp only [List.getElem?_cons_zero, List.getElem?_cons_succ] at c0 c1 c2
  have hmx := max4_run a b c
  clear ho
  generalize mostS a b c = m at *
  go_enter Try.func74, Try.ntmps74
  go_wp2_with fail
  go_quiet (fail)
  go_wp2_with fail
  go_ret
  exact ⟨rfl, _, rfl⟩

theorem below_dN {n : Nat} {A B : World} (h : Below n A B) (k : Nat) : Below n A (B.drewN k) := ⟨h.os, h.tape, h.output, h.size, h.block⟩

/-- a word, n times -/
def rep (s : ByteArray) (n : Nat) : List Nat := (List.replicate n (bytesN s)).flatten
theorem rep_succ (s : ByteArray) (n : Nat) : rep s (n + 1) = bytesN s ++ rep s n := by simp [rep, List.replicate_succ]

/-- what rounds answers -/
def RRound (a b c : Nat) (s : ByteArray) (n : Int) : Prop :=
  (n = 0 ∧ ∀ k : Nat, 1 ≤ k → (k : Int) ≤ mostS a b c → (mk (rep s k) : G (Mo a b c)) ≠ mk []) ∨
  (∃ k : Nat, n = (k : Int) ∧ 1 ≤ k ∧ (k : Int) ≤ mostS a b c ∧ (mk (rep s k) : G (Mo a b c)) = mk [] ∧ ∀ j : Nat, 1 ≤ j → j < k → (mk (rep s j) : G (Mo a b c)) ≠ mk [])

set_option maxRecDepth 100000 in
set_option maxHeartbeats 4000000 in
theorem rounds_any {a b c : Nat} (hg : Good a b c) (ob : Nat) (s : ByteArray) (he : checkS s = 0) (w : World) (ho : SBlk w ob 144 (ordCells a b c)) :
    Calls Try.prog 47 #[.pointer (some ⟨ob, 0, none⟩), .string s] w fun e w' => (∃ n, e = .returned (.int .i64 n) ∧ RRound a b c s n) ∧ Below w.heap.size w w' := by
  obtain ⟨m, hm, hm2, hm12⟩ := mostS_nat (a := a) (b := b) (c := c) (by rcases hg.la with h | h <;> omega) (by rcases hg.lb with h | h <;> omega) (by rcases hg.lc with h | h <;> omega)
  have hmost := fun W h => most_any ob a b c W h
  unfold RRound
  rw [hm] at hmost ⊢
  have hs60 := (checkS_low he).2
  have holt := ho.lt
  have hms : m * s.size ≤ 720 := Nat.le_trans (Nat.mul_le_mul hm12 hs60) (by omega)
  obtain ⟨n, hn⟩ : ∃ n, n = m * s.size := ⟨_, rfl⟩
  have hemp := fun W => empty_any ob n W (by omega)
  have hmul : (m : Int) * (s.size : Int) = (n : Int) := by rw [hn]; simp
  have H := Lib.hid (And.intro ho (And.intro hg (And.intro he hn)))
  have HM := Lib.hid (And.intro hmost hemp)
  have HMUL := Lib.hid hmul
  rw [← hn] at hms
  clear ho hg he hmost hemp hn hm
  go_enter Try.func47, Try.ntmps47
  go_wp2_with (first
    | (go_at_call 74; refine (HM.out.1 _ H.out.1).mono ?_; rintro e w' ⟨rfl, q, rfl⟩)
    | (go_at_call 66; refine (HM.out.2 _).mono ?_; rintro e w1 ⟨mb, rb, rfl, hmade, hmr, hmb, hrb, hbel⟩; have HE := Lib.hid (And.intro hmade (And.intro hmr (And.intro hmb (And.intro hrb hbel)))); clear hmade hmr hmb hrb hbel))
  have hlo : w.heap.size ≤ mb ∧ w.heap.size ≤ rb := ⟨HE.out.2.2.1, HE.out.2.2.2.1⟩
  have hmr := HE.out.2.1
  clear hmul
  go_loopw [6] (fun i wr => ∃ (k : Nat) (pre l : List Nat), k ≤ m ∧ i = .int .i64 ((k : Int) + 1) ∧ MadeAt wr mb ob rb pre l ∧ Red (Mo a b c) l ∧ (mk l : G (Mo a b c)) = mk (rep s k) ∧ (∀ y ∈ l, y < 3) ∧ pre.length + l.length = n ∧ l.length ≤ k * s.size ∧ (∀ j : Nat, 1 ≤ j → j < k + 1 → (mk (rep s j) : G (Mo a b c)) ≠ mk []) ∧ SBlk wr ob 144 (ordCells a b c) ∧ Below w.heap.size w wr) (fun i _ => m + 1 - (intOf i).toNat)
  case atStart =>
    obtain ⟨hmade, hmr, hmb, hrb, hbel⟩ := HE.out
    have hb0 : Below w.heap.size w w1 := ⟨hbel.os, hbel.tape, hbel.output, hbel.size, hbel.block⟩
    exact ⟨0, List.replicate n 0, [], Nat.zero_le _, rfl, hmade, red_nil, rfl, (fun y hy => by cases hy), by simp, by simp, fun j h1 h2 => by omega, H.out.1.below hb0 holt, hb0⟩
  case round =>
    obtain ⟨k, pre, l, hk, rfl, hmade, hred, hs, hlw, hrm, hll, hne, hoo, hbel⟩ := hrel
    by_cases hkm : k < m
    · have hbw := (callsIn_wide (n := 0)).1 (backward_in Fence.wide trivial rfl s (wr.drewN 0))
      have hstep : s.size + k * s.size ≤ n := by
        rw [H.out.2.2.2]
        have := Nat.mul_le_mul_right s.size (show k + 1 ≤ m by omega)
        rw [Nat.add_mul, Nat.one_mul] at this
        omega
      have hput : ∀ W : World, MadeAt W mb ob rb pre l → SBlk W ob 144 (ordCells a b c) → Calls Try.prog 67 #[.pointer (some ⟨mb, 0, none⟩), .func (.func 96) #[] #[.pointer (some ⟨W.heap.size, 0, none⟩)]] (W.alloc (.cells #[.string s] 9)) (RPut (Mo a b c) mb ob rb n (bytesN s).reverse l (W.alloc (.cells #[.string s] 9))) := by
        intro W hm' ho'
        have hmlt := hm'.m.lt
        have hrlt := hm'.r.lt
        have hlow := (checkS_low H.out.2.2.1).1
        refine put_any rfl H.out.2.1.la H.out.2.1.lb H.out.2.1.lc mb ob rb n _ _ (by omega) (by omega) hmr (bytesN s).reverse pre l _ (enters_of Try.func96 (by kernel_rfl) rfl) (fun o => ?_) ⟨hm'.m.alloc _, hm'.r.alloc _⟩ hrm (by omega) (by simp [bytesN_length]; omega) hred hlw (fun y hy => hlow y (by simpa using hy)) (ho'.alloc _)
        refine backward_iter Fence.wide trivial rfl rfl W.heap.size s (by omega) _ (by simp; omega) _ ?_
        exact (SBlk.new W 9 [.string s]).alloc o
      have hbk := fun W => (callsIn_wide (n := 0)).1 (backward_in Fence.wide trivial rfl s W)
      have HP := Lib.hid (And.intro hput hbk)
      have HX := Lib.hid (And.intro (And.intro hmade (And.intro hoo hbel)) (And.intro hs (And.intro hll (And.intro hne hrm))))
      have hstep2 := hstep
      clear hput hbk hbw hmade hoo hbel hs hll hne hrm hred hlw hstep
      go_wp2_with (first
        | (go_at_call 74; refine (HM.out.1 _ HX.out.1.2.1).mono ?_; rintro e w' ⟨rfl, q2, rfl⟩)
        | (go_at_call 68; refine (HP.out.2 _).mono ?_; rintro e w' ⟨rfl, rfl⟩)
        | (go_at_call 67; refine (HP.out.1 (wr.drewN q2) ⟨HX.out.1.1.m.drewN q2, HX.out.1.1.r.drewN q2⟩ (HX.out.1.2.1.drewN q2)).mono ?_; rintro e w2 ⟨jk, l', rfl, q1, q2, q3, q4, q5, q6, q7⟩; have HQ := Lib.hid (And.intro q1 (And.intro q2 (And.intro q3 (And.intro q4 (And.intro q5 (And.intro q6 q7)))))); clear q1 q2 q3 q4 q5 q6 q7))
      have hol : ob < w.heap.size := holt
      have hfacts : (mk l' : G (Mo a b c)) = mk (rep s (k + 1)) ∧ l'.length ≤ (k + 1) * s.size ∧ SBlk w2 ob 144 (ordCells a b c) ∧ Below w.heap.size w w2 := by
        obtain ⟨⟨hmade, hoo, hbel⟩, hs, hll, hne, hrm⟩ := HX.out
        obtain ⟨q1, q2', q3, q4, q5, q6, q7⟩ := HQ.out
        have hsz := hbel.size
        refine ⟨?_, ?_, ?_, ?_⟩
        · rw [q3, List.reverse_reverse, rep_succ]; exact same_suffix hs
        · rw [Nat.add_mul, Nat.one_mul]; simp [bytesN_length] at q6; omega
        · exact ((hoo.drewN q2).alloc _).but q7 (by simp; omega)
        · refine hbel.trans (((below_dN (Below.refl _ wr) q2).alloc hsz _).trans (q7.below (n := w.heap.size) ?_ ?_))
          · simp <;> omega
          · intro j hj; simp at hj; omega
      have HFA := Lib.hid hfacts
      have hlet := letters_any mb ob rb jk l' w2 HQ.out.1 (by have := HQ.out.2.2.2.2.1; omega)
      have HLE := Lib.hid hlet
      clear hfacts hlet
      by_cases hl0 : l' = []
      · have hz : ((l'.length : Int) == 0) = true := by rw [hl0]; rfl
        have HL0 := Lib.hid hl0
        clear hl0
        refine HLE.out.mono ?_
        rintro e w3 ⟨rfl, q3, rfl⟩
        go_wp2_with fail
        go_ret
        obtain ⟨f1, f2, f3, f4⟩ := HFA.out
        obtain ⟨⟨hmade, hoo, hbel⟩, hs, hll, hne, hrm⟩ := HX.out
        refine ⟨⟨((k + 1 : Nat) : Int), by simp, .inr ⟨k + 1, rfl, by omega, by omega, by rw [← f1, HL0.out], hne⟩⟩, ?_⟩
        exact ⟨f4.os, f4.tape, f4.output, f4.size, f4.block⟩
      · have hz : ((l'.length : Int) == 0) = false := by simp; exact hl0
        have HL0 := Lib.hid hl0
        clear hl0
        refine HLE.out.mono ?_
        rintro e w3 ⟨rfl, q3, rfl⟩
        go_wp2_with fail
        go_roundw
        case measure => simp [intOf]; omega
        case rel =>
          obtain ⟨f1, f2, f3, f4⟩ := HFA.out
          obtain ⟨⟨hmade, hoo, hbel⟩, hs, hll, hne, hrm⟩ := HX.out
          obtain ⟨q1, q2', q3', q4, q5, q6, q7⟩ := HQ.out
          refine ⟨k + 1, jk, l', by omega, by simp, ⟨q1.m.drewN q3, q1.r.drewN q3⟩, q2', f1, q4, q5, f2, fun j h1 h2 => ?_, f3.drewN q3, ⟨f4.os, f4.tape, f4.output, f4.size, f4.block⟩⟩
          rcases Nat.lt_or_ge j (k + 1) with h | h
          · exact hne j h1 h
          · obtain rfl : j = k + 1 := by omega
            intro hj
            have := red_len q2' red_nil (f1.trans hj)
            exact HL0.out (List.length_eq_zero_iff.1 this)
    · obtain rfl : k = m := by omega
      have HX := Lib.hid (And.intro (And.intro hoo hbel) hne)
      clear hmade hred hs hlw hrm hll hne hoo hbel
      go_wp2_with (go_at_call 74; refine (HM.out.1 _ HX.out.1.1).mono ?_; rintro e w' ⟨rfl, q2, rfl⟩)
      go_ret
      obtain ⟨⟨hoo, hbel⟩, hne⟩ := HX.out
      exact ⟨⟨0, rfl, .inl ⟨rfl, fun j h1 h2 => hne j h1 (by omega)⟩⟩, ⟨hbel.os, hbel.tape, hbel.output, hbel.size, hbel.block⟩⟩

set_option maxRecDepth 100000 in
set_option maxHeartbeats 4000000 in
theorem order1_ret (a b c pb wb : Nat) (s : ByteArray) (hg : Good a b c) (he : checkS s = 0) (w : World) (hp : SBlk w pb 23 [.int .i64 a, .int .i64 b, .int .i64 c]) (hw : SBlk w wb 9 [.string s]) :
    Calls Try.prog 46 #[.pointer (some ⟨pb, 0, none⟩), .pointer (some ⟨wb, 0, none⟩)] w fun e w' => (∃ n, e = .returned (.int .i64 n) ∧ RRound a b c s n) ∧ Below w.heap.size w w' := by
  have p0 := hp.cell 0
  have p1 := hp.cell 1
  have p2 := hp.cell 2
  have q0 := hw.cell 0
  simp only [List.getElem?_cons_zero, List.getElem?_cons_succ] at p0 p1 p2 q0
  have HP := Lib.hid (And.intro (And.intro hp hw) (And.intro hg (one_ok he)))
  have HR := Lib.hid (fun ob W h => rounds_any hg ob s he W h)
  clear hp hw hg he
  go_enter Try.func46, Try.ntmps46
  go_wp2_with fail
  go_region_held3 (fun w' => w'.cell? ⟨pb, 0, none⟩ = some (.int .i64 a) ∧ w'.cell? ⟨pb, 1, none⟩ = some (.int .i64 b) ∧ w'.cell? ⟨pb, 2, none⟩ = some (.int .i64 c) ∧ w'.cell? ⟨wb, 0, none⟩ = some (.string s))
    (first | (with_reducible assumption) | exact ⟨kp.1, kp.2.1, kp.2.2, kq⟩ | (go_keep; done))
    (first
      | (go_at_call 37; (with_reducible refine (given_one HP.out.2.1 1 [s] [.string s] rfl rfl (by omega) HP.out.2.2 w).mono ?_); rintro e w1 ⟨ob, rfl, hob, hv, hz1⟩; have kp := (keptO HP.out.1.1 hz1); have kq := keptS HP.out.1.2 hz1; have HW1 := Lib.hid (And.intro hob hz1); clear hob hv hz1)
      | (go_at_call 47; (with_reducible refine (HR.out _ w1 HW1.out.1).mono ?_); rintro e w2 ⟨⟨n, rfl, hn⟩, hb2⟩; have HW2 := Lib.hid (And.intro hn (HW1.out.2.trans (hb2.mono HW1.out.2.size))); have kp := (keptO HP.out.1.1 HW2.out.2); have kq := keptS HP.out.1.2 HW2.out.2; clear hn hb2))
  all_goals
    go_wp2_with fail
    go_ret
    exact ⟨⟨n, rfl, HW2.out.1⟩, HW2.out.2⟩
end Go.Proofs.Ytbioehaapcnjmaa
