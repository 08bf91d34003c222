/- The reference's functions of words. -/
import Derived.Test.YtbioehaapcnjmaaXA
import Derived.Test.YtbioehaapcnjmaaXjA
import Derived.Test.YtbioehaapcnjmaaGmB
namespace Go.Proofs.Ytbioehaapcnjmaa
open Go.RowKit Go.Shelf Cx

theorem Word_ok {a b c : Nat} (hg : Good a b c) (s : ByteArray) (hs : ∀ y ∈ bytesN s, y < 3) (hsz : s.size ≤ 10000) (w : World) :
    Calls Try.prog 32 #[.agg #[.int .i64 a, .int .i64 b, .int .i64 c], .string s] w (fun e w' => e = .returned (.string (str (nfW a b c [s]))) ∧ Below w.heap.size w w') := by
  have := Word_any hg.la hg.lb hg.lc s w hs hsz
  unfold nfW
  rw [cat_one]
  exact this

theorem allowedS_good {a b c : Nat} (hg : Good a b c) : allowedS a b c = 0 := by
  have la := hg.la
  have lb := hg.lb
  have lc := hg.lc
  have b1 : a < 13 := by rcases la with h | h <;> omega
  have b2 : b < 13 := by rcases lb with h | h <;> omega
  have b3 : c < 13 := by rcases lc with h | h <;> omega
  have := allowed_fault ⟨a, b1⟩ ⟨b, b2⟩ ⟨c, b3⟩ ⟨by rcases la with h | h <;> (simp; omega), by rcases lb with h | h <;> (simp; omega), by rcases lc with h | h <;> (simp; omega)⟩
  simp only at this
  rw [this]
  exact hg.lf
theorem errs_ok : ∀ {ws : List ByteArray}, (∀ s ∈ ws, checkS s = 0) → errs ws = 0 := by
  intro ws
  induction ws with
  | nil => intro _; rfl
  | cons t ws ih =>
    intro h
    unfold errs
    rw [if_pos (h t List.mem_cons_self)]
    exact ih (fun s hs => h s (List.mem_cons_of_mem _ hs))
theorem errorsS_ok {a b c : Nat} (hg : Good a b c) {ws : List ByteArray} (h : ∀ s ∈ ws, checkS s = 0) : errorsS a b c ws = 0 := by
  unfold errorsS
  rw [if_pos (allowedS_good hg)]
  exact errs_ok h

set_option maxRecDepth 100000 in
set_option maxHeartbeats 1000000 in
theorem R3Normal_err (a b c : Int) (s : ByteArray) (hs : ∀ x ∈ ([s] : List ByteArray), x.size ≤ 9223372036854775807) (he : errorsS a b c [s] ≠ 0) (w : World) :
    Calls Try.prog 11 #[.agg #[.int .i64 a, .int .i64 b, .int .i64 c], .string s] w fun e w' => e = .returned (.tuple #[.string ⟨#[]⟩, .int .i64 (errorsS a b c [s])]) ∧ Below w.heap.size w w' := by
  have HE := Lib.hid (fun (vb : Nat) (W : World) (h : SBlk W vb 9 [.string s]) => Errors_any a b c vb [s] W h (by simp) (fun t ht => Nat.le_trans (hs t ht) (by omega)))
  generalize errorsS a b c [s] = k at *
  have hk : (k != 0) = true := by simpa using he
  have hb0 := (Below.refl w.heap.size w).alloc (Nat.le_refl _) (.cells #[.int .i64 a, .int .i64 b, .int .i64 c] 23)
  have HB0 := Lib.hid (hb0.alloc hb0.size (.cells #[.string s] 9))
  clear he hs hb0
  go_enter Try.func11, Try.ntmps11
  go_wp2_with (go_at_call 21; refine (HE.out _ _ (SBlk.new' _ _ [.string s] _ (by simp))).mono ?_; rintro e w1 ⟨rfl, hb1⟩; have HB := Lib.hid (HB0.out.trans (hb1.mono HB0.out.size)); clear hb1)
  go_ret2
  exact ⟨rfl, HB.out⟩

set_option maxRecDepth 100000 in
set_option maxHeartbeats 1000000 in
theorem R3Same_err (a b c : Int) (s t : ByteArray) (hs : ∀ x ∈ ([s, t] : List ByteArray), x.size ≤ 9223372036854775807) (he : errorsS a b c [s, t] ≠ 0) (w : World) :
    Calls Try.prog 13 #[.agg #[.int .i64 a, .int .i64 b, .int .i64 c], .string s, .string t] w fun e w' => e = .returned (.tuple #[.bool false, .int .i64 (errorsS a b c [s, t])]) ∧ Below w.heap.size w w' := by
  have HE := Lib.hid (fun (vb : Nat) (W : World) (h : SBlk W vb 9 [.string s, .string t]) => Errors_any a b c vb [s, t] W h (by simp) (fun t ht => Nat.le_trans (hs t ht) (by omega)))
  generalize errorsS a b c [s, t] = k at *
  have hk : (k != 0) = true := by simpa using he
  have hb0 := (Below.refl w.heap.size w).alloc (Nat.le_refl _) (.cells #[.int .i64 a, .int .i64 b, .int .i64 c] 23)
  have HB0 := Lib.hid (hb0.alloc hb0.size (.cells #[.string s, .string t] 9))
  clear he hs hb0
  go_enter Try.func13, Try.ntmps13
  go_wp2_with (go_at_call 21; refine (HE.out _ _ (SBlk.new' _ _ [.string s, .string t] _ (by simp))).mono ?_; rintro e w1 ⟨rfl, hb1⟩; have HB := Lib.hid (HB0.out.trans (hb1.mono HB0.out.size)); clear hb1)
  go_ret2
  exact ⟨rfl, HB.out⟩

set_option maxRecDepth 100000 in
set_option maxHeartbeats 1000000 in
theorem R3Times_err (a b c : Int) (s t : ByteArray) (hs : ∀ x ∈ ([s, t] : List ByteArray), x.size ≤ 9223372036854775807) (he : errorsS a b c [s, t] ≠ 0) (w : World) :
    Calls Try.prog 15 #[.agg #[.int .i64 a, .int .i64 b, .int .i64 c], .string s, .string t] w fun e w' => e = .returned (.tuple #[.string ⟨#[]⟩, .int .i64 (errorsS a b c [s, t])]) ∧ Below w.heap.size w w' := by
  have HE := Lib.hid (fun (vb : Nat) (W : World) (h : SBlk W vb 9 [.string s, .string t]) => Errors_any a b c vb [s, t] W h (by simp) (fun t ht => Nat.le_trans (hs t ht) (by omega)))
  generalize errorsS a b c [s, t] = k at *
  have hk : (k != 0) = true := by simpa using he
  have hb0 := (Below.refl w.heap.size w).alloc (Nat.le_refl _) (.cells #[.int .i64 a, .int .i64 b, .int .i64 c] 23)
  have HB0 := Lib.hid (hb0.alloc hb0.size (.cells #[.string s, .string t] 9))
  clear he hs hb0
  go_enter Try.func15, Try.ntmps15
  go_wp2_with (go_at_call 21; refine (HE.out _ _ (SBlk.new' _ _ [.string s, .string t] _ (by simp))).mono ?_; rintro e w1 ⟨rfl, hb1⟩; have HB := Lib.hid (HB0.out.trans (hb1.mono HB0.out.size)); clear hb1)
  go_ret2
  exact ⟨rfl, HB.out⟩

set_option maxRecDepth 100000 in
set_option maxHeartbeats 1000000 in
theorem R3Inverse_err (a b c : Int) (s : ByteArray) (hs : ∀ x ∈ ([s] : List ByteArray), x.size ≤ 9223372036854775807) (he : errorsS a b c [s] ≠ 0) (w : World) :
    Calls Try.prog 17 #[.agg #[.int .i64 a, .int .i64 b, .int .i64 c], .string s] w fun e w' => e = .returned (.tuple #[.string ⟨#[]⟩, .int .i64 (errorsS a b c [s])]) ∧ Below w.heap.size w w' := by
  have HE := Lib.hid (fun (vb : Nat) (W : World) (h : SBlk W vb 9 [.string s]) => Errors_any a b c vb [s] W h (by simp) (fun t ht => Nat.le_trans (hs t ht) (by omega)))
  generalize errorsS a b c [s] = k at *
  have hk : (k != 0) = true := by simpa using he
  have hb0 := (Below.refl w.heap.size w).alloc (Nat.le_refl _) (.cells #[.int .i64 a, .int .i64 b, .int .i64 c] 23)
  have HB0 := Lib.hid (hb0.alloc hb0.size (.cells #[.string s] 9))
  clear he hs hb0
  go_enter Try.func17, Try.ntmps17
  go_wp2_with (go_at_call 21; refine (HE.out _ _ (SBlk.new' _ _ [.string s] _ (by simp))).mono ?_; rintro e w1 ⟨rfl, hb1⟩; have HB := Lib.hid (HB0.out.trans (hb1.mono HB0.out.size)); clear hb1)
  go_ret2
  exact ⟨rfl, HB.out⟩

set_option maxRecDepth 100000 in
set_option maxHeartbeats 1000000 in
theorem R3Order_err (a b c : Int) (s : ByteArray) (hs : ∀ x ∈ ([s] : List ByteArray), x.size ≤ 9223372036854775807) (he : errorsS a b c [s] ≠ 0) (w : World) :
    Calls Try.prog 19 #[.agg #[.int .i64 a, .int .i64 b, .int .i64 c], .string s] w fun e w' => e = .returned (.tuple #[.int .i64 0, .int .i64 (errorsS a b c [s])]) ∧ Below w.heap.size w w' := by
  have HE := Lib.hid (fun (vb : Nat) (W : World) (h : SBlk W vb 9 [.string s]) => Errors_any a b c vb [s] W h (by simp) (fun t ht => Nat.le_trans (hs t ht) (by omega)))
  generalize errorsS a b c [s] = k at *
  have hk : (k != 0) = true := by simpa using he
  have hb0 := (Below.refl w.heap.size w).alloc (Nat.le_refl _) (.cells #[.int .i64 a, .int .i64 b, .int .i64 c] 23)
  have HB0 := Lib.hid (hb0.alloc hb0.size (.cells #[.string s] 9))
  clear he hs hb0
  go_enter Try.func19, Try.ntmps19
  go_wp2_with (go_at_call 21; refine (HE.out _ _ (SBlk.new' _ _ [.string s] _ (by simp))).mono ?_; rintro e w1 ⟨rfl, hb1⟩; have HB := Lib.hid (HB0.out.trans (hb1.mono HB0.out.size)); clear hb1)
  go_ret2
  exact ⟨rfl, HB.out⟩

set_option maxRecDepth 100000 in
set_option maxHeartbeats 2000000 in
theorem R3Normal_ok (a b c : Nat) (s : ByteArray) (hg : Good a b c) (hs : checkS s = 0) (w : World) :
    Calls Try.prog 11 #[.agg #[.int .i64 a, .int .i64 b, .int .i64 c], .string s] w fun e w' => e = .returned (.tuple #[.string (str (nfW a b c [s])), .int .i64 0]) ∧ Below w.heap.size w w' := by
  have HE := Lib.hid (fun (vb : Nat) (W : World) (h : SBlk W vb 9 [.string s]) => by
    have h1 := Errors_any a b c vb [s] W h (by simp) (fun t ht => by have := (checkS_low (one_ok hs t ht)).2; omega)
    rw [errorsS_ok hg (one_ok hs)] at h1
    exact h1)
  have hb0 := (Below.refl w.heap.size w).alloc (Nat.le_refl _) (.cells #[.int .i64 a, .int .i64 b, .int .i64 c] 23)
  have HB0 := Lib.hid (hb0.alloc hb0.size (.cells #[.string s] 9))
  have HO0 := Lib.hid ((SBlk.new w 23 [.int .i64 a, .int .i64 b, .int .i64 c]).alloc (.cells #[.string s] 9))
  clear hb0
  have HW := Lib.hid (fun W => Word_ok hg s (checkS_low hs).1 (by have := (checkS_low hs).2; omega) W)
  generalize str (nfW a b c [s]) = N at *
  clear hs hg
  go_enter Try.func11, Try.ntmps11
  go_wp2_with fail
  refine (HE.out _ _ (SBlk.new' _ _ [.string s] _ (by simp))).mono ?_
  rintro e w1 ⟨rfl, hb1⟩
  have HB := Lib.hid (HB0.out.trans (hb1.mono HB0.out.size))
  have HO := Lib.hid (kept3 HO0.out hb1).1
  obtain ⟨x0, x1, x2⟩ := (kept3 HO0.out hb1).2
  clear hb1 HE HB0 HO0
  go_wp2_with fail
  refine (HW.out _).mono ?_
  rintro e w2 ⟨rfl, hb2⟩
  have HB2 := Lib.hid (HB.out.trans (hb2.mono HB.out.size))
  clear hb2
  go_wp2_with fail
  go_ret2
  exact ⟨rfl, HB2.out⟩

set_option maxRecDepth 100000 in
set_option maxHeartbeats 2000000 in
theorem R3Times_ok (a b c : Nat) (s t : ByteArray) (hg : Good a b c) (hs : checkS s = 0) (ht : checkS t = 0) (w : World) :
    Calls Try.prog 15 #[.agg #[.int .i64 a, .int .i64 b, .int .i64 c], .string s, .string t] w fun e w' => e = .returned (.tuple #[.string (str (nfW a b c [s, t])), .int .i64 0]) ∧ Below w.heap.size w w' := by
  have HE := Lib.hid (fun (vb : Nat) (W : World) (h : SBlk W vb 9 [.string s, .string t]) => by
    have h1 := Errors_any a b c vb [s, t] W h (by simp) (fun x hx => by have := (checkS_low (two_ok hs ht x hx)).2; omega)
    rw [errorsS_ok hg (two_ok hs ht)] at h1
    exact h1)
  have hb0 := (Below.refl w.heap.size w).alloc (Nat.le_refl _) (.cells #[.int .i64 a, .int .i64 b, .int .i64 c] 23)
  have HB0 := Lib.hid (hb0.alloc hb0.size (.cells #[.string s, .string t] 9))
  have HO0 := Lib.hid ((SBlk.new w 23 [.int .i64 a, .int .i64 b, .int .i64 c]).alloc (.cells #[.string s, .string t] 9))
  clear hb0
  have hlow := cat_low (two_ok hs ht)
  have hst : bytesN (s ++ t) = cat [s, t] := by rw [cat_two, bytesN_append]
  have hsz1 := (checkS_low hs).2
  have hsz2 := (checkS_low ht).2
  have HW := Lib.hid (fun W => by
    have h1 := Word_ok hg (s ++ t) (by rw [hst]; exact hlow.1) (by rw [ByteArray.size_append]; omega) W
    rw [show nfW a b c [s ++ t] = nfW a b c [s, t] from nfW_same (by rw [cat_one, hst])] at h1
    exact h1)
  have ad := fun W => run_string_add_sum (P := Try.prog) (w := W) s t (by omega)
  generalize str (nfW a b c [s, t]) = N at *
  clear hs ht hg hlow hst
  go_enter Try.func15, Try.ntmps15
  go_wp2_with fail
  refine (HE.out _ _ (SBlk.new' _ _ [.string s, .string t] _ (by simp))).mono ?_
  rintro e w1 ⟨rfl, hb1⟩
  have HB := Lib.hid (HB0.out.trans (hb1.mono HB0.out.size))
  have HO := Lib.hid (kept3 HO0.out hb1).1
  obtain ⟨x0, x1, x2⟩ := (kept3 HO0.out hb1).2
  clear hb1 HE HB0 HO0
  go_wp2_with fail
  refine (HW.out _).mono ?_
  rintro e w2 ⟨rfl, hb2⟩
  have HB2 := Lib.hid (HB.out.trans (hb2.mono HB.out.size))
  clear hb2
  go_wp2_with fail
  go_ret2
  exact ⟨rfl, HB2.out⟩

set_option maxRecDepth 100000 in
set_option maxHeartbeats 2000000 in
theorem R3Inverse_ok (a b c : Nat) (s : ByteArray) (hg : Good a b c) (hs : checkS s = 0) (w : World) :
    Calls Try.prog 17 #[.agg #[.int .i64 a, .int .i64 b, .int .i64 c], .string s] w fun e w' => e = .returned (.tuple #[.string (str (nfW a b c [turnS s])), .int .i64 0]) ∧ Below w.heap.size w w' := by
  have HE := Lib.hid (fun (vb : Nat) (W : World) (h : SBlk W vb 9 [.string s]) => by
    have h1 := Errors_any a b c vb [s] W h (by simp) (fun t ht => by have := (checkS_low (one_ok hs t ht)).2; omega)
    rw [errorsS_ok hg (one_ok hs)] at h1
    exact h1)
  have hb0 := (Below.refl w.heap.size w).alloc (Nat.le_refl _) (.cells #[.int .i64 a, .int .i64 b, .int .i64 c] 23)
  have HB0 := Lib.hid (hb0.alloc hb0.size (.cells #[.string s] 9))
  have HO0 := Lib.hid ((SBlk.new w 23 [.int .i64 a, .int .i64 b, .int .i64 c]).alloc (.cells #[.string s] 9))
  clear hb0
  have ht := checkS_low (turnS_check hs)
  have HW := Lib.hid (fun W => Word_ok hg (turnS s) ht.1 (by omega) W)
  have HT := Lib.hid (fun W => Turned_any s (by have := (checkS_low hs).2; omega) W)
  generalize str (nfW a b c [turnS s]) = N at *
  generalize turnS s = T at *
  clear hs hg ht
  go_enter Try.func17, Try.ntmps17
  go_wp2_with fail
  refine (HE.out _ _ (SBlk.new' _ _ [.string s] _ (by simp))).mono ?_
  rintro e w1 ⟨rfl, hb1⟩
  have HB := Lib.hid (HB0.out.trans (hb1.mono HB0.out.size))
  have HO := Lib.hid (kept3 HO0.out hb1).1
  obtain ⟨x0, x1, x2⟩ := (kept3 HO0.out hb1).2
  clear hb1 HE HB0 HO0
  have hdr := (Below.refl w1.heap.size w1).drew
  have HD := Lib.hid (kept3 HO.out hdr).2
  clear hdr
  go_wp2_with fail
  go_region_held3 (fun w' => w'.cell? ⟨w.heap.size, 0, none⟩ = some (.int .i64 a) ∧ w'.cell? ⟨w.heap.size, 1, none⟩ = some (.int .i64 b) ∧ w'.cell? ⟨w.heap.size, 2, none⟩ = some (.int .i64 c))
    (first | (with_reducible assumption) | (with_reducible exact HD.out) | (with_reducible exact kp) | (go_keep; done))
    (first
      | (go_at_call 23; (with_reducible refine (HT.out _).mono ?_); rintro e w' ⟨rfl, rfl⟩)
      | (go_at_call 32; (with_reducible refine (HW.out _).mono ?_); rintro e w2 ⟨rfl, hb⟩; replace hb := below_undrew hb; have kp := (kept3 HO.out hb).2; have HB2 := Lib.hid (HB.out.trans (hb.mono HB.out.size)); clear hb))
  all_goals
    go_wp2_with fail
    go_ret2
    exact ⟨rfl, HB2.out⟩

set_option maxRecDepth 100000 in
set_option maxHeartbeats 2000000 in
theorem R3Same_ok (a b c : Nat) (s t : ByteArray) (hg : Good a b c) (hs : checkS s = 0) (ht : checkS t = 0) (w : World) :
    Calls Try.prog 13 #[.agg #[.int .i64 a, .int .i64 b, .int .i64 c], .string s, .string t] w fun e w' => e = .returned (.tuple #[.bool (eqB (str (nfW a b c [s])) (str (nfW a b c [t]))), .int .i64 0]) ∧ Below w.heap.size w w' := by
  have HE := Lib.hid (fun (vb : Nat) (W : World) (h : SBlk W vb 9 [.string s, .string t]) => by
    have h1 := Errors_any a b c vb [s, t] W h (by simp) (fun x hx => by have := (checkS_low (two_ok hs ht x hx)).2; omega)
    rw [errorsS_ok hg (two_ok hs ht)] at h1
    exact h1)
  have hb0 := (Below.refl w.heap.size w).alloc (Nat.le_refl _) (.cells #[.int .i64 a, .int .i64 b, .int .i64 c] 23)
  have HB0 := Lib.hid (hb0.alloc hb0.size (.cells #[.string s, .string t] 9))
  have HO0 := Lib.hid ((SBlk.new w 23 [.int .i64 a, .int .i64 b, .int .i64 c]).alloc (.cells #[.string s, .string t] 9))
  clear hb0
  have HW1 := Lib.hid (fun W => Word_ok hg s (checkS_low hs).1 (by have := (checkS_low hs).2; omega) W)
  have HW2 := Lib.hid (fun W => Word_ok hg t (checkS_low ht).1 (by have := (checkS_low ht).2; omega) W)
  generalize str (nfW a b c [s]) = N1 at *
  generalize str (nfW a b c [t]) = N2 at *
  clear hs ht hg
  go_enter Try.func13, Try.ntmps13
  go_wp2_with fail
  refine (HE.out _ _ (SBlk.new' _ _ [.string s, .string t] _ (by simp))).mono ?_
  rintro e w1 ⟨rfl, hb1⟩
  have HB := Lib.hid (HB0.out.trans (hb1.mono HB0.out.size))
  have HO := Lib.hid (kept3 HO0.out hb1).1
  obtain ⟨x0, x1, x2⟩ := (kept3 HO0.out hb1).2
  clear hb1 HE HB0 HO0
  have hdr := (Below.refl w1.heap.size w1).drew
  have HD := Lib.hid (kept3 HO.out hdr).2
  clear hdr
  go_wp2_with fail
  go_region_held3 (fun w' => w'.cell? ⟨w.heap.size, 0, none⟩ = some (.int .i64 a) ∧ w'.cell? ⟨w.heap.size, 1, none⟩ = some (.int .i64 b) ∧ w'.cell? ⟨w.heap.size, 2, none⟩ = some (.int .i64 c))
    (first | (with_reducible assumption) | (with_reducible exact HD.out) | (with_reducible exact kp2) | (with_reducible exact kp) | (go_keep; done))
    (first
      | (go_at_call 32; (with_reducible first | refine (HW1.out w1.drew).mono ?_ | refine (HW2.out w1.drew).mono ?_); rintro e w2 ⟨rfl, hb⟩; replace hb := below_undrew hb; have kp := (kept3 HO.out hb).2; have HO2 := Lib.hid (kept3 HO.out hb).1; have HB2 := Lib.hid (HB.out.trans (hb.mono HB.out.size)); clear hb)
      | (go_at_call 32; (with_reducible first | refine (HW1.out w2).mono ?_ | refine (HW2.out w2).mono ?_); rintro e w3 ⟨rfl, hb⟩; have kp2 := (kept3 HO2.out hb).2; have HB3 := Lib.hid (HB2.out.trans (hb.mono HB2.out.size)); clear hb))
  all_goals
    go_wp2_with fail
    go_ret2
    exact ⟨rfl, HB3.out⟩
end Go.Proofs.Ytbioehaapcnjmaa
