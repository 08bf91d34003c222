/- WordsGroup. -/
import Derived.Test.YtogchohpnbeldaaXb
import Derived.Test.YtogchohpnbeldaaZb
namespace Go.Proofs.Ytogchohpnbeldaa
open Go.RowKit Go.Shelf Cx

/-- what the program answers of three words -/
structure GroupF (a b c : Nat) (u v w A B C I T X : ByteArray) (n : Int) : Prop where
  t1 : ∀ W, Calls Try.prog 16 #[.agg #[.int .i64 a, .int .i64 b, .int .i64 c], .string u, .string v] W fun e w' => e = .returned (.tuple #[.string A, .int .i64 0]) ∧ Below W.heap.size W w'
  t2 : ∀ W, Calls Try.prog 16 #[.agg #[.int .i64 a, .int .i64 b, .int .i64 c], .string v, .string w] W fun e w' => e = .returned (.tuple #[.string B, .int .i64 0]) ∧ Below W.heap.size W w'
  t3 : ∀ W, Calls Try.prog 16 #[.agg #[.int .i64 a, .int .i64 b, .int .i64 c], .string A, .string w] W fun e w' => e = .returned (.tuple #[.string C, .int .i64 0]) ∧ Below W.heap.size W w'
  t4 : ∀ W, Calls Try.prog 16 #[.agg #[.int .i64 a, .int .i64 b, .int .i64 c], .string u, .string B] W fun e w' => e = .returned (.tuple #[.string C, .int .i64 0]) ∧ Below W.heap.size W w'
  t5 : ∀ W, Calls Try.prog 16 #[.agg #[.int .i64 a, .int .i64 b, .int .i64 c], .string u, .string I] W fun e w' => e = .returned (.tuple #[.string ⟨#[]⟩, .int .i64 0]) ∧ Below W.heap.size W w'
  t6 : ∀ W, Calls Try.prog 16 #[.agg #[.int .i64 a, .int .i64 b, .int .i64 c], .string I, .string u] W fun e w' => e = .returned (.tuple #[.string ⟨#[]⟩, .int .i64 0]) ∧ Below W.heap.size W w'
  i1 : ∀ W, Calls Try.prog 18 #[.agg #[.int .i64 a, .int .i64 b, .int .i64 c], .string u] W fun e w' => e = .returned (.tuple #[.string I, .int .i64 0]) ∧ Below W.heap.size W w'
  o1 : ∀ W, Calls Try.prog 20 #[.agg #[.int .i64 a, .int .i64 b, .int .i64 c], .string w] W fun e w' => e = .returned (.tuple #[.int .i64 n, .int .i64 0]) ∧ Below W.heap.size W w'
  o2 : ∀ W, Calls Try.prog 20 #[.agg #[.int .i64 a, .int .i64 b, .int .i64 c], .string X] W fun e w' => e = .returned (.tuple #[.int .i64 n, .int .i64 0]) ∧ Below W.heap.size W w'
  tu : ∀ W, Calls Try.prog 23 #[.string u] W fun e w' => e = .returned (.string T) ∧ w' = W
  s1 : ∀ W, (Op.stringOp .add u w).run Try.prog W = .ok (.string (u ++ w)) W
  s2 : ∀ W, (Op.stringOp .add (u ++ w) T).run Try.prog W = .ok (.string X) W
  odd : w.size % 2 = 1 → n = 0 ∨ n = 2
  all : n = 0 ∨ n = 1 ∨ n = 2 ∨ ∃ k : Nat, n = (k : Int) ∧ 3 ≤ k ∧ (divB k a = true ∨ divB k b = true ∨ divB k c = true)

theorem divB_dvd {k m : Nat} (hk : 0 < k) (hm : m ≠ 0) (h : k ∣ m) : divB k m = true := by
  unfold divB
  obtain ⟨q, rfl⟩ := h
  have : ((k * q : Nat) : Int) % (k : Int) = 0 := by rw [Int.natCast_mul]; exact Int.mul_emod_right _ _
  simp only [this]
  simp
  omega

theorem group_facts {a b c : Nat} (hg : Good a b c) {u v w : ByteArray} (hu : checkS u = 0) (hv : checkS v = 0) (hw : checkS w = 0) (lu : u.size ≤ 20) (lv : v.size ≤ 20) (lw : w.size ≤ 20) :
    ∃ A B C I T X n, GroupF a b c u v w A B C I T X n := by
  obtain ⟨n, hn⟩ := round_exists a b c w
  have cu := checkS_low hu
  have cv := checkS_low hv
  have cw := checkS_low hw
  have ct := turnS_check hu
  have low2 : ∀ {s t : ByteArray}, (∀ y ∈ bytesN s, y < 3) → (∀ y ∈ bytesN t, y < 3) → ∀ y ∈ cat [s, t], y < 3 := by
    intro s t h1 h2 y hy
    rw [cat_two] at hy
    rcases List.mem_append.1 hy with h | h
    · exact h1 y h
    · exact h2 y h
  have luv := low2 cu.1 cv.1
  have lvw := low2 cv.1 cw.1
  have kA : checkS (str (nfW a b c [u, v])) = 0 := check_str (nfW_low luv) (by have := nfW_len a b c [u, v]; rw [cat_two, List.length_append, bytesN_length, bytesN_length] at this; omega)
  have kB : checkS (str (nfW a b c [v, w])) = 0 := check_str (nfW_low lvw) (by have := nfW_len a b c [v, w]; rw [cat_two, List.length_append, bytesN_length, bytesN_length] at this; omega)
  have lt1 : ∀ y ∈ cat [turnS u], y < 3 := by rw [cat_one, turnS_bytes]; intro y hy; exact cu.1 y (by simpa using hy)
  have kI : checkS (str (nfW a b c [turnS u])) = 0 := check_str (nfW_low lt1) (by have := nfW_len a b c [turnS u]; rw [cat_one, turnS_bytes, List.length_reverse, bytesN_length] at this; omega)
  have e3 : nfW a b c [str (nfW a b c [u, v]), w] = nfW a b c [u, str (nfW a b c [v, w])] := by
    refine nfW_same ?_
    rw [cat_two, cat_two, bytes_nfW luv, bytes_nfW lvw, ← mk_mul, ← mk_mul, nfW_mk, nfW_mk, cat_two, cat_two, ← mk_mul, ← mk_mul, mul_assoc]
  have en : nfW a b c [] = [] := by
    have : nfW a b c [] = nf (mk [] : G (Mo a b c)) := rfl
    rw [this, nf_eq Greedy.nil]
  have e5 : nfW a b c [u, str (nfW a b c [turnS u])] = [] := by
    rw [← en]
    refine nfW_same ?_
    rw [cat_two, bytes_nfW lt1, ← mk_mul, nfW_mk, cat_one, turnS_bytes, ← inv_mk]
    exact mul_inv _
  have e6 : nfW a b c [str (nfW a b c [turnS u]), u] = [] := by
    rw [← en]
    refine nfW_same ?_
    rw [cat_two, bytes_nfW lt1, ← mk_mul, nfW_mk, cat_one, turnS_bytes, ← inv_mk]
    exact inv_mul_self _
  have hX : bytesN (u ++ w ++ turnS u) = bytesN u ++ bytesN w ++ (bytesN u).reverse := by rw [bytesN_append, bytesN_append, turnS_bytes]
  have kX : checkS (u ++ w ++ turnS u) = 0 := by
    have h1 : u ++ w ++ turnS u = str (bytesN u ++ bytesN w ++ (bytesN u).reverse) := by
      rw [← hX, str_bytes]
    rw [h1]
    refine check_str ?_ (by simp [bytesN_length]; omega)
    intro y hy
    simp only [List.mem_append, List.mem_reverse] at hy
    rcases hy with (hy | hy) | hy
    · exact cu.1 y hy
    · exact cw.1 y hy
    · exact cu.1 y hy
  have ho := Rs.round_orders hg hw hn
  refine ⟨_, _, _, _, _, _, n, ⟨fun W => Times_ok a b c u v hg hu hv W, fun W => Times_ok a b c v w hg hv hw W, fun W => Times_ok a b c _ w hg kA hw W, fun W => ?_, fun W => ?_, fun W => ?_, fun W => Inverse_ok a b c u hg hu W,
    fun W => Order_ok a b c w n hg hw hn W, fun W => Order_ok a b c (u ++ w ++ turnS u) n hg kX (round_conj hX hn) W, fun W => Turned_any u (by omega) W, fun W => run_string_add_sum W u w (by omega), fun W => run_string_add_sum W (u ++ w) (turnS u) (by rw [ByteArray.size_append, turnS_size]; omega), ho.1, ?_⟩⟩
  · rw [e3]; exact Times_ok a b c u _ hg hu kB W
  · have := Times_ok a b c u _ hg hu kI W
    rw [e5] at this
    exact this
  · have := Times_ok a b c _ u hg kI hu W
    rw [e6] at this
    exact this
  · rcases ho.2 with h | h | h | ⟨i, j, k, hi, hj, hij, h1, h2, h3, h4⟩
    · exact .inl h
    · exact .inr (.inl h)
    · exact .inr (.inr (.inl h))
    · by_cases k1 : k = 1
      · right; left; rw [h1, k1]; rfl
      · by_cases k2 : k = 2
        · right; right; left; rw [h1, k2]; rfl
        · refine .inr (.inr (.inr ⟨k, h1, by omega, ?_⟩))
          have hd := divB_dvd h2 h3 h4
          have hi' : i = 0 ∨ i = 1 ∨ i = 2 := by omega
          have hj' : j = 0 ∨ j = 1 ∨ j = 2 := by omega
          rcases hi' with rfl | rfl | rfl <;> rcases hj' with rfl | rfl | rfl <;> first | (exact absurd rfl hij) | (exact .inl hd) | (exact .inr (.inl hd)) | (exact .inr (.inr hd))

set_option maxRecDepth 100000 in
set_option maxHeartbeats 8000000 in
theorem WordsGroup_any (a b c : Int) (u v s : ByteArray) (hu : u.size ≤ 9223372036854775807) (hv : v.size ≤ 9223372036854775807) (hs : s.size ≤ 9223372036854775807) (w : World) :
    Calls Try.prog 6 #[.agg #[.int .i64 a, .int .i64 b, .int .i64 c], .string u, .string v, .string s] w fun e w' => e = .returned (.bool true) ∧ Below w.heap.size w w' := by
  have HS := Lib.hid sane_any
  have HE := Lib.hid (fun (vb : Nat) (W : World) (h : SBlk W vb 9 [.string u, .string v, .string s]) => Errors_any a b c vb [u, v, s] W h (by simp) (fun t ht => by
    simp only [List.mem_cons, List.not_mem_nil, or_false] at ht
    rcases ht with rfl | rfl | rfl <;> assumption))
  have HZero := Lib.hid (fun h : errorsS a b c [u, v, s] = 0 => errorsS_zero h)
  generalize errorsS a b c [u, v, s] = er at *
  go_enter Try.func6, Try.ntmps6
  go_wp2_with fail
  have HZ := Lib.hid ((Below.refl w.heap.size w).alloc (Nat.le_refl _) (.cells #[.int .i64 a, .int .i64 b, .int .i64 c] 23))
  have HK := Lib.hid (SBlk.new w 23 [.int .i64 a, .int .i64 b, .int .i64 c])
  refine (HS.out _).mono ?_
  rintro e W1 ⟨rfl, hb⟩
  have hk := kept3 HK.out hb
  replace HK := Lib.hid hk.1
  have x0 := hk.2.1
  have x1 := hk.2.2.1
  have x2 := hk.2.2.2
  clear hk
  replace HZ := Lib.hid (HZ.out.trans (hb.mono HZ.out.size))
  clear hb
  by_cases lu : 20 < u.size
  · have lu' : (20 : Int) < (u.size : Int) := by omega
    go_wp2_with fail
    go_ret
    exact ⟨rfl, HZ.out⟩
  have lu' : decide ((20 : Int) < (u.size : Int)) = false := decide_eq_false (by omega)
  by_cases lv : 20 < v.size
  · have lv' : (20 : Int) < (v.size : Int) := by omega
    go_wp2_with fail
    go_ret
    exact ⟨rfl, HZ.out⟩
  have lv' : decide ((20 : Int) < (v.size : Int)) = false := decide_eq_false (by omega)
  by_cases ls : 20 < s.size
  · have ls' : (20 : Int) < (s.size : Int) := by omega
    go_wp2_with fail
    go_ret
    exact ⟨rfl, HZ.out⟩
  have ls' : decide ((20 : Int) < (s.size : Int)) = false := decide_eq_false (by omega)
  go_wp2_with fail
  replace HK := Lib.hid (HK.out.alloc (.cells #[.string u, .string v, .string s] 9))
  have HV := Lib.hid (SBlk.new W1 9 [.string u, .string v, .string s])
  replace HZ := Lib.hid (HZ.out.alloc HZ.out.size (.cells #[.string u, .string v, .string s] 9))
  refine (HE.out _ _ HV.out).mono ?_
  rintro e W2 ⟨rfl, hb⟩
  have hk := kept3 HK.out hb
  replace HK := Lib.hid hk.1
  replace x0 := hk.2.1
  replace x1 := hk.2.2.1
  replace x2 := hk.2.2.2
  clear hk
  replace HZ := Lib.hid (HZ.out.trans (hb.mono HZ.out.size))
  clear hb
  clear HE
  rcases Decidable.em (¬ er = 0) with her | her
  · clear HZero
    go_wp2_with fail
    go_ret
    exact ⟨rfl, HZ.out⟩
  obtain ⟨h1, h2⟩ := HZero.out (Decidable.of_not_not her)
  clear HZero
  have her := Decidable.of_not_not her
  subst her
  obtain ⟨hg, ea, eb, ec⟩ := allowed_good h1
  clear h1
  generalize a.toNat = a' at *
  generalize b.toNat = b' at *
  generalize c.toNat = c' at *
  subst ea eb ec
  obtain ⟨A, B, C, I, T, X, n, hF⟩ := group_facts hg (h2 u (by simp)) (h2 v (by simp)) (h2 s (by simp)) (by omega) (by omega) (by omega)
  have HF := Lib.hid hF
  have sum1 := hF.s1
  have sum2 := hF.s2
  clear h2 hF hg
  go_wp2_with fail
  refine (HF.out.t1 _).mono ?_
  rintro e Y0 ⟨rfl, hb⟩
  have hk := kept3 HK.out hb
  replace HK := Lib.hid hk.1
  replace x0 := hk.2.1
  replace x1 := hk.2.2.1
  replace x2 := hk.2.2.2
  clear hk
  replace HZ := Lib.hid (HZ.out.trans (hb.mono HZ.out.size))
  clear hb
  go_wp2_with fail
  refine (HF.out.t2 _).mono ?_
  rintro e Y1 ⟨rfl, hb⟩
  have hk := kept3 HK.out hb
  replace HK := Lib.hid hk.1
  replace x0 := hk.2.1
  replace x1 := hk.2.2.1
  replace x2 := hk.2.2.2
  clear hk
  replace HZ := Lib.hid (HZ.out.trans (hb.mono HZ.out.size))
  clear hb
  go_wp2_with fail
  refine (HF.out.t3 _).mono ?_
  rintro e Y2 ⟨rfl, hb⟩
  have hk := kept3 HK.out hb
  replace HK := Lib.hid hk.1
  replace x0 := hk.2.1
  replace x1 := hk.2.2.1
  replace x2 := hk.2.2.2
  clear hk
  replace HZ := Lib.hid (HZ.out.trans (hb.mono HZ.out.size))
  clear hb
  go_wp2_with fail
  refine (HF.out.t4 _).mono ?_
  rintro e Y3 ⟨rfl, hb⟩
  have hk := kept3 HK.out hb
  replace HK := Lib.hid hk.1
  replace x0 := hk.2.1
  replace x1 := hk.2.2.1
  replace x2 := hk.2.2.2
  clear hk
  replace HZ := Lib.hid (HZ.out.trans (hb.mono HZ.out.size))
  clear hb
  go_wp2_with fail
  refine (HF.out.i1 _).mono ?_
  rintro e Y4 ⟨rfl, hb⟩
  have hk := kept3 HK.out hb
  replace HK := Lib.hid hk.1
  replace x0 := hk.2.1
  replace x1 := hk.2.2.1
  replace x2 := hk.2.2.2
  clear hk
  replace HZ := Lib.hid (HZ.out.trans (hb.mono HZ.out.size))
  clear hb
  go_wp2_with fail
  refine (HF.out.t5 _).mono ?_
  rintro e Y5 ⟨rfl, hb⟩
  have hk := kept3 HK.out hb
  replace HK := Lib.hid hk.1
  replace x0 := hk.2.1
  replace x1 := hk.2.2.1
  replace x2 := hk.2.2.2
  clear hk
  replace HZ := Lib.hid (HZ.out.trans (hb.mono HZ.out.size))
  clear hb
  go_wp2_with fail
  refine (HF.out.t6 _).mono ?_
  rintro e Y6 ⟨rfl, hb⟩
  have hk := kept3 HK.out hb
  replace HK := Lib.hid hk.1
  replace x0 := hk.2.1
  replace x1 := hk.2.2.1
  replace x2 := hk.2.2.2
  clear hk
  replace HZ := Lib.hid (HZ.out.trans (hb.mono HZ.out.size))
  clear hb
  go_wp2_with fail
  refine (HF.out.o1 _).mono ?_
  rintro e Y7 ⟨rfl, hb⟩
  have hk := kept3 HK.out hb
  replace HK := Lib.hid hk.1
  replace x0 := hk.2.1
  replace x1 := hk.2.2.1
  replace x2 := hk.2.2.2
  clear hk
  replace HZ := Lib.hid (HZ.out.trans (hb.mono HZ.out.size))
  clear hb
  go_wp2_with fail
  have hdr := (Below.refl Y7.heap.size Y7).drew
  have HD := Lib.hid (kept3 HK.out hdr).2
  clear hdr
  go_region_held3 (fun w' => w'.cell? ⟨w.heap.size, 0, none⟩ = some (.int .i64 a') ∧ w'.cell? ⟨w.heap.size, 1, none⟩ = some (.int .i64 b') ∧ w'.cell? ⟨w.heap.size, 2, none⟩ = some (.int .i64 c'))
    (first | (with_reducible assumption) | (with_reducible exact HD.out) | (with_reducible exact kp) | (go_keep; done))
    (first
      | (go_at_call 23; (with_reducible refine (HF.out.tu _).mono ?_); rintro e w' ⟨rfl, rfl⟩)
      | (go_at_call 20; (with_reducible refine (HF.out.o2 _).mono ?_); rintro e Y8 ⟨rfl, hb⟩; replace hb := below_undrew hb; have HK8 := Lib.hid (kept3 HK.out hb).1; have kp := (kept3 HK.out hb).2; have HZ8 := Lib.hid (HZ.out.trans (hb.mono HZ.out.size)); clear hb))
  obtain ⟨z0, z1, z2⟩ := kp
  have hodd := HF.out.odd
  have hall := HF.out.all
  have HDV := Lib.hid (fun n m W => divides_any n m W)
  clear sum1 sum2 x0 x1 x2
  by_cases hod : s.size % 2 = 1
  · have ho2 : (((s.size : Int) % 2) == 1) = true := by simp; omega
    rcases hodd hod with h | h
    · subst h
      clear hall hodd
      go_wp2_with fail
      go_ret
      exact ⟨rfl, HZ8.out⟩
    · subst h
      clear hall hodd
      go_wp2_with fail
      go_ret
      exact ⟨rfl, HZ8.out⟩
  · have ho2 : (((s.size : Int) % 2) == 1) = false := by simp; omega
    clear hodd
    rcases hall with h | h | h | ⟨k, h, hk3, hdv⟩
    · subst h
      go_wp2_with fail
      go_ret
      exact ⟨rfl, HZ8.out⟩
    · subst h
      go_wp2_with fail
      go_ret
      exact ⟨rfl, HZ8.out⟩
    · subst h
      go_wp2_with fail
      go_ret
      exact ⟨rfl, HZ8.out⟩
    · subst h
      have k0 : ((k : Int) == 0) = false := by simp; omega
      have k1 : ((k : Int) == 1) = false := by simp; omega
      have k2 : ((k : Int) == 2) = false := by simp; omega
      generalize hd1 : divB k a' = d1 at hdv
      generalize hd2 : divB k b' = d2 at hdv
      generalize hd3 : divB k c' = d3 at hdv
      have HD1 := Lib.hid (fun W => by have := HDV.out k a' W; rw [hd1] at this; exact this)
      have HD2 := Lib.hid (fun W => by have := HDV.out k b' W; rw [hd2] at this; exact this)
      have HD3 := Lib.hid (fun W => by have := HDV.out k c' W; rw [hd3] at this; exact this)
      clear hd1 hd2 hd3 hk3
      cases d1 with
      | true =>
        clear hdv
        go_wp2_with (go_at_call 24; (with_reducible refine (HD1.out _).mono ?_); rintro e w' ⟨rfl, rfl⟩)
        go_ret
        exact ⟨rfl, HZ8.out⟩
      | false =>
        cases d2 with
        | true =>
          clear hdv
          go_wp2_with (go_at_call 24; (with_reducible first | refine (HD1.out _).mono ?_ | refine (HD2.out _).mono ?_); rintro e w' ⟨rfl, rfl⟩)
          go_ret
          exact ⟨rfl, HZ8.out⟩
        | false =>
          have hd : d3 = true := by simpa using hdv
          subst hd
          clear hdv
          go_wp2_with (go_at_call 24; (with_reducible first | refine (HD1.out _).mono ?_ | refine (HD2.out _).mono ?_ | refine (HD3.out _).mono ?_); rintro e w' ⟨rfl, rfl⟩)
          go_ret
          exact ⟨rfl, HZ8.out⟩
end Go.Proofs.Ytogchohpnbeldaa
