/- WordsLeast. -/
import Derived.Test.YtbioehaapcnjmaaZa
import Derived.Test.YtbioehaapcnjmaaYT
namespace Go.Proofs.Ytbioehaapcnjmaa
open Go.RowKit Go.Shelf Cx

set_option maxRecDepth 100000 in
set_option maxHeartbeats 8000000 in
theorem WordsLeast_any (a b c : Int) (s v : ByteArray) (k : Int) (hs : s.size ≤ 9223372036854775807) (hv : v.size ≤ 9223372036854775807) (w : World) :
    Calls Try.prog 5 #[.agg #[.int .i64 a, .int .i64 b, .int .i64 c], .string s, .string v, .int .i64 k] w fun e w' => e = .returned (.bool true) ∧ Below w.heap.size w w' := by
  have HS := Lib.hid sane_any
  have HE := Lib.hid (fun (vb : Nat) (W : World) (h : SBlk W vb 9 [.string s, .string v]) => Errors_any a b c vb [s, v] W h (by simp) (fun t ht => by
    simp only [List.mem_cons, List.not_mem_nil, or_false] at ht
    rcases ht with rfl | rfl <;> assumption))
  have HZero := Lib.hid (fun h : errorsS a b c [s, v] = 0 => errorsS_zero h)
  generalize errorsS a b c [s, v] = er at *
  go_enter Try.func5, Try.ntmps5
  go_wp2_with fail
  have HZ := Lib.hid ((Below.refl w.heap.size w).alloc (Nat.le_refl _) (.cells #[.int .i64 a, .int .i64 b, .int .i64 c] 23))
  have HK := Lib.hid (SBlk.new w 23 [.int .i64 a, .int .i64 b, .int .i64 c])
  refine (HS.out _).mono ?_
  rintro e W1 ⟨rfl, hb⟩
  have hk := kept3 HK.out hb
  replace HK := Lib.hid hk.1
  have x0 := hk.2.1
  have x1 := hk.2.2.1
  have x2 := hk.2.2.2
  clear hk
  replace HZ := Lib.hid (HZ.out.trans (hb.mono HZ.out.size))
  clear hb
  go_wp2_with fail
  replace HK := Lib.hid (HK.out.alloc (.cells #[.string s, .string v] 9))
  have HV := Lib.hid (SBlk.new W1 9 [.string s, .string v])
  replace HZ := Lib.hid (HZ.out.alloc HZ.out.size (.cells #[.string s, .string v] 9))
  refine (HE.out _ _ HV.out).mono ?_
  rintro e W2 ⟨rfl, hb⟩
  have hk := kept3 HK.out hb
  replace HK := Lib.hid hk.1
  replace x0 := hk.2.1
  replace x1 := hk.2.2.1
  replace x2 := hk.2.2.2
  clear hk
  replace HZ := Lib.hid (HZ.out.trans (hb.mono HZ.out.size))
  clear hb HE
  rcases Decidable.em (¬ er = 0) with her | her
  · clear HZero
    go_wp2_with fail
    go_ret
    exact ⟨rfl, HZ.out⟩
  obtain ⟨h1, h2⟩ := HZero.out (Decidable.of_not_not her)
  clear HZero
  have her := Decidable.of_not_not her
  subst her
  obtain ⟨hg, ea, eb, ec⟩ := allowed_good h1
  clear h1
  generalize a.toNat = a' at *
  generalize b.toNat = b' at *
  generalize c.toNat = c' at *
  subst ea eb ec
  obtain ⟨S, m, r, hF⟩ := least_facts hg (h2 s (by simp)) (h2 v (by simp))
  have HF := Lib.hid hF
  have d1 : ¬ s.size < S.size := by have := hF.len; omega
  have d2 : (((s.size : Int) - (S.size : Int)) % 2 != 0) = false := by
    have := hF.len
    have h3 : ((s.size : Int) - (S.size : Int)) % 2 = 0 := by omega
    rw [h3]; rfl
  have hl := hF.len
  have hy := hF.yes
  have hn := hF.no
  clear h2 hF hg her
  go_wp2_with fail
  refine (HF.out.first _).mono ?_
  rintro e W3 ⟨rfl, hb⟩
  have hk := kept3 HK.out hb
  replace HK := Lib.hid hk.1
  replace x0 := hk.2.1
  replace x1 := hk.2.2.1
  replace x2 := hk.2.2.2
  clear hk
  replace HZ := Lib.hid (HZ.out.trans (hb.mono HZ.out.size))
  clear hb
  go_wp2_with fail
  refine (HF.out.own _).mono ?_
  rintro e W4 ⟨rfl, hb⟩
  have hk := kept3 HK.out hb
  replace HK := Lib.hid hk.1
  replace x0 := hk.2.1
  replace x1 := hk.2.2.1
  replace x2 := hk.2.2.2
  clear hk
  replace HZ := Lib.hid (HZ.out.trans (hb.mono HZ.out.size))
  clear hb d1 d2
  have hcase : (∃ n : Nat, k = (n : Int) ∧ n < S.size) ∨ k < 0 ∨ (0 ≤ k ∧ (S.size : Int) ≤ k) := by
    by_cases h1 : 0 ≤ k
    · by_cases h2 : k < S.size
      · exact .inl ⟨k.toNat, by omega, by omega⟩
      · exact .inr (.inr ⟨h1, by omega⟩)
    · exact .inr (.inl (by omega))
  rcases hcase with ⟨n, rfl, hcut⟩ | hcut | ⟨hcut, hcut2⟩
  · have hle : n ≤ S.size := Nat.le_of_lt hcut
    have HP := Lib.hid (HF.out.pre n hle)
    have HQ := Lib.hid (HF.out.post n hle)
    go_wp2_with fail
    go_region_held3 (fun w' => w'.cell? ⟨w.heap.size, 0, none⟩ = some (.int .i64 a') ∧ w'.cell? ⟨w.heap.size, 1, none⟩ = some (.int .i64 b') ∧ w'.cell? ⟨w.heap.size, 2, none⟩ = some (.int .i64 c'))
      (first | (with_reducible assumption) | exact kp | (go_keep; done))
      (first | (go_at_call 12; (with_reducible refine (HP.out _).mono ?_); rintro e W5 ⟨rfl, hb⟩; try replace hb := below_undrew hb; have HK5 := Lib.hid (kept3 HK.out hb).1; have kp := (kept3 HK.out hb).2; have HZ5 := Lib.hid (HZ.out.trans (hb.mono HZ.out.size)); clear hb))
    go_wp2_with fail
    go_region_held3 (fun w' => w'.cell? ⟨w.heap.size, 0, none⟩ = some (.int .i64 a') ∧ w'.cell? ⟨w.heap.size, 1, none⟩ = some (.int .i64 b') ∧ w'.cell? ⟨w.heap.size, 2, none⟩ = some (.int .i64 c'))
      (first | (with_reducible assumption) | exact kp | (go_keep; done))
      (first | (go_at_call 12; (with_reducible refine (HQ.out _).mono ?_); rintro e W6 ⟨rfl, hb⟩; try replace hb := below_undrew hb; have HK6 := Lib.hid (kept3 HK5.out hb).1; have kp := (kept3 HK5.out hb).2; have HZ6 := Lib.hid (HZ5.out.trans (hb.mono HZ5.out.size)); clear hb))
    obtain ⟨z0, z1, z2⟩ := kp
    go_wp2_with fail
    refine (HF.out.whole _).mono ?_
    rintro e W7 ⟨rfl, hb⟩
    have HK7 := Lib.hid (kept3 HK6.out hb).1
    obtain ⟨y0, y1, y2⟩ := (kept3 HK6.out hb).2
    have HZ7 := Lib.hid (HZ6.out.trans (hb.mono HZ6.out.size))
    clear hb
    go_wp2_with fail
    refine (HF.out.two _).mono ?_
    rintro e W8 ⟨rfl, hb⟩
    have HK8 := Lib.hid (kept3 HK7.out hb).1
    obtain ⟨u0, u1, u2⟩ := (kept3 HK7.out hb).2
    have HZ8 := Lib.hid (HZ7.out.trans (hb.mono HZ7.out.size))
    clear hb
    cases r with
    | true =>
      rcases hy rfl with h | ⟨h, h'⟩
      · go_wp2_with fail
        go_ret
        exact ⟨rfl, HZ8.out⟩
      · go_wp2_with fail
        go_ret
        exact ⟨rfl, HZ8.out⟩
    | false =>
      have h := hn rfl
      go_wp2_with fail
      refine (HF.out.other _).mono ?_
      rintro e W9 ⟨rfl, hb⟩
      have HZ9 := Lib.hid (HZ8.out.trans (hb.mono HZ8.out.size))
      clear hb
      go_wp2_with fail
      go_ret
      exact ⟨rfl, HZ9.out⟩
  · have hle : S.size ≤ S.size := Nat.le_refl _
    have HP := Lib.hid HF.out.whole
    have HQ := HF.out.post S.size hle
    simp only [ByteArray.extract_same] at HQ
    replace HQ := Lib.hid HQ
    go_wp2_with fail
    go_region_held3 (fun w' => w'.cell? ⟨w.heap.size, 0, none⟩ = some (.int .i64 a') ∧ w'.cell? ⟨w.heap.size, 1, none⟩ = some (.int .i64 b') ∧ w'.cell? ⟨w.heap.size, 2, none⟩ = some (.int .i64 c'))
      (first | (with_reducible assumption) | exact kp | (go_keep; done))
      (first | (go_at_call 12; (with_reducible refine (HP.out _).mono ?_); rintro e W5 ⟨rfl, hb⟩; try replace hb := below_undrew hb; have HK5 := Lib.hid (kept3 HK.out hb).1; have kp := (kept3 HK.out hb).2; have HZ5 := Lib.hid (HZ.out.trans (hb.mono HZ.out.size)); clear hb))
    go_wp2_with fail
    go_region_held3 (fun w' => w'.cell? ⟨w.heap.size, 0, none⟩ = some (.int .i64 a') ∧ w'.cell? ⟨w.heap.size, 1, none⟩ = some (.int .i64 b') ∧ w'.cell? ⟨w.heap.size, 2, none⟩ = some (.int .i64 c'))
      (first | (with_reducible assumption) | exact kp | (go_keep; done))
      (first | (go_at_call 12; (with_reducible refine (HQ.out _).mono ?_); rintro e W6 ⟨rfl, hb⟩; try replace hb := below_undrew hb; have HK6 := Lib.hid (kept3 HK5.out hb).1; have kp := (kept3 HK5.out hb).2; have HZ6 := Lib.hid (HZ5.out.trans (hb.mono HZ5.out.size)); clear hb))
    obtain ⟨z0, z1, z2⟩ := kp
    go_wp2_with fail
    refine (HF.out.whole _).mono ?_
    rintro e W7 ⟨rfl, hb⟩
    have HK7 := Lib.hid (kept3 HK6.out hb).1
    obtain ⟨y0, y1, y2⟩ := (kept3 HK6.out hb).2
    have HZ7 := Lib.hid (HZ6.out.trans (hb.mono HZ6.out.size))
    clear hb
    go_wp2_with fail
    refine (HF.out.two _).mono ?_
    rintro e W8 ⟨rfl, hb⟩
    have HK8 := Lib.hid (kept3 HK7.out hb).1
    obtain ⟨u0, u1, u2⟩ := (kept3 HK7.out hb).2
    have HZ8 := Lib.hid (HZ7.out.trans (hb.mono HZ7.out.size))
    clear hb
    cases r with
    | true =>
      rcases hy rfl with h | ⟨h, h'⟩
      · go_wp2_with fail
        go_ret
        exact ⟨rfl, HZ8.out⟩
      · go_wp2_with fail
        go_ret
        exact ⟨rfl, HZ8.out⟩
    | false =>
      have h := hn rfl
      go_wp2_with fail
      refine (HF.out.other _).mono ?_
      rintro e W9 ⟨rfl, hb⟩
      have HZ9 := Lib.hid (HZ8.out.trans (hb.mono HZ8.out.size))
      clear hb
      go_wp2_with fail
      go_ret
      exact ⟨rfl, HZ9.out⟩
  · have hle : S.size ≤ S.size := Nat.le_refl _
    have HP := Lib.hid HF.out.whole
    have HQ := HF.out.post S.size hle
    simp only [ByteArray.extract_same] at HQ
    replace HQ := Lib.hid HQ
    go_wp2_with fail
    go_region_held3 (fun w' => w'.cell? ⟨w.heap.size, 0, none⟩ = some (.int .i64 a') ∧ w'.cell? ⟨w.heap.size, 1, none⟩ = some (.int .i64 b') ∧ w'.cell? ⟨w.heap.size, 2, none⟩ = some (.int .i64 c'))
      (first | (with_reducible assumption) | exact kp | (go_keep; done))
      (first | (go_at_call 12; (with_reducible refine (HP.out _).mono ?_); rintro e W5 ⟨rfl, hb⟩; try replace hb := below_undrew hb; have HK5 := Lib.hid (kept3 HK.out hb).1; have kp := (kept3 HK.out hb).2; have HZ5 := Lib.hid (HZ.out.trans (hb.mono HZ.out.size)); clear hb))
    go_wp2_with fail
    go_region_held3 (fun w' => w'.cell? ⟨w.heap.size, 0, none⟩ = some (.int .i64 a') ∧ w'.cell? ⟨w.heap.size, 1, none⟩ = some (.int .i64 b') ∧ w'.cell? ⟨w.heap.size, 2, none⟩ = some (.int .i64 c'))
      (first | (with_reducible assumption) | exact kp | (go_keep; done))
      (first | (go_at_call 12; (with_reducible refine (HQ.out _).mono ?_); rintro e W6 ⟨rfl, hb⟩; try replace hb := below_undrew hb; have HK6 := Lib.hid (kept3 HK5.out hb).1; have kp := (kept3 HK5.out hb).2; have HZ6 := Lib.hid (HZ5.out.trans (hb.mono HZ5.out.size)); clear hb))
    obtain ⟨z0, z1, z2⟩ := kp
    go_wp2_with fail
    refine (HF.out.whole _).mono ?_
    rintro e W7 ⟨rfl, hb⟩
    have HK7 := Lib.hid (kept3 HK6.out hb).1
    obtain ⟨y0, y1, y2⟩ := (kept3 HK6.out hb).2
    have HZ7 := Lib.hid (HZ6.out.trans (hb.mono HZ6.out.size))
    clear hb
    go_wp2_with fail
    refine (HF.out.two _).mono ?_
    rintro e W8 ⟨rfl, hb⟩
    have HK8 := Lib.hid (kept3 HK7.out hb).1
    obtain ⟨u0, u1, u2⟩ := (kept3 HK7.out hb).2
    have HZ8 := Lib.hid (HZ7.out.trans (hb.mono HZ7.out.size))
    clear hb
    cases r with
    | true =>
      rcases hy rfl with h | ⟨h, h'⟩
      · go_wp2_with fail
        go_ret
        exact ⟨rfl, HZ8.out⟩
      · go_wp2_with fail
        go_ret
        exact ⟨rfl, HZ8.out⟩
    | false =>
      have h := hn rfl
      go_wp2_with fail
      refine (HF.out.other _).mono ?_
      rintro e W9 ⟨rfl, hb⟩
      have HZ9 := Lib.hid (HZ8.out.trans (hb.mono HZ8.out.size))
      clear hb
      go_wp2_with fail
      go_ret
      exact ⟨rfl, HZ9.out⟩
end Go.Proofs.Ytbioehaapcnjmaa
