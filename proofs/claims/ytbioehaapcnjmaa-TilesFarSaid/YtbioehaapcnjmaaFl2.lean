/- TilesFar: the law. -/
import Derived.Test.YtbioehaapcnjmaaFmA
namespace Go.Proofs.Ytbioehaapcnjmaa
open Go.RowKit Go.Shelf Cx

set_option maxRecDepth 100000 in
set_option maxHeartbeats 8000000 in
theorem TilesFar_any (a b c : Int) (u v s : ByteArray) (sd : Int) (hu : u.size ≤ 9223372036854775807) (hv : v.size ≤ 9223372036854775807) (hs : s.size ≤ 9223372036854775807) (w : World) :
    Calls Try.prog 9 #[.agg #[.int .i64 a, .int .i64 b, .int .i64 c], .string u, .string v, .string s, .int .i64 sd] w fun e w' => e = .returned (.bool true) ∧ Below w.heap.size w w' := by
  have HS := Lib.hid saneT_any
  have HE := Lib.hid (fun (vb : Nat) (W : World) (h : SBlk W vb 9 [.string u, .string v]) => Errors_any a b c vb [u, v] W h (by simp) (fun t ht => by
    simp only [List.mem_cons, List.not_mem_nil, or_false] at ht
    rcases ht with rfl | rfl <;> omega))
  have HCW := Lib.hid (fun W => CheckWord_any s W (by omega))
  have HFe := Lib.hid (fun h W => Far_err a b c u v (by intro x hx; simp only [List.mem_cons, List.not_mem_nil, or_false] at hx; rcases hx with rfl | rfl <;> assumption) h W)
  have HZero := Lib.hid (fun h : errorsS a b c [u, v] = 0 => errorsS_zero h)
  generalize errorsS a b c [u, v] = er at *
  clear hu hv hs
  have HK := Lib.hid ((SBlk.new w 23 [.int .i64 a, .int .i64 b, .int .i64 c]).alloc (.cells #[.string u, .string v] 9))
  have hz0 := (Below.refl w.heap.size w).alloc (Nat.le_refl _) (.cells #[.int .i64 a, .int .i64 b, .int .i64 c] 23)
  have HZ := Lib.hid (hz0.alloc hz0.size (.cells #[.string u, .string v] 9))
  clear hz0
  go_enter Try.func9, Try.ntmps9
  go_wp2_with fail
  refine (HE.out _ _ (SBlk.new' _ _ [.string u, .string v] _ (by simp))).mono ?_
  rintro e W1 ⟨rfl, hb⟩
  have hk := kept3 HK.out hb
  replace HK := Lib.hid hk.1
  have x0 := hk.2.1
  have x1 := hk.2.2.1
  have x2 := hk.2.2.2
  clear hk
  replace HZ := Lib.hid (HZ.out.trans (hb.mono HZ.out.size))
  clear hb HE
  rcases Decidable.em (¬ er = 0) with her | her
  · have her2 : (er != 0) = true := by simpa using her
    replace HFe := Lib.hid (HFe.out her)
    clear her HZero
    go_wp2_with fail
    refine (HFe.out _).mono ?_
    rintro e W2 ⟨rfl, hb⟩
    replace HZ := Lib.hid (HZ.out.trans (hb.mono HZ.out.size))
    clear hb x0 x1 x2
    go_wp2_with fail
    refine (HS.out _).mono ?_
    rintro e YE ⟨rfl, hb⟩
    replace HZ := Lib.hid (HZ.out.trans (hb.mono HZ.out.size))
    clear hb
    go_wp2_with fail
    go_ret
    exact ⟨rfl, HZ.out⟩
  clear HFe
  obtain ⟨h1, h2⟩ := HZero.out (Decidable.of_not_not her)
  clear HZero
  have her := Decidable.of_not_not her
  subst her
  obtain ⟨hg, ea, eb, ec⟩ := allowed_good h1
  clear h1
  generalize a.toNat = a' at *
  generalize b.toNat = b' at *
  generalize c.toNat = c' at *
  subst ea eb ec
  have hcu := h2 u (by simp)
  have hcv := h2 v (by simp)
  obtain ⟨T, N, U, V, hF⟩ := far_facts hg hcu hcv
  have hway := hF.way
  have HG := Lib.hid (fun hcs : checkS s = 0 => And.intro (checkS_low hcs).2 (far_third hg hcu hcv hcs hway))
  generalize checkS s = ck at *
  have HF := Lib.hid hF
  have sum1 := hF.s1
  have hsz := (checkS_low hcu).2
  have hsv := (checkS_low hcv).2
  have HSZ := Lib.hid (And.intro hsz hsv)
  clear h2 hF hg hcu hcv hway hsz hsv
  go_wp2_with fail
  refine (HF.out.f1 _).mono ?_
  rintro e Y0 ⟨rfl, hb⟩
  have hk := kept3 HK.out hb
  replace HK := Lib.hid hk.1
  replace x0 := hk.2.1
  replace x1 := hk.2.2.1
  replace x2 := hk.2.2.2
  clear hk
  replace HZ := Lib.hid (HZ.out.trans (hb.mono HZ.out.size))
  clear hb
  have hdr := (Below.refl Y0.heap.size Y0).drew
  have HD := Lib.hid (kept3 HK.out hdr).2
  clear hdr
  go_wp2_with fail
  go_region_held3 (fun w' => w'.cell? ⟨w.heap.size, 0, none⟩ = some (.int .i64 a') ∧ w'.cell? ⟨w.heap.size, 1, none⟩ = some (.int .i64 b') ∧ w'.cell? ⟨w.heap.size, 2, none⟩ = some (.int .i64 c'))
    (first | (with_reducible assumption) | (with_reducible exact HD.out) | (with_reducible exact kp) | (go_keep; done))
    (first
      | (go_at_call 23; (with_reducible refine (HF.out.tu _).mono ?_); rintro e w' ⟨rfl, rfl⟩)
      | (go_at_call 32; (with_reducible refine (HF.out.w1 _).mono ?_); rintro e Y1 ⟨rfl, hb⟩; replace hb := below_undrew hb; have HK1 := Lib.hid (kept3 HK.out hb).1; have kp := (kept3 HK.out hb).2; have HZ1 := Lib.hid (HZ.out.trans (hb.mono HZ.out.size)); clear hb))
  obtain ⟨z0, z1, z2⟩ := kp
  clear sum1 x0 x1 x2 HK HZ HD
  have HK := HK1
  have HZ := HZ1
  have x0 := z0
  have x1 := z1
  have x2 := z2
  clear HK1 HZ1 z0 z1 z2
  go_wp2_with fail
  refine (HF.out.f2 _).mono ?_
  rintro e Y2 ⟨rfl, hb⟩
  have hk := kept3 HK.out hb
  replace HK := Lib.hid hk.1
  replace x0 := hk.2.1
  replace x1 := hk.2.2.1
  replace x2 := hk.2.2.2
  clear hk
  replace HZ := Lib.hid (HZ.out.trans (hb.mono HZ.out.size))
  clear hb
  have hdr := (Below.refl Y2.heap.size Y2).drew
  have HD := Lib.hid (kept3 HK.out hdr).2
  clear hdr
  have hcase : ∃ q, ((N.size : Int) == 0) = q ∧ (U.toList == V.toList) = q := by
    rcases HF.out.eq with ⟨h, h2⟩ | ⟨h, h2⟩
    · exact ⟨true, by simp [h], by rw [h2]; exact beq_self_eq_true _⟩
    · exact ⟨false, by simpa using h, Bool.eq_false_iff.2 fun h3 => h2 (eqB_iff.1 h3)⟩
  obtain ⟨q, q1, q2⟩ := hcase
  go_wp2_with fail
  go_region_held3 (fun w' => w'.cell? ⟨w.heap.size, 0, none⟩ = some (.int .i64 a') ∧ w'.cell? ⟨w.heap.size, 1, none⟩ = some (.int .i64 b') ∧ w'.cell? ⟨w.heap.size, 2, none⟩ = some (.int .i64 c'))
    (first | (with_reducible assumption) | (with_reducible exact HD.out) | (with_reducible exact kp2) | (with_reducible exact kp) | (go_keep; done))
    (first
      | (go_at_call 32; (with_reducible first | refine (HF.out.w2 Y2.drew).mono ?_ | refine (HF.out.w3 Y2.drew).mono ?_); rintro e Y3 ⟨rfl, hb⟩; replace hb := below_undrew hb; have kp := (kept3 HK.out hb).2; have HK3 := Lib.hid (kept3 HK.out hb).1; have HZ3 := Lib.hid (HZ.out.trans (hb.mono HZ.out.size)); clear hb)
      | (go_at_call 32; (with_reducible first | refine (HF.out.w2 Y3).mono ?_ | refine (HF.out.w3 Y3).mono ?_); rintro e Y4 ⟨rfl, hb⟩; have kp2 := (kept3 HK3.out hb).2; have HK4 := Lib.hid (kept3 HK3.out hb).1; have HZ4 := Lib.hid (HZ3.out.trans (hb.mono HZ3.out.size)); clear hb))
  all_goals
    clear x0 x1 x2 HK HZ HD kp HK3 HZ3
    have HK := HK4
    have HZ := HZ4
    obtain ⟨x0, x1, x2⟩ := kp2
    clear HK4 HZ4
    go_wp2_with fail
    refine (HCW.out _).mono ?_
    rintro e w' ⟨rfl, rfl⟩
    clear q1 q2 HCW
    rcases Decidable.em (ck = 0) with hck | hck
    · obtain ⟨hss, A, B, hG⟩ := HG.out hck
      subst hck
      have HGG := Lib.hid hG
      have HSS := Lib.hid hss
      have sum2 := hG.s2
      have sum3 := hG.s3
      have hwS : IntKind.i64.wrap ((A : Int) + (B : Int)) = (A : Int) + (B : Int) := IntWalk.i64_in _ (by have := hG.sa; have := hG.sb; omega)
      have hgt : decide ((A : Int) + (B : Int) < (N.size : Int)) = false := decide_eq_false (by have := hG.tri; omega)
      have hw1 : IntKind.i64.wrap ((s.size : Int) + (u.size : Int)) = (s.size : Int) + (u.size : Int) := IntWalk.i64_in _ (by have := HSZ.out.1; omega)
      have hw2 : IntKind.i64.wrap ((s.size : Int) + (v.size : Int)) = (s.size : Int) + (v.size : Int) := IntWalk.i64_in _ (by have := HSZ.out.2; omega)
      clear hG hss HG
      go_wp2_with fail
      refine (HGG.out.f3 _).mono ?_
      rintro e Y5 ⟨rfl, hb⟩
      have hk := kept3 HK.out hb
      replace HK := Lib.hid hk.1
      replace x0 := hk.2.1
      replace x1 := hk.2.2.1
      replace x2 := hk.2.2.2
      clear hk
      replace HZ := Lib.hid (HZ.out.trans (hb.mono HZ.out.size))
      clear hb
      go_wp2_with fail
      refine (HGG.out.f4 _).mono ?_
      rintro e Y6 ⟨rfl, hb⟩
      have hk := kept3 HK.out hb
      replace HK := Lib.hid hk.1
      replace x0 := hk.2.1
      replace x1 := hk.2.2.1
      replace x2 := hk.2.2.2
      clear hk
      replace HZ := Lib.hid (HZ.out.trans (hb.mono HZ.out.size))
      clear hb
      have hrest : ∀ W, Below w.heap.size w W → True := fun _ _ => trivial
      clear hrest
      by_cases hin : s.size + u.size ≤ 60 ∧ s.size + v.size ≤ 60
      · have hi1 : (s.size : Int) + (u.size : Int) ≤ 60 := by omega
        have hi2 : (s.size : Int) + (v.size : Int) ≤ 60 := by omega
        have HM := Lib.hid (HGG.out.f5 hin.1 hin.2)
        clear hin
        go_wp2_with fail
        refine (HM.out _).mono ?_
        rintro e Y7 ⟨rfl, hb⟩
        have hk := kept3 HK.out hb
        replace HK := Lib.hid hk.1
        replace x0 := hk.2.1
        replace x1 := hk.2.2.1
        replace x2 := hk.2.2.2
        clear hk
        replace HZ := Lib.hid (HZ.out.trans (hb.mono HZ.out.size))
        clear hb
        clear HM hi1 hi2 sum2 sum3
        rcases Decidable.em (sd < 0) with hsd | hsd
        · go_wp2_with fail
          refine (HS.out _).mono ?_
          rintro e YE ⟨rfl, hb⟩
          replace HZ := Lib.hid (HZ.out.trans (hb.mono HZ.out.size))
          clear hb
          go_wp2_with fail
          go_ret
          exact ⟨rfl, HZ.out⟩
        have hs1 : decide (sd < 0) = false := decide_eq_false hsd
        rcases Decidable.em (2 < sd) with hsd2 | hsd2
        · clear hsd
          go_wp2_with fail
          refine (HS.out _).mono ?_
          rintro e YE ⟨rfl, hb⟩
          replace HZ := Lib.hid (HZ.out.trans (hb.mono HZ.out.size))
          clear hb
          go_wp2_with fail
          go_ret
          exact ⟨rfl, HZ.out⟩
        have hs2 : decide (2 < sd) = false := decide_eq_false hsd2
        rcases Decidable.em (60 ≤ u.size) with hu6 | hu6
        · have hu7 : (60 : Int) ≤ (u.size : Int) := by omega
          clear hsd hsd2 hu6
          go_wp2_with fail
          refine (HS.out _).mono ?_
          rintro e YE ⟨rfl, hb⟩
          replace HZ := Lib.hid (HZ.out.trans (hb.mono HZ.out.size))
          clear hb
          go_wp2_with fail
          go_ret
          exact ⟨rfl, HZ.out⟩
        have hs3 : decide ((60 : Int) ≤ (u.size : Int)) = false := decide_eq_false (by omega)
        obtain ⟨i, hi, rfl⟩ : ∃ i : Nat, i < 3 ∧ sd = (i : Int) := ⟨sd.toNat, by omega, by omega⟩
        have HO := Lib.hid (HGG.out.f6 i hi (by omega))
        have sum4 := HGG.out.s4 i
        have hr := run_str (Y7.alloc (.cells #[.int .u8 (i : Int)] 5)) Y7.heap.size 0 1 [i] (by intro y hy; simp at hy; omega) (by
          intro j hj
          obtain rfl : j = 0 := by simpa using hj
          rw [(SBlk.new Y7 5 [.int .u8 (i : Int)]).cell]
          rfl)
        simp only [List.length_cons, List.length_nil, Nat.zero_add] at hr
        have hwr : IntKind.u8.wrap (i : Int) = i := by
          have : i = 0 ∨ i = 1 ∨ i = 2 := by omega
          rcases this with rfl | rfl | rfl <;> decide
        replace HZ := Lib.hid (HZ.out.alloc HZ.out.size (.cells #[.int .u8 (i : Int)] 5))
        clear hsd hsd2 hu6 hi HGG
        go_wp2_with fail
        refine (HO.out _).mono ?_
        rintro e Y8 ⟨rfl, hb⟩
        replace HZ := Lib.hid (HZ.out.trans (hb.mono HZ.out.size))
        clear hb hr x0 x1 x2
        go_wp2_with fail
        refine (HS.out _).mono ?_
        rintro e YE ⟨rfl, hb⟩
        replace HZ := Lib.hid (HZ.out.trans (hb.mono HZ.out.size))
        clear hb
        go_wp2_with fail
        go_ret
        exact ⟨rfl, HZ.out⟩
      · have hib : ((s.size : Int) + (u.size : Int) ≤ 60) ∧ decide ((s.size : Int) + (v.size : Int) ≤ 60) = false ∨ decide ((s.size : Int) + (u.size : Int) ≤ 60) = false := by
          by_cases h1 : (s.size : Int) + (u.size : Int) ≤ 60
          · exact .inl ⟨h1, decide_eq_false (by omega)⟩
          · exact .inr (decide_eq_false h1)
        clear hin sum2 sum3
        rcases hib with ⟨hi1, hi2⟩ | hi1
        · rcases Decidable.em (sd < 0) with hsd | hsd
          · go_wp2_with fail
            refine (HS.out _).mono ?_
            rintro e YE ⟨rfl, hb⟩
            replace HZ := Lib.hid (HZ.out.trans (hb.mono HZ.out.size))
            clear hb
            go_wp2_with fail
            go_ret
            exact ⟨rfl, HZ.out⟩
          have hs1 : decide (sd < 0) = false := decide_eq_false hsd
          rcases Decidable.em (2 < sd) with hsd2 | hsd2
          · clear hsd
            go_wp2_with fail
            refine (HS.out _).mono ?_
            rintro e YE ⟨rfl, hb⟩
            replace HZ := Lib.hid (HZ.out.trans (hb.mono HZ.out.size))
            clear hb
            go_wp2_with fail
            go_ret
            exact ⟨rfl, HZ.out⟩
          have hs2 : decide (2 < sd) = false := decide_eq_false hsd2
          rcases Decidable.em (60 ≤ u.size) with hu6 | hu6
          · have hu7 : (60 : Int) ≤ (u.size : Int) := by omega
            clear hsd hsd2 hu6
            go_wp2_with fail
            refine (HS.out _).mono ?_
            rintro e YE ⟨rfl, hb⟩
            replace HZ := Lib.hid (HZ.out.trans (hb.mono HZ.out.size))
            clear hb
            go_wp2_with fail
            go_ret
            exact ⟨rfl, HZ.out⟩
          have hs3 : decide ((60 : Int) ≤ (u.size : Int)) = false := decide_eq_false (by omega)
          obtain ⟨i, hi, rfl⟩ : ∃ i : Nat, i < 3 ∧ sd = (i : Int) := ⟨sd.toNat, by omega, by omega⟩
          have HO := Lib.hid (HGG.out.f6 i hi (by omega))
          have sum4 := HGG.out.s4 i
          have hr := run_str (Y6.alloc (.cells #[.int .u8 (i : Int)] 5)) Y6.heap.size 0 1 [i] (by intro y hy; simp at hy; omega) (by
            intro j hj
            obtain rfl : j = 0 := by simpa using hj
            rw [(SBlk.new Y6 5 [.int .u8 (i : Int)]).cell]
            rfl)
          simp only [List.length_cons, List.length_nil, Nat.zero_add] at hr
          have hwr : IntKind.u8.wrap (i : Int) = i := by
            have : i = 0 ∨ i = 1 ∨ i = 2 := by omega
            rcases this with rfl | rfl | rfl <;> decide
          replace HZ := Lib.hid (HZ.out.alloc HZ.out.size (.cells #[.int .u8 (i : Int)] 5))
          clear hsd hsd2 hu6 hi HGG
          go_wp2_with fail
          refine (HO.out _).mono ?_
          rintro e Y8 ⟨rfl, hb⟩
          replace HZ := Lib.hid (HZ.out.trans (hb.mono HZ.out.size))
          clear hb hr x0 x1 x2
          go_wp2_with fail
          refine (HS.out _).mono ?_
          rintro e YE ⟨rfl, hb⟩
          replace HZ := Lib.hid (HZ.out.trans (hb.mono HZ.out.size))
          clear hb
          go_wp2_with fail
          go_ret
          exact ⟨rfl, HZ.out⟩
        · rcases Decidable.em (sd < 0) with hsd | hsd
          · go_wp2_with fail
            refine (HS.out _).mono ?_
            rintro e YE ⟨rfl, hb⟩
            replace HZ := Lib.hid (HZ.out.trans (hb.mono HZ.out.size))
            clear hb
            go_wp2_with fail
            go_ret
            exact ⟨rfl, HZ.out⟩
          have hs1 : decide (sd < 0) = false := decide_eq_false hsd
          rcases Decidable.em (2 < sd) with hsd2 | hsd2
          · clear hsd
            go_wp2_with fail
            refine (HS.out _).mono ?_
            rintro e YE ⟨rfl, hb⟩
            replace HZ := Lib.hid (HZ.out.trans (hb.mono HZ.out.size))
            clear hb
            go_wp2_with fail
            go_ret
            exact ⟨rfl, HZ.out⟩
          have hs2 : decide (2 < sd) = false := decide_eq_false hsd2
          rcases Decidable.em (60 ≤ u.size) with hu6 | hu6
          · have hu7 : (60 : Int) ≤ (u.size : Int) := by omega
            clear hsd hsd2 hu6
            go_wp2_with fail
            refine (HS.out _).mono ?_
            rintro e YE ⟨rfl, hb⟩
            replace HZ := Lib.hid (HZ.out.trans (hb.mono HZ.out.size))
            clear hb
            go_wp2_with fail
            go_ret
            exact ⟨rfl, HZ.out⟩
          have hs3 : decide ((60 : Int) ≤ (u.size : Int)) = false := decide_eq_false (by omega)
          obtain ⟨i, hi, rfl⟩ : ∃ i : Nat, i < 3 ∧ sd = (i : Int) := ⟨sd.toNat, by omega, by omega⟩
          have HO := Lib.hid (HGG.out.f6 i hi (by omega))
          have sum4 := HGG.out.s4 i
          have hr := run_str (Y6.alloc (.cells #[.int .u8 (i : Int)] 5)) Y6.heap.size 0 1 [i] (by intro y hy; simp at hy; omega) (by
            intro j hj
            obtain rfl : j = 0 := by simpa using hj
            rw [(SBlk.new Y6 5 [.int .u8 (i : Int)]).cell]
            rfl)
          simp only [List.length_cons, List.length_nil, Nat.zero_add] at hr
          have hwr : IntKind.u8.wrap (i : Int) = i := by
            have : i = 0 ∨ i = 1 ∨ i = 2 := by omega
            rcases this with rfl | rfl | rfl <;> decide
          replace HZ := Lib.hid (HZ.out.alloc HZ.out.size (.cells #[.int .u8 (i : Int)] 5))
          clear hsd hsd2 hu6 hi HGG
          go_wp2_with fail
          refine (HO.out _).mono ?_
          rintro e Y8 ⟨rfl, hb⟩
          replace HZ := Lib.hid (HZ.out.trans (hb.mono HZ.out.size))
          clear hb hr x0 x1 x2
          go_wp2_with fail
          refine (HS.out _).mono ?_
          rintro e YE ⟨rfl, hb⟩
          replace HZ := Lib.hid (HZ.out.trans (hb.mono HZ.out.size))
          clear hb
          go_wp2_with fail
          go_ret
          exact ⟨rfl, HZ.out⟩
    · have hck2 : (ck != 0) = true := by simpa using hck
      clear hck HG
      go_wp2_with fail
      refine (HS.out _).mono ?_
      rintro e YE ⟨rfl, hb⟩
      replace HZ := Lib.hid (HZ.out.trans (hb.mono HZ.out.size))
      clear hb
      go_wp2_with fail
      go_ret
      exact ⟨rfl, HZ.out⟩
end Go.Proofs.Ytbioehaapcnjmaa
