/- TilesCorners: the law. -/
import Derived.Test.YtbioehaapcnjmaaGreatCor6
import Derived.Test.YtbioehaapcnjmaaGreatSnA
namespace Go.Proofs.YtbioehaapcnjmaaGreat
open Go.RowKit Go.Shelf Cx

/-- a list that is not empty, as its cells -/
theorem ListAt.cells {w : World} {B : Nat} {v : Value} {l : List ByteArray} (h : ListAt w B v l) (h0 : 0 < l.length) : ∃ g cap, v = .slice (some ⟨g, 0, none⟩) l.length cap ∧ ∀ W, Below w.heap.size w W → ∀ i, i < l.length → W.cell? ⟨g, i, none⟩ = some (.string (l.getD i ⟨#[]⟩)) := by
  rcases h with ⟨rfl, _⟩ | ⟨g, cap, ex, h1, h2, h3, h4, h5⟩
  · simp at h0
  · refine ⟨g, cap, h2, fun W hW i hi => ?_⟩
    have h6 := h5.below hW h5.lt
    rw [h6.cell, List.getElem?_append_left (by rw [cellsT_length]; exact hi), cellsT_get hi]

/-- what the program and the reference answer of a corner that is allowed -/
structure CorF (a b c m : Nat) (s T : ByteArray) (N : Nat) (L : List ByteArray) : Prop where
  len : L.length = N
  n1 : 4 ≤ N
  n2 : N ≤ 24
  head : L.getD 0 ⟨#[]⟩ = T
  ar : ∀ W, Calls Tryz.prog 7 #[.agg #[.int .i64 a, .int .i64 b, .int .i64 c], .string s, .int .i64 m] W fun e w' => ∃ tb, e = .returned (.tuple #[.slice (some ⟨tb, 0, none⟩) N N, .int .i64 0]) ∧ SBlk w' tb 9 (cellsT L) ∧ Below W.heap.size W w'
  ra : ∀ W, Calls Tryz.prog 9 #[.agg #[.int .i64 a, .int .i64 b, .int .i64 c], .string s, .int .i64 m] W fun e w' => ∃ v, e = .returned v ∧ ListAt w' W.heap.size v L ∧ Below W.heap.size W w'
  ar2 : ∀ i, i < N → (L.getD i ⟨#[]⟩).size ≤ 60 → ∀ W, Calls Tryz.prog 7 #[.agg #[.int .i64 a, .int .i64 b, .int .i64 c], .string (L.getD i ⟨#[]⟩), .int .i64 m] W fun e w' => ∃ tb, e = .returned (.tuple #[.slice (some ⟨tb, 0, none⟩) N N, .int .i64 0]) ∧ SBlk w' tb 9 (cellsT L) ∧ Below W.heap.size W w'
  sw : ∀ W pa pb ca cb, (∀ i, i < N → W.cell? ⟨pa, i, none⟩ = some (.string (L.getD i ⟨#[]⟩))) → (∀ i, i < N → W.cell? ⟨pb, i, none⟩ = some (.string (L.getD i ⟨#[]⟩))) →
    Calls Tryz.prog 10 #[.slice (some ⟨pa, 0, none⟩) N ca, .slice (some ⟨pb, 0, none⟩) N cb] W fun e w' => e = .returned (.bool true) ∧ Below W.heap.size W w'

theorem cor_facts {a b c m : Nat} (hg : Good a b c) (hm : m < 3) (h0 : ordC a b c m ≠ 0) {s : ByteArray} (hs : checkS s = 0) (f : G (Mo a b c)) (hf : Foot (Mo a b c) (sideA m) (sideB m) (elW a b c s) f) (hlf : Low f) (hlen : ln f ≤ 60) :
    ∃ N L, CorF a b c m s (tile f) N L := by
  have hM := Mo_ords hg.la hg.lb hg.lc
  have cs := checkS_low hs
  have hlim := Mo_lim hg.la hg.lb hg.lc (sideA m) (sideB m)
  rw [← ordC_eq a b c hm] at hlim
  have hLl : ((List.range (2 * ordC a b c m)).map (ringT m f)).length = 2 * ordC a b c m := by simp
  have hget : ∀ i, i < 2 * ordC a b c m → ((List.range (2 * ordC a b c m)).map (ringT m f)).getD i ⟨#[]⟩ = ringT m f i := fun i hi => by simp [List.getD_eq_getElem?_getD, List.getElem?_range hi]
  refine ⟨2 * ordC a b c m, (List.range (2 * ordC a b c m)).map (ringT m f), hLl, by rcases hlim with h | h <;> omega, by rcases hlim with h | h <;> omega, ?_, fun W => Around_foot hg hm h0 s hs f hf W, fun W => ?_, fun i hi hsz W => ?_, fun W pa pb ca cb h1 h2 => ?_⟩
  · rw [hget 0 (by omega)]
    show tile (f * mk []) = tile f
    have : (f * mk [] : G (Mo a b c)) = f := mul_one f
    rw [this]
  · have h := Around_R hg hm h0 (bytesN s) cs.1 (by rw [bytesN_length]; omega) f hf hlf (by omega) W
    rw [str_bytes] at h
    exact h
  · rw [hget i hi] at hsz ⊢
    have hy : Low (f * mk (alt (sideA m) (sideB m) i) : G (Mo a b c)) := by
      refine red_low (u := nf (f * mk (alt (sideA m) (sideB m) i) : G (Mo a b c))) (v := nf f ++ alt (sideA m) (sideB m) i) ?_ ?_ (nf_greedy _).red
      · rw [mk_nf, ← mk_mul, mk_nf]
      · intro y hy
        rcases List.mem_append.1 hy with h | h
        · exact hlf y h
        · exact alt_low (side_lt hm).1 (side_lt hm).2 i y h
    have hck : checkS (ringT m f i) = 0 := check_str hy (by have h := hsz; unfold ringT tile at h; rw [str_size] at h; exact h)
    have hel : elW a b c (ringT m f i) = f * mk (alt (sideA m) (sideB m) i) := by
      unfold elW ringT tile
      rw [bytesN_str (low256 hy), mk_nf]
    refine Around_foot hg hm h0 _ hck f ?_ W
    rw [hel]
    exact ⟨hf.no1, hf.no2, _, (two_alt (sideA m) (sideB m) i).1, rfl⟩
  · have h := sameW_eq ((List.range (2 * ordC a b c m)).map (ringT m f)) pa pb ca cb W (by rw [hLl]; rcases hlim with h | h <;> omega) (by rw [hLl]; exact h1) (by rw [hLl]; exact h2)
    rw [hLl] at h
    exact h

set_option maxRecDepth 100000 in
set_option maxHeartbeats 8000000 in
theorem TilesCorners_any (a b c : Int) (s : ByteArray) (m i : Int) (hs : s.size ≤ 9223372036854775807) (w : World) :
    Calls Tryz.prog 3 #[.agg #[.int .i64 a, .int .i64 b, .int .i64 c], .string s, .int .i64 m, .int .i64 i] w fun e w' => e = .returned (.bool true) ∧ Below w.heap.size w w' := by
  have HS := Lib.hid saneT_any
  have HA := Lib.hid (fun W => Asked_any a b c s m hs W)
  have HE := Lib.hid (And.intro (fun h W => First_err a b c s m hs h W) (fun h W => Around_err a b c s m hs h W))
  have HZero : Hid (askS a b c s m = 0 → errorsS a b c [s] = 0 ∧ 0 ≤ m ∧ m ≤ 2 ∧ ordC a.toNat b.toNat c.toNat m.toNat ≠ 0) := Lib.hid (fun h => by
    unfold askS at h
    by_cases h0 : errorsS a b c [s] = 0
    · rw [if_pos h0] at h
      by_cases h1 : m < 0 ∨ 2 < m
      · rw [if_pos h1] at h; cases h
      · rw [if_neg h1] at h
        by_cases h2 : ordC a.toNat b.toNat c.toNat m.toNat = 0
        · rw [if_pos h2] at h; cases h
        · exact ⟨h0, by omega, by omega, h2⟩
    · rw [if_neg h0] at h; exact absurd h h0)
  generalize askS a b c s m = er at *
  clear hs
  have HK := Lib.hid (SBlk.new w 23 [.int .i64 a, .int .i64 b, .int .i64 c])
  have HZ := Lib.hid ((Below.refl w.heap.size w).alloc (Nat.le_refl _) (.cells #[.int .i64 a, .int .i64 b, .int .i64 c] 23))
  go_enter Tryz.func3, Tryz.ntmps3
  go_wp2_with fail
  refine (HA.out _).mono ?_
  rintro e W1 ⟨rfl, hb⟩
  have hk := kept3 HK.out hb
  replace HK := Lib.hid hk.1
  have x0 := hk.2.1
  have x1 := hk.2.2.1
  have x2 := hk.2.2.2
  clear hk
  replace HZ := Lib.hid (HZ.out.trans (hb.mono HZ.out.size))
  clear hb HA
  rcases Decidable.em (¬ er = 0) with her | her
  · have her2 : (er != 0) = true := by simpa using her
    have HE1 := Lib.hid (HE.out.1 her)
    have HE2 := Lib.hid (HE.out.2 her)
    clear her HZero HE
    go_wp2_with fail
    refine (HE1.out _).mono ?_
    rintro e W2 ⟨rfl, hb⟩
    have hk := kept3 HK.out hb
    replace HK := Lib.hid hk.1
    replace x0 := hk.2.1
    replace x1 := hk.2.2.1
    replace x2 := hk.2.2.2
    clear hk
    replace HZ := Lib.hid (HZ.out.trans (hb.mono HZ.out.size))
    clear hb
    go_wp2_with fail
    refine (HE2.out _).mono ?_
    rintro e W3 ⟨rfl, hb⟩
    replace HZ := Lib.hid (HZ.out.trans (hb.mono HZ.out.size))
    clear hb x0 x1 x2
    go_wp2_with fail
    refine (HS.out _).mono ?_
    rintro e YE ⟨rfl, hb⟩
    replace HZ := Lib.hid (HZ.out.trans (hb.mono HZ.out.size))
    clear hb
    go_wp2_with fail
    go_ret
    exact ⟨rfl, HZ.out⟩
  clear HE
  obtain ⟨h1, h2, h3, h4⟩ := HZero.out (Decidable.of_not_not her)
  clear HZero
  have her := Decidable.of_not_not her
  subst her
  obtain ⟨hal, hch⟩ := errorsS_zero h1
  obtain ⟨hg, ea, eb, ec⟩ := allowed_good hal
  have hcs := hch s (by simp)
  clear h1 hal hch
  generalize a.toNat = a' at *
  generalize b.toNat = b' at *
  generalize c.toNat = c' at *
  obtain ⟨m', rfl⟩ : ∃ k : Nat, m = (k : Int) := ⟨m.toNat, by omega⟩
  rw [Int.toNat_natCast] at h4
  subst ea eb ec
  have HFi := Lib.hid (fun W => First_ok hg (by omega) h4 s hcs W)
  have HCf := Lib.hid (fun f h1 h2 h3 => cor_facts hg (by omega) h4 hcs f h1 h2 h3)
  clear hg h2 h3 h4 hcs
  go_wp2_with fail
  refine (HFi.out _).mono ?_
  rintro e W2 ⟨f, rfl, ⟨g1, g2, g3⟩, hb⟩
  obtain ⟨N, L, hF⟩ := HCf.out f g1 g2 g3
  have HF := Lib.hid hF
  generalize tile f = T at *
  have hk := kept3 HK.out hb
  replace HK := Lib.hid hk.1
  replace x0 := hk.2.1
  replace x1 := hk.2.2.1
  replace x2 := hk.2.2.2
  clear hk
  replace HZ := Lib.hid (HZ.out.trans (hb.mono HZ.out.size))
  clear hb g1 g2 g3 HFi HCf hF
  go_wp2_with fail
  refine (HF.out.ar _).mono ?_
  rintro e W3 ⟨tb, rfl, hl, hb⟩
  have hk := kept3 HK.out hb
  replace HK := Lib.hid hk.1
  replace x0 := hk.2.1
  replace x1 := hk.2.2.1
  replace x2 := hk.2.2.2
  clear hk
  replace HZ := Lib.hid (HZ.out.trans (hb.mono HZ.out.size))
  have HL := Lib.hid hl
  clear hb hl
  go_wp2_with fail
  refine (HF.out.ra _).mono ?_
  rintro e W4 ⟨v, rfl, hv, hb⟩
  have hk := kept3 HK.out hb
  replace HK := Lib.hid hk.1
  replace x0 := hk.2.1
  replace x1 := hk.2.2.1
  replace x2 := hk.2.2.2
  clear hk
  replace HZ := Lib.hid (HZ.out.trans (hb.mono HZ.out.size))
  replace HL := Lib.hid (HL.out.below hb HL.out.lt)
  obtain ⟨og, ocap, hov, hoc⟩ := hv.cells (by rw [HF.out.len]; have := HF.out.n1; omega)
  rw [HF.out.len] at hov hoc
  subst hov
  have HOC := Lib.hid hoc
  have c0 := hoc W4 (Below.refl _ _) 0 (by have := HF.out.n1; omega)
  rw [HF.out.head] at c0
  have hN0 : (0 : Int) < (N : Int) := by have := HF.out.n1; omega
  have hN1 : 0 < N := by have := HF.out.n1; omega
  clear hb hv hoc
  have hlc : ∀ W, Below W4.heap.size W4 W → ∀ k, k < N → W.cell? ⟨tb, k, none⟩ = some (.string (L.getD k ⟨#[]⟩)) := fun W hW k hk => by
    have h := HL.out.below hW HL.out.lt
    rw [h.cell, cellsT_get (by rw [HF.out.len]; exact hk)]
  have HLC := Lib.hid hlc
  clear hlc HL
  go_wp2_with fail
  refine (HF.out.sw _ tb og N ocap (HLC.out _ (Below.refl _ _)) (HOC.out _ (Below.refl _ _))).mono ?_
  rintro e W5 ⟨rfl, hb⟩
  have hk := kept3 HK.out hb
  replace HK := Lib.hid hk.1
  replace x0 := hk.2.1
  replace x1 := hk.2.2.1
  replace x2 := hk.2.2.2
  clear hk
  replace HZ := Lib.hid (HZ.out.trans (hb.mono HZ.out.size))
  have HOC5 := Lib.hid (fun W (hW : Below W5.heap.size W5 W) => HOC.out W (hb.trans (hW.mono hb.size)))
  clear hb c0 hN0 HLC HOC
  rcases Decidable.em (i < 0) with hi | hi
  · go_wp2_with fail
    refine (HS.out _).mono ?_
    rintro e YE ⟨rfl, hb⟩
    replace HZ := Lib.hid (HZ.out.trans (hb.mono HZ.out.size))
    clear hb
    go_wp2_with fail
    go_ret
    exact ⟨rfl, HZ.out⟩
  obtain ⟨i', rfl⟩ : ∃ k : Nat, i = (k : Int) := ⟨i.toNat, by omega⟩
  clear hi
  have hi0 : ¬ ((i' : Int) < 0) := by omega
  rcases Decidable.em (N ≤ i') with hi | hi
  · have hi2 : (N : Int) ≤ (i' : Int) := by omega
    go_wp2_with fail
    refine (HS.out _).mono ?_
    rintro e YE ⟨rfl, hb⟩
    replace HZ := Lib.hid (HZ.out.trans (hb.mono HZ.out.size))
    clear hb
    go_wp2_with fail
    go_ret
    exact ⟨rfl, HZ.out⟩
  have hiN : i' < N := by omega
  have hiN2 : (i' : Int) < (N : Int) := by omega
  have c1 := HOC5.out W5 (Below.refl _ _) i' hiN
  obtain ⟨O, hO⟩ : ∃ z, L.getD i' ⟨#[]⟩ = z := ⟨_, rfl⟩
  rw [hO] at c1
  rcases Decidable.em (60 < O.size) with hz | hz
  · have hz2 : (60 : Int) < (O.size : Int) := by omega
    clear hO
    go_wp2_with fail
    refine (HS.out _).mono ?_
    rintro e YE ⟨rfl, hb⟩
    replace HZ := Lib.hid (HZ.out.trans (hb.mono HZ.out.size))
    clear hb
    go_wp2_with fail
    go_ret
    exact ⟨rfl, HZ.out⟩
  have hz2 : decide ((60 : Int) < (O.size : Int)) = false := decide_eq_false (by omega)
  have hz3 : ¬ 60 < O.size := hz
  have har2 := HF.out.ar2 i' hiN (by rw [hO]; omega)
  rw [hO] at har2
  have HA2 := Lib.hid har2
  have HO := Lib.hid hO
  clear hO har2 hz
  have HD := Lib.hid (show (W5.drew.cell? ⟨w.heap.size, 0, none⟩ = some (.int .i64 a') ∧ W5.drew.cell? ⟨w.heap.size, 1, none⟩ = some (.int .i64 b') ∧ W5.drew.cell? ⟨w.heap.size, 2, none⟩ = some (.int .i64 c')) ∧ W5.drew.cell? ⟨og, i', none⟩ = some (.string O) from ⟨⟨x0, x1, x2⟩, c1⟩)
  go_wp2_with fail
  go_region_held3 (fun w' => (w'.cell? ⟨w.heap.size, 0, none⟩ = some (.int .i64 a') ∧ w'.cell? ⟨w.heap.size, 1, none⟩ = some (.int .i64 b') ∧ w'.cell? ⟨w.heap.size, 2, none⟩ = some (.int .i64 c')) ∧ w'.cell? ⟨og, i', none⟩ = some (.string O))
    (first | (with_reducible assumption) | (with_reducible exact HD.out) | (with_reducible exact kp) | (go_keep; done))
    (first
      | (go_at_call 7; (with_reducible refine (HA2.out _).mono ?_); rintro e W6 ⟨tb2, rfl, hl2, hb⟩; replace hb := below_undrew hb; have kc := HOC5.out W6 hb i' hiN; rw [HO.out] at kc; have kp := And.intro (kept3 HK.out hb).2 kc; have HZ6 := Lib.hid (And.intro (HZ.out.trans (hb.mono HZ.out.size)) (And.intro hl2 hb)); clear hb kc hl2))
  all_goals
    clear x0 x1 x2 c1 kp HD
    go_wp2_with fail
    refine (HS.out _).mono ?_
    rintro e W7 ⟨rfl, hb⟩
    have HZ7 := Lib.hid (And.intro (HZ6.out.1.trans (hb.mono HZ6.out.1.size)) (And.intro (HZ6.out.2.1.below hb HZ6.out.2.1.lt) (HZ6.out.2.2.trans (hb.mono HZ6.out.2.2.size))))
    clear hb
    go_wp2_with fail
    refine (HF.out.sw _ tb2 og N ocap (fun k hk => by rw [HZ7.out.2.1.cell, cellsT_get (by rw [HF.out.len]; exact hk)]) (HOC5.out _ HZ7.out.2.2)).mono ?_
    rintro e W8 ⟨rfl, hb⟩
    have HZ8 := Lib.hid (HZ7.out.1.trans (hb.mono HZ7.out.1.size))
    clear hb
    go_wp2_with fail
    go_ret
    exact ⟨rfl, HZ8.out⟩
end Go.Proofs.YtbioehaapcnjmaaGreat
