/- The fraction of the series. -/
import Derived.Test.YtcpeeopdaakbaaaGreatTg1
import Derived.Test.YtcpeeopdaakbaaaGreatRvA
import Derived.Test.YtcpeeopdaakbaaaGreatTaX
namespace Go.Proofs.YtcpeeopdaakbaaaGreat
open Go.RowKit Go.Shelf Cx

structure SerAt (l : List Nat) (n lb : Nat) (w wr : World) (N D : List Int) (nb db : Nat) : Prop where
  r1 : SBlk wr (n + 1) 173 [.slice none 0 0, .slice none 0 0]
  r2 : SBlk wr (n + 1 + 1) 3 (cellsK .i64 [1, 1])
  t : SBlk wr (n + 1 + 1 + 1 + 1 + 1) 173 [.slice (some ⟨nb, 0, none⟩) N.length N.length, .slice (some ⟨db, 0, none⟩) D.length D.length]
  ls : SBlk wr lb 3 (l.map fun (x : Nat) => Value.int .i64 (x : Int))
  nn : SBlk wr nb 3 (cellsK .i64 N)
  dd : SBlk wr db 3 (cellsK .i64 D)
  ne : nb ≠ db
  bn : n + 1 + 1 + 1 + 1 + 1 + 1 ≤ nb
  bd : n + 1 + 1 + 1 + 1 + 1 + 1 ≤ db
  bb : n + 1 + 1 + 1 + 1 + 1 + 1 ≤ lb
  bl : Below n w wr

set_option maxRecDepth 100000 in
set_option maxHeartbeats 4000000 in
theorem series_i64 (a b c : Nat) (ha : a ≤ 12) (hb : b ≤ 12) (hc : c ≤ 12) (x : Int) (hx : (-3 : Int) = x) (w : World) :
    Calls Tryz.prog 116 #[.agg #[.int .i64 a, .int .i64 b, .int .i64 c]] w fun e w' => ∃ nb db, e = .returned (.agg #[.slice (some ⟨nb, 0, none⟩) (revS (serS wrap64 x [a, b, c] 3).2).length (revS (serS wrap64 x [a, b, c] 3).2).length, .slice (some ⟨db, 0, none⟩) (revS (serS wrap64 x [a, b, c] 3).1).length (revS (serS wrap64 x [a, b, c] 3).1).length]) ∧
      SBlk w' nb 3 (cellsK .i64 (revS (serS wrap64 x [a, b, c] 3).2)) ∧ SBlk w' db 3 (cellsK .i64 (revS (serS wrap64 x [a, b, c] 3).1)) ∧ w.heap.size ≤ nb ∧ w.heap.size ≤ db ∧ Below w.heap.size w w' := by
  have HL := Lib.hid (And.intro ha (And.intro hb hc))
  have HX := Lib.hid hx
  clear ha hb hc hx
  go_enter Tryz.func116, Tryz.ntmps116
  go_wp2_with fail
  rw [HX.out]
  obtain ⟨n, hn⟩ : ∃ n, w.heap.size = n := ⟨_, rfl⟩
  have HNN := Lib.hid hn
  have z0 := hn
  have q0 := SBlk.new' w 23 [.int .i64 a, .int .i64 b, .int .i64 c] (n) z0
  have y0 := (Below.refl w.heap.size w).alloc (Nat.le_refl _) (.cells #[.int .i64 a, .int .i64 b, .int .i64 c] 23)
  obtain ⟨W1, hW1⟩ : ∃ z, w.alloc (.cells #[.int .i64 a, .int .i64 b, .int .i64 c] 23) = z := ⟨_, rfl⟩
  have z1 : W1.heap.size = n + 1 := by rw [← hW1]; simp; omega
  rw [show ((w.alloc (.cells ([.int .i64 a, .int .i64 b, .int .i64 c] : List Value).toArray 23)) : World) = W1 from hW1] at q0
  rw [hW1] at y0
  rw [hW1, hn]
  have q1 := SBlk.new' W1 173 [.slice none 0 0, .slice none 0 0] (n + 1) z1
  have y1 := (Below.refl W1.heap.size W1).alloc (Nat.le_refl _) (.cells #[.slice none 0 0, .slice none 0 0] 173)
  obtain ⟨W2, hW2⟩ : ∃ z, W1.alloc (.cells #[.slice none 0 0, .slice none 0 0] 173) = z := ⟨_, rfl⟩
  have z2 : W2.heap.size = n + 1 + 1 := by rw [← hW2]; simp; omega
  rw [show ((W1.alloc (.cells ([.slice none 0 0, .slice none 0 0] : List Value).toArray 173)) : World) = W2 from hW2] at q1
  rw [hW2] at y1
  rw [hW2]
  have q2 := SBlk.new' W2 3 [.int .i64 1, .int .i64 1] (n + 1 + 1) z2
  have y2 := (Below.refl W2.heap.size W2).alloc (Nat.le_refl _) (.cells #[.int .i64 1, .int .i64 1] 3)
  obtain ⟨W3, hW3⟩ : ∃ z, W2.alloc (.cells #[.int .i64 1, .int .i64 1] 3) = z := ⟨_, rfl⟩
  have z3 : W3.heap.size = n + 1 + 1 + 1 := by rw [← hW3]; simp; omega
  rw [show ((W2.alloc (.cells ([.int .i64 1, .int .i64 1] : List Value).toArray 3)) : World) = W3 from hW3] at q2
  rw [hW3] at y2
  rw [hW3]
  have q3 := SBlk.new' W3 3 [.int .i64 1] (n + 1 + 1 + 1) z3
  have y3 := (Below.refl W3.heap.size W3).alloc (Nat.le_refl _) (.cells #[.int .i64 1] 3)
  obtain ⟨W4, hW4⟩ : ∃ z, W3.alloc (.cells #[.int .i64 1] 3) = z := ⟨_, rfl⟩
  have z4 : W4.heap.size = n + 1 + 1 + 1 + 1 := by rw [← hW4]; simp; omega
  rw [show ((W3.alloc (.cells ([.int .i64 1] : List Value).toArray 3)) : World) = W4 from hW4] at q3
  rw [hW4] at y3
  rw [hW4]
  have q4 := SBlk.new' W4 3 [.int .i64 1] (n + 1 + 1 + 1 + 1) z4
  have y4 := (Below.refl W4.heap.size W4).alloc (Nat.le_refl _) (.cells #[.int .i64 1] 3)
  obtain ⟨W5, hW5⟩ : ∃ z, W4.alloc (.cells #[.int .i64 1] 3) = z := ⟨_, rfl⟩
  have z5 : W5.heap.size = n + 1 + 1 + 1 + 1 + 1 := by rw [← hW5]; simp; omega
  rw [show ((W4.alloc (.cells ([.int .i64 1] : List Value).toArray 3)) : World) = W5 from hW5] at q4
  rw [hW5] at y4
  rw [hW5]
  have q5 := SBlk.new' W5 173 [.slice (some ⟨n + 1 + 1 + 1, 0, none⟩) 1 1, .slice (some ⟨n + 1 + 1 + 1 + 1, 0, none⟩) 1 1] (n + 1 + 1 + 1 + 1 + 1) z5
  have y5 := (Below.refl W5.heap.size W5).alloc (Nat.le_refl _) (.cells #[.slice (some ⟨n + 1 + 1 + 1, 0, none⟩) 1 1, .slice (some ⟨n + 1 + 1 + 1 + 1, 0, none⟩) 1 1] 173)
  obtain ⟨W6, hW6⟩ : ∃ z, W5.alloc (.cells #[.slice (some ⟨n + 1 + 1 + 1, 0, none⟩) 1 1, .slice (some ⟨n + 1 + 1 + 1 + 1, 0, none⟩) 1 1] 173) = z := ⟨_, rfl⟩
  have z6 : W6.heap.size = n + 1 + 1 + 1 + 1 + 1 + 1 := by rw [← hW6]; simp; omega
  rw [show ((W5.alloc (.cells ([.slice (some ⟨n + 1 + 1 + 1, 0, none⟩) 1 1, .slice (some ⟨n + 1 + 1 + 1 + 1, 0, none⟩) 1 1] : List Value).toArray 173)) : World) = W6 from hW6] at q5
  rw [hW6] at y5
  rw [hW6]
  have q6 := SBlk.new' W6 3 [.int .i64 x] (n + 1 + 1 + 1 + 1 + 1 + 1) z6
  have y6 := (Below.refl W6.heap.size W6).alloc (Nat.le_refl _) (.cells #[.int .i64 x] 3)
  obtain ⟨W7, hW7⟩ : ∃ z, W6.alloc (.cells #[.int .i64 x] 3) = z := ⟨_, rfl⟩
  have z7 : W7.heap.size = n + 1 + 1 + 1 + 1 + 1 + 1 + 1 := by rw [← hW7]; simp; omega
  rw [show ((W6.alloc (.cells ([.int .i64 x] : List Value).toArray 3)) : World) = W7 from hW7] at q6
  rw [hW7] at y6
  rw [hW7]
  have r0 := ((((((q0).next y1).next y2).next y3).next y4).next y5).next y6
  have r1 := (((((q1).next y2).next y3).next y4).next y5).next y6
  have r2 := ((((q2).next y3).next y4).next y5).next y6
  have r3 := (((q3).next y4).next y5).next y6
  have r4 := ((q4).next y5).next y6
  have r5 := (q5).next y6
  have r6 := q6
  rw [hn] at y0
  have yy : Below n w W7 := ((((((y0).trans (y1.mono (by omega))).trans (y2.mono (by omega))).trans (y3.mono (by omega))).trans (y4.mono (by omega))).trans (y5.mono (by omega))).trans (y6.mono (by omega))
  have hpl := plus_i64 [1] [1] [x] [1, 1] (n + 1 + 1 + 1) 0 1 (n + 1 + 1 + 1 + 1) 0 1 (n + 1 + 1 + 1 + 1 + 1 + 1) 0 1 (n + 1 + 1) 0 2 W7 (RowK.of r3) (RowK.of r4) (RowK.of r6) (RowK.of r2) (by simp) (by simp) (by simp) (by simp) (by simp) (by simp) (by simp) (by simp)
  rw [z7, show ([1] : List Int).length = 1 from rfl, show ([x] : List Int).length = 1 from rfl, show ([1, 1] : List Int).length = 2 from rfl] at hpl
  have HQ := Lib.hid (And.intro (And.intro r0 (And.intro r1 (And.intro r2 r5))) (And.intro yy z7))
  clear q0 q1 q2 q3 q4 q5 q6 y0 y1 y2 y3 y4 y5 y6 r0 r1 r2 r3 r4 r5 r6 yy hW1 hW2 hW3 hW4 hW5 hW6 hW7 z0 z1 z2 z3 z4 z5 z6 z7
  (with_reducible refine hpl.mono ?_)
  clear hpl
  rintro e w8 ⟨nb, db, rfl, h1, h2, h3, h4, hB, hne⟩
  have hle : W7.heap.size = n + 1 + 1 + 1 + 1 + 1 + 1 + 1 := HQ.out.2.2
  obtain ⟨⟨r0, r1, r2, r5⟩, yy, _⟩ := HQ.out
  have s0 := r0.below hB (by omega)
  have s1 := r1.below hB (by omega)
  have s2 := r2.below hB (by omega)
  have s5 := r5.below hB (by omega)
  have yB : Below n w w8 := yy.trans (hB.mono (by omega))
  obtain ⟨N, hN⟩ : ∃ N, plusN wrap64 [1] [1] [x] [1, 1] = N := ⟨_, rfl⟩
  obtain ⟨D, hD⟩ : ∃ D, plusD wrap64 [1] [1, 1] = D := ⟨_, rfl⟩
  rw [hN] at h1 ⊢
  rw [hD] at h2 ⊢
  clear hle r0 r1 r2 r5 yy
  have c0 := s0.cell 0
  have c1 := s0.cell 1
  have c2 := s0.cell 2
  have t0 := s5.cell 0
  have t1 := s5.cell 1
  have f0 := s5.frozen 0
  have f1 := s5.frozen 1
  simp only [List.getElem?_cons_zero, List.getElem?_cons_succ] at c0 c1 c2 t0 t1
  have HS := Lib.hid (And.intro (And.intro (And.intro s0 (And.intro s1 (And.intro s2 s5))) (And.intro h1 (And.intro h2 (And.intro h3 (And.intro h4 hne))))) (And.intro (And.intro hN hD) (And.intro yB hn)))
  clear s0 s1 s2 s5 h1 h2 h3 h4 hne hN hD yB hB HQ
  go_wp2_with fail
  obtain ⟨lb, hlb⟩ : ∃ lb, w8.heap.size = lb := ⟨_, rfl⟩
  have hat : SerAt [a, b, c] n lb w (((w8.setCell ⟨n + 1 + 1 + 1 + 1 + 1, 0, none⟩ (.slice (some ⟨nb, 0, none⟩) N.length N.length)).setCell ⟨n + 1 + 1 + 1 + 1 + 1, 1, none⟩ (.slice (some ⟨db, 0, none⟩) D.length D.length)).alloc (.cells #[.int .i64 a, .int .i64 b, .int .i64 c] 3)) N D nb db := by
    obtain ⟨⟨⟨s0, s1, s2, s5⟩, h1, h2, h3, h4, hne⟩, _, yB, _⟩ := HS.out
    have hlt := s5.lt
    refine ⟨((s1.far (by first | omega | (simp; done) | (simp; omega)) _).far (by first | omega | (simp; done) | (simp; omega)) _).alloc _, ((s2.far (by first | omega | (simp; done) | (simp; omega)) _).far (by first | omega | (simp; done) | (simp; omega)) _).alloc _, ((s5.set 0 _).set 1 _).alloc _, SBlk.new' _ _ [.int .i64 a, .int .i64 b, .int .i64 c] _ (by first | exact hlb | (simp; exact hlb)), ((h1.far (by first | omega | (simp; done) | (simp; omega)) _).far (by first | omega | (simp; done) | (simp; omega)) _).alloc _, ((h2.far (by first | omega | (simp; done) | (simp; omega)) _).far (by first | omega | (simp; done) | (simp; omega)) _).alloc _, hne, by omega, by omega, by omega, ?_⟩
    exact ((yB.setCell (p := ⟨n + 1 + 1 + 1 + 1 + 1, 0, none⟩) (by first | omega | (simp; done) | (simp; omega)) _).setCell (p := ⟨n + 1 + 1 + 1 + 1 + 1, 1, none⟩) (by first | omega | (simp; done) | (simp; omega)) _).alloc (by have := yB.size; first | omega | (simp; omega)) _
  have hN := HS.out.2.1.1
  have hD := HS.out.2.1.2
  have hin : SerAt [a, b, c] n lb w (((w8.setCell ⟨n + 1 + 1 + 1 + 1 + 1, 0, none⟩ (.slice (some ⟨nb, 0, none⟩) N.length N.length)).setCell ⟨n + 1 + 1 + 1 + 1 + 1, 1, none⟩ (.slice (some ⟨db, 0, none⟩) D.length D.length)).alloc (.cells #[.int .i64 a, .int .i64 b, .int .i64 c] 3)) (serS wrap64 x [a, b, c] 0).1 (serS wrap64 x [a, b, c] 0).2 nb db := by
    show SerAt _ _ _ _ _ (plusN wrap64 [1] [1] [x] [1, 1]) (plusD wrap64 [1] [1, 1]) _ _
    rw [hN, hD]
    exact hat
  have HI := Lib.hid hin
  rw [hlb]
  clear hat hN hD hin HS c0 c1 c2 t0 t1 f0 f1
  go_loopg [26] 3 (fun g i wr => ∃ k nb db : Nat, k ≤ 3 ∧ g = 3 - k ∧ i = .int .i64 (k : Int) ∧ SerAt [a, b, c] n lb w wr (serS wrap64 x [a, b, c] k).1 (serS wrap64 x [a, b, c] k).2 nb db)
  case atStart => exact ⟨0, nb, db, Nat.zero_le _, rfl, rfl, HI.out⟩
  case round =>
    obtain ⟨k, nb, db, hk, rfl, rfl, hS⟩ := hrel
    clear HI
    by_cases hk3 : k < 3
    · have hki : (k : Int) < 3 := by omega
      obtain ⟨m, hm⟩ : ∃ m, [a, b, c].getD k 0 = m := ⟨_, rfl⟩
      have hm12 : m ≤ 12 := by
        rw [← hm]
        have := HL.out
        match k, hk3 with
        | 0, _ => exact this.1
        | 1, _ => exact this.2.1
        | 2, _ => exact this.2.2
      have ck := hS.ls.cell k
      have hck : ([a, b, c].map fun (x : Nat) => Value.int .i64 (x : Int))[k]? = some (.int .i64 (m : Int)) := by
        rw [← hm]
        match k, hk3 with
        | 0, _ => rfl
        | 1, _ => rfl
        | 2, _ => rfl
      rw [hck] at ck
      have hs1 : serS wrap64 x [a, b, c] (k + 1) = serStep wrap64 (serS wrap64 x [a, b, c] k) m := by rw [← hm]; rfl
      have hln := serS_len wrap64 x [a, b, c] (by
        intro q
        have := HL.out
        match q with
        | 0 => exact this.1
        | 1 => exact this.2.1
        | 2 => exact this.2.2
        | q + 3 => simp) k
      obtain ⟨N, hN⟩ : ∃ N, (serS wrap64 x [a, b, c] k).1 = N := ⟨_, rfl⟩
      obtain ⟨D, hD⟩ : ∃ D, (serS wrap64 x [a, b, c] k).2 = D := ⟨_, rfl⟩
      rw [hN, hD] at hS hln
      by_cases hm0 : m = 0
      · subst hm0
        have HS := Lib.hid (And.intro hS (And.intro hs1 (And.intro hN hD)))
        clear hS hs1 hN hD hck hln hm
        go_wp2_with fail
        go_roundg (3 - (k + 1))
        case measure => omega
        case rel =>
          obtain ⟨hS, hs1, hN, hD⟩ := HS.out
          refine ⟨k + 1, nb, db, by omega, rfl, by simp, ?_⟩
          rw [hs1]
          show SerAt _ _ _ _ _ (serS wrap64 x [a, b, c] k).1 (serS wrap64 x [a, b, c] k).2 _ _
          rw [hN, hD]
          exact hS
      · have hmi : ((m : Int) != 0) = true := by simp; omega
        have hmi2 : ¬ m = 0 := hm0
        have hstep : serStep wrap64 (serS wrap64 x [a, b, c] k) m = (plusN wrap64 N D [1] (prodS wrap64 [1, 1] (List.replicate m 1) 2), plusD wrap64 D (prodS wrap64 [1, 1] (List.replicate m 1) 2)) := by
          unfold serStep; rw [if_neg hm0, hN, hD]
        have hSl : (prodS wrap64 [1, 1] (List.replicate m 1) 2).length = m + 1 := by rw [prodS_length, List.length_replicate]; simp; omega
        obtain ⟨S, hSS⟩ : ∃ S, prodS wrap64 [1, 1] (List.replicate m 1) 2 = S := ⟨_, rfl⟩
        rw [hSS] at hstep hSl
        have hnd : nb ≠ db := hS.ne
        have t0 := hS.t.cell 0
        have t1 := hS.t.cell 1
        simp only [List.getElem?_cons_zero, List.getElem?_cons_succ] at t0 t1
        have cR : ∀ rb W, Below wr.heap.size wr W → SBlk W rb 3 [.int .i64 1] → Calls Tryz.prog 167 #[.slice (some ⟨rb, 0, none⟩) 1 1, .int .i64 m] W fun e w' => ∃ pb, e = .returned (.slice (some ⟨pb, 0, none⟩) m m) ∧ Hid (SBlk w' pb 3 (cellsK .i64 (List.replicate m 1)) ∧ Below wr.heap.size wr w' ∧ Below W.heap.size W w') := by
          intro rb W hW hb
          refine (repeat_i64 m rb (by omega) hm12 W hb.lt (hb.cell 0)).mono ?_
          rintro e w' ⟨pb, rfl, h1, h2, h3⟩
          exact ⟨pb, rfl, Lib.hid ⟨h1, hW.trans (h3.mono hW.size), h3⟩⟩
        have cP : ∀ pb W, Below wr.heap.size wr W → SBlk W pb 3 (cellsK .i64 (List.replicate m 1)) → Calls Tryz.prog 166 #[.slice (some ⟨n + 1 + 1, 0, none⟩) 2 2, .slice (some ⟨pb, 0, none⟩) m m] W fun e w' => ∃ sb, e = .returned (.slice (some ⟨sb, 0, none⟩) S.length S.length) ∧ Hid (SBlk w' sb 3 (cellsK .i64 S) ∧ Below wr.heap.size wr w' ∧ Below W.heap.size W w') := by
          intro pb W hW hb
          have h := product_i64 [1, 1] (List.replicate m 1) (n + 1 + 1) 0 2 pb 0 m W (RowK.of (hS.r2.below hW hS.r2.lt)) (RowK.of hb) (by simp) (by simp; omega) (by simp) (by simp; omega)
          rw [List.length_replicate] at h
          refine h.mono ?_
          rintro e w' ⟨sb, rfl, h1, h2, h3⟩
          rw [show ([1, 1] : List Int).length = 2 from rfl, hSS] at h1
          exact ⟨sb, by rw [hSl]; simp; omega, Lib.hid ⟨h1, hW.trans (h3.mono hW.size), h3⟩⟩
        have cQ : ∀ ob sb W, Below wr.heap.size wr W → SBlk W ob 3 [.int .i64 1] → SBlk W sb 3 (cellsK .i64 S) → Calls Tryz.prog 165 #[.agg #[.slice (some ⟨nb, 0, none⟩) N.length N.length, .slice (some ⟨db, 0, none⟩) D.length D.length], .agg #[.slice (some ⟨ob, 0, none⟩) 1 1, .slice (some ⟨sb, 0, none⟩) S.length S.length]] W fun e w' => ∃ nb' db', e = .returned (.agg #[.slice (some ⟨nb', 0, none⟩) (plusN wrap64 N D [1] S).length (plusN wrap64 N D [1] S).length, .slice (some ⟨db', 0, none⟩) (plusD wrap64 D S).length (plusD wrap64 D S).length]) ∧
            Hid (SerAt [a, b, c] n lb w ((w'.setCell ⟨n + 1 + 1 + 1 + 1 + 1, 0, none⟩ (.slice (some ⟨nb', 0, none⟩) (plusN wrap64 N D [1] S).length (plusN wrap64 N D [1] S).length)).setCell ⟨n + 1 + 1 + 1 + 1 + 1, 1, none⟩ (.slice (some ⟨db', 0, none⟩) (plusD wrap64 D S).length (plusD wrap64 D S).length)) (plusN wrap64 N D [1] S) (plusD wrap64 D S) nb' db') ∧
            w'.cell? ⟨n + 1 + 1 + 1 + 1 + 1, 0, none⟩ = some (.slice (some ⟨nb, 0, none⟩) N.length N.length) ∧ w'.cell? ⟨n + 1 + 1 + 1 + 1 + 1, 1, none⟩ = some (.slice (some ⟨db, 0, none⟩) D.length D.length) ∧ w'.frozen? ⟨n + 1 + 1 + 1 + 1 + 1, 0, none⟩ = false ∧ w'.frozen? ⟨n + 1 + 1 + 1 + 1 + 1, 1, none⟩ = false := by
          intro ob sb W hW ho hb
          refine (plus_i64 N D [1] S nb 0 _ db 0 _ ob 0 1 sb 0 _ W (RowK.of (hS.nn.below hW hS.nn.lt)) (RowK.of (hS.dd.below hW hS.dd.lt)) (RowK.of ho) (RowK.of hb) hln.1 hln.2.1 (by simp) (by omega) (by omega) (by omega) (by simp) (by omega)).mono ?_
          rintro e w' ⟨nb', db', rfl, h1, h2, h3, h4, hB, hne⟩
          have hWW := hW.trans (hB.mono hW.size)
          have hz := hW.size
          have hzl : n + 1 + 1 + 1 + 1 + 1 + 1 ≤ wr.heap.size := hS.t.lt
          have ht := hS.t.below hWW hS.t.lt
          refine ⟨nb', db', rfl, Lib.hid ⟨?_, ?_, ?_, ?_, ?_, ?_, hne, by omega, by omega, hS.bb, ?_⟩, ht.cell 0, ht.cell 1, ht.frozen 0, ht.frozen 1⟩
          · exact ((hS.r1.below hWW hS.r1.lt).far (by simp) _).far (by simp) _
          · exact ((hS.r2.below hWW hS.r2.lt).far (by simp) _).far (by simp) _
          · exact (ht.set 0 _).set 1 _
          · exact ((hS.ls.below hWW hS.ls.lt).far (by have := hS.bb; simp; omega) _).far (by have := hS.bb; simp; omega) _
          · exact (h1.far (by simp; omega) _).far (by simp; omega) _
          · exact (h2.far (by simp; omega) _).far (by simp; omega) _
          · exact ((hS.bl.trans (hWW.mono (by omega))).setCell (p := ⟨n + 1 + 1 + 1 + 1 + 1, 0, none⟩) (by simp; omega) _).setCell (p := ⟨n + 1 + 1 + 1 + 1 + 1, 1, none⟩) (by simp; omega) _
        have hkt : ∀ W, Below wr.heap.size wr W → W.cell? ⟨n + 1 + 1 + 1 + 1 + 1, 0, none⟩ = some (.slice (some ⟨nb, 0, none⟩) N.length N.length) ∧ W.cell? ⟨n + 1 + 1 + 1 + 1 + 1, 1, none⟩ = some (.slice (some ⟨db, 0, none⟩) D.length D.length) := fun W hW =>
          have ht := hS.t.below hW hS.t.lt
          ⟨ht.cell 0, ht.cell 1⟩
        have HC := Lib.hid (And.intro cR (And.intro cP cQ))
        have HK := Lib.hid hkt
        obtain ⟨t2, t3⟩ := hkt (wr.alloc (.cells #[.int .i64 1] 3)) ((Below.refl wr.heap.size wr).alloc (Nat.le_refl _) _)
        obtain ⟨t4, t5⟩ := hkt ((wr.alloc (.cells #[.int .i64 1] 3)).alloc (.cells #[.int .i64 1] 3)) (((Below.refl wr.heap.size wr).alloc (Nat.le_refl _) _).alloc (by simp) _)
        have HA1 := Lib.hid (((Below.refl wr.heap.size wr).alloc (Nat.le_refl _) (.cells #[.int .i64 1] 3)).drew)
        have HA2 := Lib.hid ((((Below.refl wr.heap.size wr).alloc (Nat.le_refl _) (.cells #[.int .i64 1] 3)).alloc (by simp) (.cells #[.int .i64 1] 3)).drew)
        have e1 : (wr.alloc (.cells #[.int .i64 1] 3)).heap.size = wr.heap.size + 1 := by simp
        have HL1 := Lib.hid (show SBlk (wr.alloc (.cells #[.int .i64 1] 3)).drew wr.heap.size 3 [.int .i64 1] from (SBlk.new wr 3 [.int .i64 1]).drew)
        have HL2 := Lib.hid (show SBlk ((wr.alloc (.cells #[.int .i64 1] 3)).alloc (.cells #[.int .i64 1] 3)).drew wr.heap.size 3 [.int .i64 1] ∧ SBlk ((wr.alloc (.cells #[.int .i64 1] 3)).alloc (.cells #[.int .i64 1] 3)).drew (wr.heap.size + 1) 3 [.int .i64 1] from ⟨((SBlk.new wr 3 [.int .i64 1]).alloc _).drew, (SBlk.new' (wr.alloc (.cells #[.int .i64 1] 3)) 3 [.int .i64 1] _ e1).drew⟩)
        have HS := Lib.hid (And.intro hs1 hstep)
        clear cR cP cQ hkt e1 hs1 hstep hck hS hN hD hSS hln hm hSl
        generalize plusN wrap64 N D [1] S = N' at *
        generalize plusD wrap64 D S = D' at *
        have hfin : ∀ nb' db' W, SerAt [a, b, c] n lb w W N' D' nb' db' → ∃ k' nb db : Nat, k' ≤ 3 ∧ 3 - (k + 1) = 3 - k' ∧ Value.int .i64 ((k : Int) + 1) = .int .i64 (k' : Int) ∧ SerAt [a, b, c] n lb w W (serS wrap64 x [a, b, c] k').1 (serS wrap64 x [a, b, c] k').2 nb db := fun nb' db' W hQ => by
          refine ⟨k + 1, nb', db', by omega, rfl, by simp, ?_⟩
          rw [HS.out.1, HS.out.2]
          exact hQ
        have HFIN := Lib.hid hfin
        clear hfin
        go_wp2_with fail
        go_region_with
          (first
            | (go_at_call 167; (with_reducible refine (HC.out.1 _ _ ?_ ?_).mono ?_); (first | (with_reducible exact HA1.out) | (with_reducible exact HA2.out)); (first | (with_reducible exact HL1.out) | (with_reducible exact HL2.out.1) | (with_reducible exact HL2.out.2)); rintro e wR ⟨pb, rfl, hR⟩; obtain ⟨y0, y1⟩ := HK.out _ hR.out.2.1; obtain ⟨y2, y3⟩ := HK.out _ (hR.out.2.1.alloc hR.out.2.1.size (.cells #[.int .i64 1] 3)))
            | (go_at_call 166; (with_reducible refine (HC.out.2.1 _ _ ?_ ?_).mono ?_); (first | (with_reducible exact hR.out.2.1) | exact hR.out.2.1.alloc hR.out.2.1.size _); (first | (with_reducible exact hR.out.1) | exact hR.out.1.alloc _); rintro e wP ⟨sb, rfl, hP⟩; obtain ⟨y0, y1⟩ := HK.out _ hP.out.2.1; obtain ⟨y2, y3⟩ := HK.out _ (hP.out.2.1.alloc hP.out.2.1.size (.cells #[.int .i64 1] 3)))
            | (go_at_call 165; (with_reducible refine (HC.out.2.2 _ _ _ ?_ ?_ ?_).mono ?_); (first | (with_reducible exact hP.out.2.1) | exact hP.out.2.1.alloc hP.out.2.1.size _); (first | exact (HL2.out.1.next hR.out.2.2).next hP.out.2.2 | exact (HL2.out.2.next hR.out.2.2).next hP.out.2.2 | exact (SBlk.new wR 3 [.int .i64 1]).next hP.out.2.2 | exact SBlk.new wP 3 [.int .i64 1]); (first | (with_reducible exact hP.out.1) | exact hP.out.1.alloc _); rintro e wQ ⟨nb', db', rfl, hQ, y0, y1, y2, y3⟩))
        all_goals
          go_wp2_with fail
          go_roundg (3 - (k + 1))
          case measure => omega
          case rel => exact HFIN.out nb' db' _ hQ.out
    · obtain rfl : k = 3 := by omega
      obtain ⟨N, hN⟩ : ∃ N, (serS wrap64 x [a, b, c] 3).1 = N := ⟨_, rfl⟩
      obtain ⟨D, hD⟩ : ∃ D, (serS wrap64 x [a, b, c] 3).2 = D := ⟨_, rfl⟩
      have hln := serS_len wrap64 x [a, b, c] (by
        intro q
        have := HL.out
        match q with
        | 0 => exact this.1
        | 1 => exact this.2.1
        | 2 => exact this.2.2
        | q + 3 => simp) 3
      rw [hN, hD] at hS hln
      have HRv1 := Lib.hid (reverse_i64 N nb N.length wr hS.nn (by omega))
      have HRv2 := Lib.hid (fun W (h : SBlk W db 3 (cellsK .i64 D)) => reverse_i64 D db D.length W h (by omega))
      have t0 := hS.t.cell 0
      have t1 := hS.t.cell 1
      simp only [List.getElem?_cons_zero, List.getElem?_cons_succ] at t0 t1
      have HS := Lib.hid hS
      have HN := Lib.hid (And.intro hN hD)
      clear hS hN hD hln
      go_wp2_with fail
      refine HRv1.out.mono ?_
      rintro e w1 ⟨rfl, h1, hb1⟩
      have hS := HS.out
      have ht := hS.t.but hb1 (by show ¬ (n + 1 + 1 + 1 + 1 + 1 = nb); have := hS.bn; omega)
      have hr := hS.r1.but hb1 (by show ¬ (n + 1 = nb); have := hS.bn; omega)
      have hd := hS.dd.but hb1 (by show ¬ (db = nb); exact Ne.symm hS.ne)
      have hbl1 := hS.bl.trans (hb1.below (n := n) (by have := hS.t.lt; omega) (by rintro q rfl; have := hS.bn; omega))
      have H1 := Lib.hid (And.intro h1 (And.intro ht (And.intro hr (And.intro hd hbl1))))
      have y1 := ht.cell 1
      simp only [List.getElem?_cons_zero, List.getElem?_cons_succ] at y1
      clear hS h1 ht hr hd hbl1 hb1 t0 t1
      go_wp2_with fail
      refine (HRv2.out _ H1.out.2.2.2.1).mono ?_
      rintro e w2 ⟨rfl, h2, hb2⟩
      have hS := HS.out
      have ht := H1.out.2.1.but hb2 (by show ¬ (n + 1 + 1 + 1 + 1 + 1 = db); have := hS.bd; omega)
      have hr := H1.out.2.2.1.but hb2 (by show ¬ (n + 1 = db); have := hS.bd; omega)
      have hn2 := H1.out.1.but hb2 (by show ¬ (nb = db); exact hS.ne)
      have hbl2 := H1.out.2.2.2.2.trans (hb2.below (n := n) (by have := H1.out.2.1.lt; omega) (by rintro q rfl; have := hS.bd; omega))
      have H2 := Lib.hid (And.intro h2 (And.intro hn2 (And.intro hr hbl2)))
      have HBN := Lib.hid (And.intro hS.bn hS.bd)
      have z0 := ht.cell 0
      have z1 := ht.cell 1
      have r0 := hr.cell 0
      have r1 := hr.cell 1
      have f0 := hr.frozen 0
      have f1 := hr.frozen 1
      simp only [List.getElem?_cons_zero, List.getElem?_cons_succ] at z0 z1 r0 r1
      clear hS h2 ht hr hn2 hbl2 hb2 y1
      go_wp2_with fail
      (try simp only [Exit.inBlock, Exit.then])
      have qf := (H2.out.2.2.1.set 0 (.slice (some ⟨db, 0, none⟩) D.length D.length)).set 1 (.slice (some ⟨nb, 0, none⟩) N.length N.length)
      refine bodyPost_ret (results_cell_row (p := 2) (ty := 173) (by kernel_rfl) _ _ (n + 1) 173 _ (0, 0) _ rfl qf Tryz.underlying173 rfl (by kernel_rfl)) rfl ?_
      obtain ⟨g1, g2, g3, g4⟩ := H2.out
      have hbn := HBN.out
      have hnn := HNN.out
      rw [HN.out.1, HN.out.2, hnn]
      refine ⟨db, nb, by rw [revS_length, revS_length]; rfl, (g1.far (by simp; omega) _).far (by simp; omega) _, (g2.far (by simp; omega) _).far (by simp; omega) _, by omega, by omega, ?_⟩
      exact (g4.setCell (p := ⟨n + 1, 0, none⟩) (by simp) _).setCell (p := ⟨n + 1, 1, none⟩) (by simp) _
end Go.Proofs.YtcpeeopdaakbaaaGreat
