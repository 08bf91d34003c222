/- The reference's fraction. -/
import Derived.Test.YtcpeeopdaakbaaaGreatRfA
import Derived.Test.YtcpeeopdaakbaaaGreatCnA
namespace Go.Proofs.YtcpeeopdaakbaaaGreat
open Go.RowKit Go.Shelf Cx Ps

theorem wrap_cg (y : Int) : Cg 18446744073709551616 (wrap64 y) y := ⟨-((y + 9223372036854775808) / 18446744073709551616), by unfold wrap64; omega⟩

theorem RowK.keep {k : IntKind} {w w' : World} {b off T : Nat} {l : List Int} (h : RowK k w b off l) (hT : b < T) (hb : Below T w w') : RowK k w' b off l :=
  ⟨Nat.lt_of_lt_of_le h.lt hb.size, fun i hi => (hb.cell (p := ⟨b, off + i, none⟩) hT).trans (h.cell i hi)⟩

theorem RowK.far {k : IntKind} {w : World} {b off : Nat} {l : List Int} (h : RowK k w b off l) {p : Addr} (hp : b ≠ p.block) (v : Value) : RowK k (w.setCell p v) b off l :=
  ⟨by simpa using h.lt, fun i hi => by rw [← h.cell i hi]; unfold World.cell?; rw [Below.heap_setCell w p v b hp]⟩

/-- what Fraction keeps: its result's cell, the frame, the orders -/
def FrK (w : World) (L : List Nat) (lv : Value) (W : World) : Prop :=
  SBlk W (w.heap.size + 1) 117 [.slice none 0 0, .slice none 0 0] ∧ Below w.heap.size w W ∧ RowV W (w.heap.size + 2) lv (ints L)
theorem FrK.below {w W W' : World} {L : List Nat} {lv : Value} (h : FrK w L lv W) (hb : Below W.heap.size W W') : FrK w L lv W' :=
  ⟨h.1.below hb h.1.lt, h.2.1.trans (hb.mono h.2.1.size), h.2.2.below hb⟩
theorem FrK.two {w W : World} {L : List Nat} {lv : Value} (h : FrK w L lv W) : w.heap.size + 2 ≤ W.heap.size := h.1.lt

set_option maxRecDepth 100000 in
set_option maxHeartbeats 8000000 in
theorem Fraction_ref {a b c : Nat} (hg : Good a b c) (w : World) :
    Calls Tryz.prog 71 #[.agg #[.int .i64 a, .int .i64 b, .int .i64 c]] w fun e w' => ∃ nv dv m, e = .returned (.agg #[nv, dv]) ∧ RowV w' w.heap.size nv (numR wrap64 (ordL a b c)) ∧
      RowV w' w.heap.size dv ((denR wrap64 (ordL a b c) (ordL a b c).length).reverse.take m) ∧ (1 ≤ m ∧ m ≤ (denR wrap64 (ordL a b c) (ordL a b c).length).reverse.length ∧ ∀ i, m ≤ i → (denR wrap64 (ordL a b c) (ordL a b c).length).reverse.getD i 0 = 0) ∧ Below w.heap.size w w' := by
  have HO := Lib.hid (fun W => orders_ref a b c W)
  have hh := den_head (W := 18446744073709551616) (w6 := wrap64) (by decide) wrap_cg a b c
  have hin := ordL_in hg
  generalize ordL a b c = L at *
  obtain ⟨hL, hl3⟩ := hin
  have HD := Lib.hid hh
  have HL := Lib.hid (And.intro hL hl3)
  have hlr := fun i k hk => rowsR_len hL i k hk
  have hln := numR_len hL
  have hld := fun k hk => denR_len hL k hk
  have HLEN := Lib.hid (And.intro hlr (And.intro hln hld))
  obtain ⟨n, hn⟩ : ∃ n, L.length = n := ⟨_, rfl⟩
  have hil : (ints L).length = n := (ints_length L).trans hn
  have HN := Lib.hid (And.intro hn hil)
  rw [hn] at hl3 ⊢
  clear hh hL hlr hln hld hg hn hil
  have b1 := (Below.refl w.heap.size w).alloc (Nat.le_refl _) (.cells #[.int .i64 a, .int .i64 b, .int .i64 c] 23)
  have b2 := b1.alloc b1.size (.cells #[.slice none 0 0, .slice none 0 0] 117)
  have q2 := SBlk.new' (w.alloc (.cells #[.int .i64 a, .int .i64 b, .int .i64 c] 23)) 117 [.slice none 0 0, .slice none 0 0] (w.heap.size + 1) (by simp)
  have HB := Lib.hid (And.intro q2 b2)
  clear b1 b2 q2
  go_enter Tryz.func71, Tryz.ntmps71
  go_wp2_with fail
  refine (HO.out _).mono ?_
  rintro e W1 ⟨lv, rfl, hs1, hb1⟩
  have hlv : ∃ g cap, lv = .slice (some ⟨g, 0, none⟩) n cap := by
    obtain ⟨g, cap, _, h, _⟩ := hs1.rowV
    rw [HN.out.2] at h
    exact ⟨g, cap, h⟩
  have hk1 : FrK w L lv W1 := ⟨HB.out.1.below hb1 HB.out.1.lt, HB.out.2.trans (hb1.mono HB.out.2.size), hs1.rowV.lower (by simp)⟩
  have HK1 := Lib.hid hk1
  clear hs1 hb1 hk1 HB HO
  obtain ⟨lg, lcap, rfl⟩ := hlv
  have hcell : ∀ W, FrK w L (.slice (some ⟨lg, 0, none⟩) n lcap) W → ∀ k, k < n → ∃ x : Nat, W.cell? ⟨lg, k, none⟩ = some (.int .i64 (x : Int)) ∧ L.getD k 0 = x ∧ 1 ≤ x ∧ x ≤ 12 := by
    intro W hW k hk
    obtain ⟨g, cap, _, h2, _, h4⟩ := hW.2.2
    have h5 := h4.cell k (by rw [HN.out.2]; exact hk)
    injection h2 with h6
    injection h6 with h6
    injection h6 with h6
    subst h6
    rw [Nat.zero_add, ints_get] at h5
    have hm : L[k]'(by have := HN.out.1; omega) ∈ L := List.getElem_mem (by have := HN.out.1; omega)
    have e : L.getD k 0 = L[k]'(by have := HN.out.1; omega) := by simp [List.getElem?_eq_getElem (show k < L.length by have := HN.out.1; omega)]
    exact ⟨_, h5, rfl, by rw [e]; exact HL.out.1 _ hm⟩
  have HC := Lib.hid hcell
  clear hcell
  go_wp2_with fail
  have HK2 := Lib.hid (HK1.out.below ((Below.refl W1.heap.size W1).alloc (Nat.le_refl _) (.cells #[.int .i64 1] 3)))
  have HR2 := Lib.hid (RowV.of (B := w.heap.size + 2) (l := [1]) (n := 1) (SBlk.new W1 3 [.int .i64 1]) HK1.out.two rfl)
  clear HK1
  go_loopg [4, 5] n (fun g s4 s5 wr => ∃ k : Nat, k ≤ n ∧ g = n - k ∧ s5 = .int .i64 (k : Int) ∧ Hid (RowV wr (w.heap.size + 2) s4 (rowsR wrap64 L n k) ∧ FrK w L (.slice (some ⟨lg, 0, none⟩) n lcap) wr))
  case atStart => exact ⟨0, Nat.zero_le _, rfl, rfl, Lib.hid ⟨HR2.out, HK2.out⟩⟩
  case round =>
    obtain ⟨k, hk, rfl, rfl, HI⟩ := hrel
    clear HK2 HR2
    by_cases hlt : k < n
    · have hki : (k : Int) < (n : Int) := by omega
      have hwk : IntKind.i64.wrap ((k : Int) + 1) = (k : Int) + 1 := IntWalk.i64_in _ (by omega)
      obtain ⟨x, c0, hx, h1, h2⟩ := HC.out _ HI.out.2 k hlt
      have HX := Lib.hid (And.intro hx (And.intro h1 h2))
      have HRow := Lib.hid (fun W => row_row x (by omega) (by omega) W)
      clear hx h1 h2
      go_wp2_with fail
      refine (HRow.out _).mono ?_
      rintro e W2 ⟨rv, rfl, g1, g2⟩
      have hlen := HLEN.out.1 n k (by rw [HN.out.1]; omega)
      have HT := Lib.hid (Times_row _ _ _ _ _ _ W2 (HI.out.1.below g2) g1 (by omega) (by have := HX.out; rw [List.length_replicate]; omega) (by omega) (by have := HX.out; rw [List.length_replicate]; omega))
      have H2 := Lib.hid (And.intro (HI.out.2.below g2) g2)
      clear g1 g2 hlen c0
      go_wp2_with fail
      refine HT.out.mono ?_
      rintro e W3 ⟨tv, rfl, g1, g2⟩
      have H3 := Lib.hid (And.intro g1 (H2.out.1.below g2))
      have HZ := Lib.hid (Nat.le_trans HI.out.2.two H2.out.2.size)
      clear g1 g2
      go_wp2_with fail
      go_roundg (n - (k + 1))
      case measure => omega
      case rel =>
        refine ⟨k + 1, by omega, rfl, by simp, Lib.hid ⟨?_, H3.out.2⟩⟩
        have := H3.out.1.lower HZ.out
        unfold rowsR
        rw [if_neg (by omega), HX.out.1]
        exact this
    · obtain rfl : n = k := by omega
      go_wp2_with fail
      have hlr := HLEN.out.1 n n (by rw [HN.out.1]; omega)
      have hal := (Below.refl wr.heap.size wr).alloc (Nat.le_refl _) (.cells #[.int .i64 1, .int .i64 1] 3)
      have HT := Lib.hid (Times_row _ _ _ _ _ _ (wr.alloc (.cells #[.int .i64 1, .int .i64 1] 3)) (HI.out.1.below hal) (RowV.of (B := w.heap.size + 2) (l := [1, 1]) (n := 2) (SBlk.new wr 3 [.int .i64 1, .int .i64 1]) HI.out.2.two rfl) (by omega) (by decide) (by omega) (by decide))
      have H2 := Lib.hid (And.intro (HI.out.1.below hal) (HI.out.2.below hal))
      clear hal hlr
      refine HT.out.mono ?_
      rintro e W4 ⟨bv, rfl, g1, g2⟩
      have e1 : numR wrap64 L = timR wrap64 (rowsR wrap64 L n n) [1, 1] := by unfold numR; rw [HN.out.1]
      rw [← e1] at g1
      have H4 := Lib.hid (And.intro (g1.lower H2.out.2.two) (And.intro (H2.out.1.below g2) (H2.out.2.below g2)))
      clear g1 g2 H2 HT HI e1
      go_wp2_with fail
      have hlr := HLEN.out.1 n n (by rw [HN.out.1]; omega)
      have hln := HLEN.out.2.1
      rw [HN.out.1] at hln
      have HP := Lib.hid (plus_row _ _ (-3) _ _ _ _ W4 H4.out.1 H4.out.2.1 (by omega) (by omega))
      clear hlr hln
      refine HP.out.mono ?_
      rintro e W5 ⟨av, rfl, g1, g2⟩
      have e1 : denR wrap64 L 0 = plusR wrap64 (numR wrap64 L) (rowsR wrap64 L n n) (-3) := by
        show plusR wrap64 (numR wrap64 L) (rowsR wrap64 L L.length L.length) (-3) = _
        rw [HN.out.1]
      rw [← e1] at g1
      have H5 := Lib.hid (And.intro (g1.lower H4.out.2.2.two) (And.intro (H4.out.1.below g2) (H4.out.2.2.below g2)))
      clear g1 g2 H4 HP e1
      go_wp2_with fail
      go_loopg [7, 8, 9, 10] n (fun g s7 s8 s9 s10 wr => ∃ i : Nat, i ≤ n ∧ g = n - i ∧ s8 = .int .i64 (i : Int) ∧ Hid (RowV wr (w.heap.size + 2) s7 (denR wrap64 L i) ∧ RowV wr (w.heap.size + 2) bv (numR wrap64 L) ∧ FrK w L (.slice (some ⟨lg, 0, none⟩) n lcap) wr))
      case atStart => exact ⟨0, Nat.zero_le _, rfl, rfl, H5⟩
      case round =>
        clear H5
        obtain ⟨i, hi, rfl, rfl, HI⟩ := hrel
        by_cases hlt : i < n
        · have hii : (i : Int) < (n : Int) := by omega
          have hwi : IntKind.i64.wrap ((i : Int) + 1) = (i : Int) + 1 := IntWalk.i64_in _ (by omega)
          have hsl := HI.out.1
          obtain ⟨ag, acap, _, hs7, _, _⟩ := hsl
          subst hs7
          go_wp2_with fail
          have hal := (Below.refl wr.heap.size wr).alloc (Nat.le_refl _) (.cells #[.int .i64 1] 3)
          have H0 := Lib.hid (And.intro (RowV.of (B := w.heap.size + 2) (l := [1]) (n := 1) (SBlk.new wr 3 [.int .i64 1]) HI.out.2.2.two rfl) (And.intro (HI.out.1.below hal) (And.intro (HI.out.2.1.below hal) (HI.out.2.2.below hal))))
          clear hal HI
          go_loopg [9, 10] n (fun g s9 s10 wi => ∃ k : Nat, k ≤ n ∧ g = n - k ∧ s10 = .int .i64 (k : Int) ∧ Hid (RowV wi (w.heap.size + 2) s9 (rowsR wrap64 L i k) ∧ RowV wi (w.heap.size + 2) (.slice (some ⟨ag, 0, none⟩) (denR wrap64 L i).length acap) (denR wrap64 L i) ∧ RowV wi (w.heap.size + 2) bv (numR wrap64 L) ∧ FrK w L (.slice (some ⟨lg, 0, none⟩) n lcap) wi))
          case atStart => exact ⟨0, Nat.zero_le _, rfl, rfl, H0⟩
          case round =>
            clear H0
            obtain ⟨k, hk, rfl, rfl, HJ⟩ := hrel
            by_cases hlk : k < n
            · have hki : (k : Int) < (n : Int) := by omega
              have hwk : IntKind.i64.wrap ((k : Int) + 1) = (k : Int) + 1 := IntWalk.i64_in _ (by omega)
              by_cases hik : k = i
              · have hne : ((k : Int) != (i : Int)) = false := by simp [hik]
                have HE := Lib.hid hik
                clear hik
                go_wp2_with fail
                go_roundg (n - (k + 1))
                case measure => omega
                case rel =>
                  refine ⟨k + 1, by omega, rfl, by simp, Lib.hid ⟨?_, HJ.out.2⟩⟩
                  unfold rowsR
                  rw [if_pos HE.out]
                  exact HJ.out.1
              · have hne : ((k : Int) != (i : Int)) = true := by simp; omega
                have HE := Lib.hid hik
                clear hik
                obtain ⟨x, c0, hx, h1, h2⟩ := HC.out _ HJ.out.2.2.2 k hlk
                have HX := Lib.hid (And.intro hx (And.intro h1 h2))
                have HRow := Lib.hid (fun W => row_row x (by omega) (by omega) W)
                clear hx h1 h2
                go_wp2_with fail
                refine (HRow.out _).mono ?_
                rintro e W2 ⟨rv, rfl, g1, g2⟩
                have hlen := HLEN.out.1 i k (by rw [HN.out.1]; omega)
                have HT := Lib.hid (Times_row _ _ _ _ _ _ W2 (HJ.out.1.below g2) g1 (by omega) (by have := HX.out; rw [List.length_replicate]; omega) (by omega) (by have := HX.out; rw [List.length_replicate]; omega))
                have H2 := Lib.hid (And.intro (HJ.out.2.1.below g2) (And.intro (HJ.out.2.2.1.below g2) (HJ.out.2.2.2.below g2)))
                clear g1 g2 hlen c0
                go_wp2_with fail
                refine HT.out.mono ?_
                rintro e W3 ⟨tv, rfl, g1, g2⟩
                have H3 := Lib.hid (And.intro (g1.lower H2.out.2.2.two) (And.intro (H2.out.1.below g2) (And.intro (H2.out.2.1.below g2) (H2.out.2.2.below g2))))
                clear g1 g2 H2
                go_wp2_with fail
                go_roundg (n - (k + 1))
                case measure => omega
                case rel =>
                  refine ⟨k + 1, by omega, rfl, by simp, Lib.hid ⟨?_, H3.out.2⟩⟩
                  unfold rowsR
                  rw [if_neg HE.out, HX.out.1]
                  exact H3.out.1
            · obtain rfl : n = k := by omega
              go_wp2_with fail
              have hlr := HLEN.out.1 i n (by rw [HN.out.1]; omega)
              have hld := HLEN.out.2.2 i (by rw [HN.out.1]; omega)
              rw [HN.out.1] at hld
              have HP := Lib.hid (plus_row _ _ 1 _ _ _ _ wr HJ.out.2.1 HJ.out.1 (by omega) (by omega))
              clear hlr hld
              refine HP.out.mono ?_
              rintro e W6 ⟨v6, rfl, g1, g2⟩
              have e1 : denR wrap64 L (i + 1) = plusR wrap64 (denR wrap64 L i) (rowsR wrap64 L i n) 1 := by
                show plusR wrap64 (denR wrap64 L i) (rowsR wrap64 L i L.length) 1 = _
                rw [HN.out.1]
              rw [← e1] at g1
              have H6 := Lib.hid (And.intro (g1.lower HJ.out.2.2.2.two) (And.intro (HJ.out.2.2.1.below g2) (HJ.out.2.2.2.below g2)))
              clear g1 g2 HP e1
              go_wp2_with fail
              go_roundg (n - (i + 1))
              case measure => omega
              case rel => exact ⟨i + 1, by omega, rfl, by simp, H6⟩
        · obtain rfl : n = i := by omega
          obtain ⟨ag, acap, hag, rfl, hac, har⟩ := HI.out.1
          have hld := HLEN.out.2.2 n (by rw [HN.out.1]; omega)
          rw [HN.out.1] at hld
          obtain ⟨A, hA⟩ : ∃ A, denR wrap64 L n = A := ⟨_, rfl⟩
          have HAE := Lib.hid hA
          rw [hA] at hac har hld ⊢
          have hdd := HD.out
          rw [HN.out.1, hA] at hdd
          obtain ⟨N, hNl⟩ : ∃ N, A.length = N := ⟨_, rfl⟩
          rw [hNl] at hac hld ⊢
          have HA := Lib.hid (And.intro (And.intro hac har) (And.intro hdd hNl))
          have H7 := Lib.hid (And.intro HI.out.2.1 HI.out.2.2)
          clear hag hac har hdd hNl HI hA
          have hwN : IntKind.i64.wrap ((N : Int) - 1) = (N : Int) - 1 := IntWalk.i64_in _ (by omega)
          go_wp2_with fail
          obtain ⟨bg, bcap, hbg, rfl, hbc, hbr⟩ := H7.out.1
          have hal := (Below.refl wr.heap.size wr).alloc (Nat.le_refl _) (.cells #[] 3)
          have hf := H7.out.2.1.below hal H7.out.2.1.lt
          have hz := H7.out.2.2.1.trans (hal.mono H7.out.2.2.1.size)
          have hT2 := H7.out.2.two
          have har := HA.out.1.2.lt
          have hbl := hbr.lt
          have H8 : ∀ T, wr.heap.size = T → SomeI (wr.alloc (.cells #[] 3)) T (.slice (some ⟨T, 0, none⟩) 0 0) (A.reverse.take 0) ∧ RowK .i64 (wr.alloc (.cells #[] 3)) ag 0 A ∧ RowK .i64 (wr.alloc (.cells #[] 3)) bg 0 (numR wrap64 L) ∧ SBlk (wr.alloc (.cells #[] 3)) (w.heap.size + 1) 117 [.slice none 0 0, .slice none 0 0] ∧ Below w.heap.size w (wr.alloc (.cells #[] 3)) ∧ T ≤ (wr.alloc (.cells #[] 3)).heap.size := fun T hT =>
            ⟨⟨T, 0, [], Nat.le_refl _, rfl, rfl, Nat.zero_le _, SBlk.new' wr 3 [] T hT⟩, HA.out.1.2.below hal, hbr.below hal, hf, hz, by simp; omega⟩
          obtain ⟨T, hT⟩ : ∃ T, wr.heap.size = T := ⟨_, rfl⟩
          rw [hT] at hT2 har hbl ⊢
          have H8 := Lib.hid (H8 T hT)
          have HA := Lib.hid (And.intro HA.out.2 (And.intro (And.intro HA.out.1.1 hbc) (And.intro hT2 (And.intro har (And.intro hbl hbg)))))
          clear hal H7 hf hz hT2 har hbl hbr hbc hbg hT
          go_loopg [11, 12] N (fun g s11 s12 wi => ∃ (j r : Nat) (x : Int), r + j = N ∧ g = r + 0 ∧ s12 = .int .i64 x ∧ x = (r : Int) - 1 ∧ Hid (SomeI wi T s11 (A.reverse.take j) ∧ RowK .i64 wi ag 0 A ∧ RowK .i64 wi bg 0 (numR wrap64 L) ∧ SBlk wi (w.heap.size + 1) 117 [.slice none 0 0, .slice none 0 0] ∧ Below w.heap.size w wi ∧ T ≤ wi.heap.size))
          case atStart => exact ⟨0, N, _, by omega, rfl, rfl, rfl, H8⟩
          case round =>
            clear H8 hwN
            obtain ⟨j, r, x, hrj, hgr, rfl, hx, HI⟩ := hrel
            rcases r with _ | q
            · obtain rfl : x = -1 := by omega
              obtain rfl : N = j := by omega
              have hfull : A.reverse.take N = A.reverse := List.take_of_length_le (by rw [List.length_reverse]; have := HA.out.1.2; omega)
              have hse := HI.out.1
              rw [hfull] at hse
              obtain ⟨tg, tcap, htg, hs11, htc, htr⟩ := hse.row
              have hrl : A.reverse.length = N := by rw [List.length_reverse]; exact HA.out.1.2
              rw [hrl] at hs11 htc
              subst hs11
              have HT := Lib.hid (And.intro (And.intro hrl htg) htr)
              have htN : N ≤ tcap := htc
              clear hfull hse htr htg hrl hrj hgr hx htc
              obtain ⟨W, rfl⟩ : ∃ W, W = wr := ⟨_, rfl⟩
              go_wp2_with fail
              go_loopg [11] N (fun g s11 wi => ∃ m : Nat, 1 ≤ m ∧ m ≤ N ∧ g = m + 0 ∧ s11 = .slice (some ⟨tg, 0, none⟩) m tcap ∧ Hid (∀ i, m ≤ i → A.reverse.getD i 0 = 0) ∧ W = wi)
              case atStart =>
                refine ⟨N, by omega, Nat.le_refl _, rfl, rfl, Lib.hid ?_, rfl⟩
                intro i hi
                rw [List.getD_eq_getElem?_getD, List.getElem?_eq_none (by have := HT.out.1.1; omega)]
                rfl
              case round =>
                obtain ⟨m, hm1, hmN, hgm, rfl, HM, rfl⟩ := hrel
                rcases m with _ | q
                · omega
                have c0 := HT.out.2.cell q (by have := HT.out.1.1; omega)
                rw [Nat.zero_add] at c0
                have hwq : IntKind.i64.wrap (q : Int) = (q : Int) := IntWalk.i64_in _ (by omega)
                have hq1 : (q : Int) < ((q + 1 : Nat) : Int) := by omega
                obtain ⟨y, hy⟩ : ∃ y, A.reverse.getD q 0 = y := ⟨_, rfl⟩
                rw [hy] at c0
                have HG := Lib.hid (And.intro hgm (And.intro hm1 (And.intro hmN hy)))
                clear hgm hm1 hmN hy
                have hqt : q ≤ tcap := by have := HG.out.2.2.1; omega
                have k0 := HI.out.2.2.2.1.cell 0
                have k1 := HI.out.2.2.2.1.cell 1
                have f0 := HI.out.2.2.2.1.frozen 0
                have f1 := HI.out.2.2.2.1.frozen 1
                simp only [List.getElem?_cons_zero, List.getElem?_cons_succ] at k0 k1
                by_cases hy0 : y = 0
                · subst hy0
                  clear k0 k1 f0 f1
                  go_wp2_with fail
                  go_roundg (q + 0)
                  case measure => have := HG.out.1; omega
                  case rel =>
                    obtain ⟨-, g2, g3, g4⟩ := HG.out
                    have hq0 : q ≠ 0 := fun h => HA.out.1.1 (by rw [h] at g4; exact g4)
                    refine ⟨q, by omega, by omega, rfl, rfl, Lib.hid ?_, rfl⟩
                    intro i hi
                    rcases Nat.eq_or_lt_of_le hi with h | h
                    · rw [← h]; exact g4
                    · exact HM.out i (by omega)
                · have hy1 : (y == 0) = false := by simpa using hy0
                  have HY := Lib.hid hy0
                  clear hy0
                  go_wp2_with fail
                  have qf := (HI.out.2.2.2.1.set 0 (.slice (some ⟨bg, 0, none⟩) (numR wrap64 L).length bcap)).set 1 (.slice (some ⟨tg, 0, none⟩) (q + 1) tcap)
                  have bf := (HI.out.2.2.2.2.1.setCell (p := ⟨w.heap.size + 1, 0, none⟩) (by simp) (.slice (some ⟨bg, 0, none⟩) (numR wrap64 L).length bcap)).setCell (p := ⟨w.heap.size + 1, 1, none⟩) (by simp) (.slice (some ⟨tg, 0, none⟩) (q + 1) tcap)
                  refine bodyPost_ret (results_cell_row (p := 2) (ty := 117) (by kernel_rfl) _ _ (w.heap.size + 1) 117 _ (0, 0) _ rfl qf Tryz.underlying117 rfl (by kernel_rfl)) rfl ?_
                  obtain ⟨g1, g2, g3, g4⟩ := HG.out
                  obtain ⟨-, ⟨-, hbc⟩, k1, k2, k3, k4⟩ := HA.out
                  obtain ⟨hrl, htg⟩ := HT.out.1
                  have hAe := HAE.out
                  rw [hAe]
                  have hb3 := HI.out.2.2.1
                  refine ⟨_, _, q + 1, rfl, ⟨bg, bcap, by omega, rfl, hbc, (hb3.far (by show bg ≠ w.heap.size + 1; omega) _).far (by show bg ≠ w.heap.size + 1; omega) _⟩, ⟨tg, tcap, by omega, ?_, ?_, ?_⟩, ⟨by omega, by omega, HM.out⟩, bf⟩
                  · rw [List.length_take, hrl]; congr 1; omega
                  · rw [List.length_take, hrl]; omega
                  · refine RowK.far (RowK.far ⟨HT.out.2.lt, fun i hi => ?_⟩ (by show tg ≠ w.heap.size + 1; omega) _) (by show tg ≠ w.heap.size + 1; omega) _
                    rw [List.length_take] at hi
                    rw [HT.out.2.cell i (by omega)]
                    congr 2
                    rw [List.getD_eq_getElem?_getD, List.getD_eq_getElem?_getD, List.getElem?_take_of_lt (by omega)]
            · obtain rfl : x = (q : Int) := by omega
              have c0 := HI.out.2.1.cell q (by have := HA.out.1.2; omega)
              rw [Nat.zero_add] at c0
              have hqN : (q : Int) < (N : Int) := by omega
              have hwq : IntKind.i64.wrap ((q : Int) - 1) = (q : Int) - 1 := IntWalk.i64_in _ (by omega)
              have htk : A.reverse.take (j + 1) = A.reverse.take j ++ [A.getD q 0] := by
                rw [List.take_add_one, List.getElem?_reverse (by have := HA.out.1.2; omega)]
                have e : A.length - 1 - j = q := by have := HA.out.1.2; omega
                rw [e, List.getD_eq_getElem?_getD, List.getElem?_eq_getElem (by have := HA.out.1.2; omega)]
                rfl
              have hlen : (A.reverse.take j).length ≤ 100000000 := by rw [List.length_take, List.length_reverse]; have := HA.out.1.2; omega
              have HTK := Lib.hid (And.intro htk (And.intro hrj (And.intro hgr hlen)))
              obtain ⟨y, hy⟩ : ∃ y, A.getD q 0 = y := ⟨_, rfl⟩
              rw [hy] at c0
              have HY := Lib.hid hy
              clear htk hrj hgr hy hlen hx
              go_wp2_with (first
                | (at_builtin; ((have hA := HI.out.1.list.below ((Below.refl wr.heap.size wr).alloc (Nat.le_refl _) (.cells #[.int .i64 y] 3))); (obtain ⟨v', w', hr, h1, h2⟩ := app_i64 _ _ _ _ hA (by have h1 := HI.out.2.2.2.2.2; simp; omega) HTK.out.2.2.2 wr.heap.size 1 y ((SBlk.new wr 3 [.int .i64 y]).cell 0)); (have HR := Lib.hid (And.intro h1 h2)); (clear hA h1 h2); (refine Lib.wpList_append_run _ rfl (.tmp 69) (.tmp 74) 47 47 rfl _ _ rfl rfl _ _ hr ?_); clear hr)))
              go_roundg (q + 0)
              case measure => have := HTK.out.2.2.1; omega
              case rel =>
                obtain ⟨h1, h2⟩ := HR.out
                obtain ⟨g1, g2, g3, g4, g5⟩ := HI.out.2
                have h3 : Below T wr w' := ((Below.refl T wr).alloc g5 _).trans h2
                obtain ⟨-, -, k1, k2, k3, k4⟩ := HA.out
                have e1 := HTK.out.1
                rw [HY.out] at e1
                refine ⟨j + 1, q, _, by have := HTK.out.2.1; omega, rfl, rfl, rfl, Lib.hid ⟨?_, g1.keep k2 h3, g2.keep k3 h3, g3.below h3 (by omega), g4.trans (h3.mono (by omega)), Nat.le_trans g5 h3.size⟩⟩
                rw [e1]
                exact h1.more
end Go.Proofs.YtcpeeopdaakbaaaGreat
