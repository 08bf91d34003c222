/- A fraction that is in lowest terms. The series of the chapter's example. -/
import Derived.Test.YtcpeeopdaakbaaaGreatTaA
import Derived.Laws.Rows
import Derived.Test.YtcpeeopdaakbaaaGreatSr1
import Derived.Test.YtcpeeopdaakbaaaGreatWdA
import Derived.Deep.QuietTactic
import Derived.BigQuiet
namespace Go.Proofs.YtcpeeopdaakbaaaGreat
open Go.RowKit Go.Shelf Cx

/-- the rest of a division by a primitive polynomial -/
def restP (a : List Int) (m : Nat) : List Int := (divS a (primS m) (quoN a (primS m))).2
theorem restP_length (a : List Int) (m : Nat) : (restP a m).length = a.length := (divS_length a _ _).2

set_option maxRecDepth 100000 in
set_option maxHeartbeats 4000000 in
theorem lowest_id (N D : List Int) (nb nc db dc : Nat) (w : World) (hN : RowK .i64 w nb 0 N) (hD : RowK .i64 w db 0 D) (lN : 0 < N.length) (lD : 0 < D.length) (mN : N.length ≤ 1000) (mD : D.length ≤ 1000)
    (hlow : ∀ m, 2 ≤ m → m ≤ 12 → 0 < trimN (restP N m) N.length ∨ (trimN (restP N m) N.length = 0 ∧ 0 < trimN (restP D m) D.length)) :
    Calls Tryz.prog 115 #[.agg #[.slice (some ⟨nb, 0, none⟩) N.length nc, .slice (some ⟨db, 0, none⟩) D.length dc]] w fun e w' => e = .returned (.agg #[.slice (some ⟨nb, 0, none⟩) N.length nc, .slice (some ⟨db, 0, none⟩) D.length dc]) ∧ Below w.heap.size w w' := by
  have cP := fun m (h1 : 2 ≤ m) (h2 : m ≤ 12) W => primitive_any m m (Nat.le_refl _) (by omega) h2 W
  have cD : ∀ (a : List Int) (ab ac m pb : Nat) (W : World), RowK .i64 W ab 0 a → 0 < a.length → a.length ≤ 1000 → 2 ≤ m → m ≤ 12 → SBlk W pb 3 (cellsK .i64 (primS m)) →
      Calls Tryz.prog 164 #[.slice (some ⟨ab, 0, none⟩) a.length ac, .slice (some ⟨pb, 0, none⟩) (primS m).length (primS m).length] W fun e w' => ∃ qv rb cap, e = .returned (.tuple #[qv, .slice (some ⟨rb, 0, none⟩) a.length cap]) ∧ Hid (RowK .i64 w' rb 0 (restP a m) ∧ a.length ≤ cap ∧ Below W.heap.size W w') := by
    intro a ab ac m pb W ha h1 h2 h3 h4 hp
    have hpo := prim_ok ⟨m, by omega⟩ (by show 1 ≤ m; omega)
    refine (divide_i64 a (primS m) ab 0 ac pb 0 _ W ha (RowK.of hp) h1 hpo.1 (by omega) (by have := hpo.2.1; simp only [] at this; omega)).mono ?_
    rintro e w' ⟨qb, rb, cap, ex, rfl, _, g2, g3, _, _, _, g7⟩
    exact ⟨_, rb, cap, rfl, Lib.hid ⟨RowK.pre g2, g3, g7⟩⟩
  have cT : ∀ (a : List Int) (m rb cap : Nat) (W : World), RowK .i64 W rb 0 (restP a m) → a.length ≤ cap → a.length ≤ 1000 → Calls Tryz.prog 117 #[.slice (some ⟨rb, 0, none⟩) a.length cap] W fun e w' => e = .returned (.slice (some ⟨rb, 0, none⟩) (trimN (restP a m) a.length) cap) ∧ W = w' := by
    intro a m rb cap W ha h1 h2
    have h := trim_i64 (restP a m) rb 0 cap W ha (by rw [restP_length]; exact h1) (by rw [restP_length]; omega)
    rw [restP_length] at h
    exact h.mono (by rintro e w' ⟨rfl, rfl⟩; exact ⟨rfl, rfl⟩)
  have HC := Lib.hid (And.intro cP (And.intro cD cT))
  have HR := Lib.hid (And.intro (And.intro hN hD) (And.intro hlow (And.intro (And.intro lN lD) (And.intro mN mD))))
  clear cP cD cT hN hD hlow lN lD mN mD
  go_enter Tryz.func115, Tryz.ntmps115
  go_wp2_with fail
  have q0 := (SBlk.new w 173 [.slice (some ⟨nb, 0, none⟩) N.length nc, .slice (some ⟨db, 0, none⟩) D.length dc]).alloc (.cells #[.slice none 0 0, .slice none 0 0] 173)
  have q1 := SBlk.new' (w.alloc (.cells #[.slice (some ⟨nb, 0, none⟩) N.length nc, .slice (some ⟨db, 0, none⟩) D.length dc] 173)) 173 [.slice none 0 0, .slice none 0 0] (w.heap.size + 1) (by simp)
  have b1 := ((Below.refl w.heap.size w).alloc (Nat.le_refl _) (.cells #[.slice (some ⟨nb, 0, none⟩) N.length nc, .slice (some ⟨db, 0, none⟩) D.length dc] 173)).alloc (by simp) (.cells #[.slice none 0 0, .slice none 0 0] 173)
  have HB := Lib.hid (And.intro q0 (And.intro q1 b1))
  clear q0 q1 b1
  go_loopg [3] 11 (fun g s3 wr => ∃ m : Nat, 2 ≤ m ∧ m ≤ 13 ∧ g = 13 - m ∧ s3 = .int .i64 (m : Int) ∧ Hid (SBlk wr w.heap.size 173 [.slice (some ⟨nb, 0, none⟩) N.length nc, .slice (some ⟨db, 0, none⟩) D.length dc] ∧ SBlk wr (w.heap.size + 1) 173 [.slice none 0 0, .slice none 0 0] ∧ Below w.heap.size w wr))
  case atStart => exact ⟨2, by omega, by omega, rfl, rfl, Lib.hid ⟨HB.out.1, HB.out.2.1, HB.out.2.2⟩⟩
  case round =>
    obtain ⟨m, hm2, hm13, rfl, rfl, HI⟩ := hrel
    clear HB
    by_cases h12 : m ≤ 12
    · have hmi : (m : Int) ≤ 12 := by omega
      have hwm : IntKind.i64.wrap ((m : Int) + 1) = (m : Int) + 1 := IntWalk.i64_in _ (by omega)
      go_wp2_with fail
      refine (HC.out.1 m hm2 h12 _).mono ?_
      rintro e w1 ⟨pb, rfl, g1, g2, g3⟩
      have q0 := HI.out.1.below g3 HI.out.1.lt
      have H1 := Lib.hid (And.intro g1 (And.intro (HI.out.2.1.below g3 HI.out.2.1.lt) (And.intro q0 (HI.out.2.2.trans (g3.mono HI.out.2.2.size)))))
      have k0 := q0.cell 0
      have k1 := q0.cell 1
      simp only [List.getElem?_cons_zero, List.getElem?_cons_succ] at k0 k1
      clear g1 g2 g3 q0
      go_wp2_with fail
      go_loopg [] 1 (fun g wi => g = 1 + 0 ∧ w1 = wi)
      case atStart => exact ⟨rfl, rfl⟩
      case round =>
        obtain ⟨hg, rfl⟩ := hrel
        clear hg
        go_wp2_with fail
        refine (HC.out.2.1 N nb nc m pb _ (HR.out.1.1.below H1.out.2.2.2) HR.out.2.2.1.1 HR.out.2.2.2.1 hm2 h12 H1.out.1).mono ?_
        rintro e w2 ⟨qv, rb, rc, rfl, G2⟩
        have hb2 := G2.out.2.2
        have q0 := H1.out.2.2.1.below hb2 H1.out.2.2.1.lt
        have HB2 := Lib.hid (H1.out.2.2.2.trans (hb2.mono H1.out.2.2.2.size))
        have HP2 := Lib.hid (H1.out.1.below hb2 H1.out.1.lt)
        have HQ2 := Lib.hid (And.intro q0 (H1.out.2.1.below hb2 H1.out.2.1.lt))
        clear k0 k1
        have k1 := q0.cell 1
        simp only [List.getElem?_cons_zero, List.getElem?_cons_succ] at k1
        clear hb2 q0
        go_wp2_with fail
        refine (HC.out.2.1 D db dc m pb _ (HR.out.1.2.below HB2.out) HR.out.2.2.1.2 HR.out.2.2.2.2 hm2 h12 HP2.out).mono ?_
        rintro e w3 ⟨qv2, rb2, rc2, rfl, G3⟩
        have hb3 := G3.out.2.2
        have HB3 := Lib.hid (And.intro (HQ2.out.1.below hb3 HQ2.out.1.lt) (And.intro (HQ2.out.2.below hb3 HQ2.out.2.lt) (HB2.out.trans (hb3.mono HB2.out.size))))
        have HT1 := Lib.hid (HC.out.2.2 N m rb rc w3 (G2.out.1.below hb3) G2.out.2.1 HR.out.2.2.2.1)
        have HT2 := Lib.hid (HC.out.2.2 D m rb2 rc2 w3 G3.out.1 G3.out.2.1 HR.out.2.2.2.2)
        clear hb3 k1
        have hcase := HR.out.2.1 m hm2 h12
        obtain ⟨n1, hn1⟩ : ∃ n1, trimN (restP N m) N.length = n1 := ⟨_, rfl⟩
        obtain ⟨n2, hn2⟩ : ∃ n2, trimN (restP D m) D.length = n2 := ⟨_, rfl⟩
        rw [hn1] at hcase HT1
        rw [hn2] at hcase HT2
        clear hn1 hn2
        by_cases hz : 0 < n1
        · have hzi : (0 : Int) < (n1 : Int) := by omega
          clear hcase
          go_wp2_with (first | (go_at_call 117; (with_reducible refine HT1.out.mono ?_); rintro e w4 ⟨rfl, rfl⟩))
          go_roundg (13 - (m + 1))
          case measure => omega
          case rel => exact ⟨m + 1, by omega, by omega, rfl, by simp, Lib.hid HB3.out⟩
        · obtain rfl : n1 = 0 := by omega
          have hzi : (0 : Int) < (n2 : Int) := by omega
          have hz2 : 0 < n2 := by omega
          clear hcase
          go_wp2_with (first | (go_at_call 117; (with_reducible refine HT1.out.mono ?_); rintro e w4 ⟨rfl, rfl⟩) | (go_at_call 117; (with_reducible refine HT2.out.mono ?_); rintro e w4 ⟨rfl, rfl⟩))
          go_roundg (13 - (m + 1))
          case measure => omega
          case rel => exact ⟨m + 1, by omega, by omega, rfl, by simp, Lib.hid HB3.out⟩
    · obtain rfl : m = 13 := by omega
      have z0 := HI.out.1.cell 0
      have z1 := HI.out.1.cell 1
      have y0 := HI.out.2.1.cell 0
      have y1 := HI.out.2.1.cell 1
      have f0 := HI.out.2.1.frozen 0
      have f1 := HI.out.2.1.frozen 1
      simp only [List.getElem?_cons_zero, List.getElem?_cons_succ] at z0 z1 y0 y1
      go_wp2_with fail
      (try simp only [Exit.inBlock, Exit.then])
      have qf := (HI.out.2.1.set 0 (.slice (some ⟨nb, 0, none⟩) N.length nc)).set 1 (.slice (some ⟨db, 0, none⟩) D.length dc)
      have bf := (HI.out.2.2.setCell (p := ⟨w.heap.size + 1, 0, none⟩) (by simp) (.slice (some ⟨nb, 0, none⟩) N.length nc)).setCell (p := ⟨w.heap.size + 1, 1, none⟩) (by simp) (.slice (some ⟨db, 0, none⟩) D.length dc)
      refine bodyPost_ret (results_cell_row (p := 2) (ty := 173) (by kernel_rfl) _ _ (w.heap.size + 1) 173 _ (0, 0) _ rfl qf Tryz.underlying173 rfl (by kernel_rfl)) rfl ?_
      exact ⟨rfl, bf⟩
end Go.Proofs.YtcpeeopdaakbaaaGreat

namespace Go.Proofs.YtcpeeopdaakbaaaGreat
open Go.RowKit Go.Shelf Cx

theorem ex_series : revS (serS wrap64 (-3) [0, 0, 0] 3).2 = [1, 1] ∧ revS (serS wrap64 (-3) [0, 0, 0] 3).1 = [1, -2] := by decide +kernel
theorem ex_low : ∀ m : Fin 13, 2 ≤ m.val → 0 < trimN (restP [1, 1] m.val) 2 ∨ (trimN (restP [1, 1] m.val) 2 = 0 ∧ 0 < trimN (restP [1, -2] m.val) 2) := by decide +kernel
theorem ex_trim : trimN [1, -2] 2 = 2 := by decide +kernel
theorem good000 : Good 0 0 0 := ⟨.inl rfl, .inl rfl, .inl rfl, by decide +kernel⟩

set_option maxRecDepth 100000 in
set_option maxHeartbeats 2000000 in
theorem Series_000 (w : World) :
    Calls Tryz.prog 63 #[.agg #[.int .i64 0, .int .i64 0, .int .i64 0]] w fun e w' => ∃ nb db, e = .returned (.tuple #[.slice (some ⟨nb, 0, none⟩) 2 2, .slice (some ⟨db, 0, none⟩) 2 2, .int .i64 0]) ∧ SBlk w' nb 3 (cellsK .i64 [1, 1]) ∧ SBlk w' db 3 (cellsK .i64 [1, -2]) ∧ Below w.heap.size w w' := by
  have hf := fun W => tfault_any 0 0 0 0 0 W
  have hz : faultT 0 0 0 0 0 = 0 := by
    have := allowedS_good good000
    unfold faultT
    rw [if_pos (by simpa using this)]
    rfl
  rw [hz] at hf
  have HF := Lib.hid hf
  have hs := fun W => series_i64 0 0 0 (by omega) (by omega) (by omega) _ rfl W
  rw [ex_series.1, ex_series.2] at hs
  have HS := Lib.hid hs
  have HL := Lib.hid (fun nb db W (h1 : SBlk W nb 3 (cellsK .i64 [1, 1])) (h2 : SBlk W db 3 (cellsK .i64 [1, -2])) => lowest_id [1, 1] [1, -2] nb 2 db 2 W (RowK.of h1) (RowK.of h2) (by decide) (by decide) (by decide) (by decide) (fun m h1 h2 => ex_low ⟨m, by omega⟩ h1))
  have HT := Lib.hid (fun db W (h2 : SBlk W db 3 (cellsK .i64 [1, -2])) => by
    have := trim_i64 [1, -2] db 0 2 W (RowK.of h2) (by decide) (by decide)
    rw [show ([1, -2] : List Int).length = 2 from rfl, ex_trim] at this
    exact this)
  clear hf hz hs
  go_enter Tryz.func63, Tryz.ntmps63
  go_wp2_with fail
  refine (HF.out _).mono ?_
  rintro e w1 ⟨rfl, hb1⟩
  have q0 := (SBlk.new w 23 [.int .i64 0, .int .i64 0, .int .i64 0]).below hb1 (by simp)
  have HB1 := Lib.hid (below_a1 hb1)
  have p0 := q0.cell 0
  have p1 := q0.cell 1
  have p2 := q0.cell 2
  simp only [List.getElem?_cons_zero, List.getElem?_cons_succ] at p0 p1 p2
  clear hb1 q0
  go_wp2_with fail
  refine (HS.out _).mono ?_
  rintro e w2 ⟨nb, db, rfl, h1, h2, _, _, hb2⟩
  have HLw := Lib.hid (HL.out nb db w2 h1 h2)
  have HB2 := Lib.hid (And.intro h1 (And.intro h2 hb2))
  clear h1 h2 hb2 p0 p1 p2
  go_wp2_with fail
  refine HLw.out.mono ?_
  rintro e w3 ⟨rfl, hb3⟩
  have HB3 := Lib.hid (And.intro (HB2.out.1.below hb3 HB2.out.1.lt) (And.intro (HB2.out.2.1.below hb3 HB2.out.2.1.lt) ((HB1.out.trans (HB2.out.2.2.mono HB1.out.size)).trans (hb3.mono (Nat.le_trans HB1.out.size HB2.out.2.2.size)))))
  clear hb3
  go_wp2_with fail
  have q4 := SBlk.new w3 173 [.slice (some ⟨nb, 0, none⟩) 2 2, .slice (some ⟨db, 0, none⟩) 2 2]
  have b4 := HB3.out.2.2.alloc HB3.out.2.2.size (.cells #[.slice (some ⟨nb, 0, none⟩) 2 2, .slice (some ⟨db, 0, none⟩) 2 2] 173)
  have n4 := HB3.out.1.alloc (.cells #[.slice (some ⟨nb, 0, none⟩) 2 2, .slice (some ⟨db, 0, none⟩) 2 2] 173)
  have d4 := HB3.out.2.1.alloc (.cells #[.slice (some ⟨nb, 0, none⟩) 2 2, .slice (some ⟨db, 0, none⟩) 2 2] 173)
  rw [show ([.slice (some ⟨nb, 0, none⟩) 2 2, .slice (some ⟨db, 0, none⟩) 2 2] : List Value).toArray = #[.slice (some ⟨nb, 0, none⟩) 2 2, .slice (some ⟨db, 0, none⟩) 2 2] from rfl] at q4
  generalize w3.alloc (.cells #[.slice (some ⟨nb, 0, none⟩) 2 2, .slice (some ⟨db, 0, none⟩) 2 2] 173) = W4 at q4 b4 n4 d4 ⊢
  have k0 := q4.cell 0
  have k1 := q4.cell 1
  simp only [List.getElem?_cons_zero, List.getElem?_cons_succ] at k0 k1
  have H4 := Lib.hid (And.intro n4 (And.intro d4 b4))
  clear q4 b4 n4 d4
  go_quiet ((go_at_call 117; exact Calls.quiet_of_same (HT.out db _ (by exact H4.out.2.1))))
  go_wp2_with fail
  (try simp only [Exit.inBlock, Exit.then])
  refine bodyPost_ret (v := .tuple #[.slice (some ⟨nb, 0, none⟩) 2 2, .slice (some ⟨db, 0, none⟩) 2 2, .int .i64 0]) ?_ rfl ⟨nb, db, rfl, H4.out.1, H4.out.2.1, ⟨H4.out.2.2.os, H4.out.2.2.tape, H4.out.2.2.output, H4.out.2.2.size, H4.out.2.2.block⟩⟩
  simp [results, Tryz.results63, go_sem]
end Go.Proofs.YtcpeeopdaakbaaaGreat
