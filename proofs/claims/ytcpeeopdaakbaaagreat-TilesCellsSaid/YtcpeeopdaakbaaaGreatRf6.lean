/- The reference's counts. -/
import Derived.Test.YtcpeeopdaakbaaaGreatRf5
namespace Go.Proofs.YtcpeeopdaakbaaaGreat
open Go.RowKit Go.Shelf Cx Ps

/-- a slice of uint64 that is not nil, in a block from B on -/
def SomeU (w : World) (B : Nat) (v : Value) (l : List Int) : Prop :=
  ∃ g cap ex, B ≤ g ∧ v = .slice (some ⟨g, 0, none⟩) l.length cap ∧ l.length + ex.length = cap ∧ cap ≤ Go.maxLen ∧ SBlk w g 38 (cellsK .u64 l ++ ex)
theorem ListU.more {w : World} {B : Nat} {v : Value} {l : List Int} {s : Int} (h : ListU w B v (l ++ [s])) : SomeU w B v (l ++ [s]) := by
  rcases h with ⟨h, _⟩ | h
  · simp at h
  · exact h
theorem SomeU.list {w : World} {B : Nat} {v : Value} {l : List Int} (h : SomeU w B v l) : ListU w B v l := .inr h
theorem SomeU.row {w : World} {B : Nat} {v : Value} {l : List Int} (h : SomeU w B v l) : ∃ g cap, B ≤ g ∧ v = .slice (some ⟨g, 0, none⟩) l.length cap ∧ l.length ≤ cap ∧ RowK .u64 w g 0 l := by
  obtain ⟨g, cap, ex, h1, h2, h3, h4, h5⟩ := h
  refine ⟨g, cap, h1, h2, by omega, h5.lt, fun i hi => ?_⟩
  rw [h5.cell, Nat.zero_add, List.getElem?_append_left (by rw [cellsK_length]; exact hi), cellsK_get .u64 hi]

theorem SomeU.at {w : World} {B og n c : Nat} {l : List Int} (h : SomeU w B (.slice (some ⟨og, 0, none⟩) n c) l) : RowK .u64 w og 0 l := by
  obtain ⟨g, cap, _, h2, _, h4⟩ := h.row
  simp only [Value.slice.injEq, Option.some.injEq, Addr.mk.injEq] at h2
  obtain ⟨⟨rfl, _⟩, _⟩ := h2
  exact h4

/-- what Counts keeps -/
def CntI (w : World) (fb T : Nat) (fs : List Value) (P Q : List Int) (pg qg : Nat) (v : Value) (l : List Int) (wi : World) : Prop :=
  SomeU wi T v l ∧ SBlk wi fb 117 fs ∧ RowK .i64 wi pg 0 P ∧ RowK .i64 wi qg 0 Q ∧ Below w.heap.size w wi ∧ T ≤ wi.heap.size
theorem CntI.drewN {w : World} {fb T : Nat} {fs : List Value} {P Q : List Int} {pg qg : Nat} {v : Value} {l : List Int} {wi : World} (h : CntI w fb T fs P Q pg qg v l wi) (k : Nat) : CntI w fb T fs P Q pg qg v l (wi.drewN k) := by
  obtain ⟨⟨g, cap, ex, h1, h2, h3, h4, h5⟩, h6, h7, h8, h9, h10⟩ := h
  exact ⟨⟨g, cap, ex, h1, h2, h3, h4, h5⟩, h6, ⟨h7.lt, h7.cell⟩, ⟨h8.lt, h8.cell⟩, below_dnN h9 _, h10⟩

set_option maxRecDepth 100000 in
set_option maxHeartbeats 8000000 in
theorem Counts_run {a b c : Nat} (P : List Int) (PQ : List Int → Prop) (hP : 1 ≤ P.length ∧ P.length ≤ 1000) (hPQ : ∀ Q, PQ Q → 1 ≤ Q.length ∧ Q.length ≤ 1000) (n : Nat) (hn : n ≤ 1000) (w : World)
    (hf : ∀ W, Calls Tryz.prog 71 #[.agg #[.int .i64 a, .int .i64 b, .int .i64 c]] W fun e w' => ∃ nv dv Q, e = .returned (.agg #[nv, dv]) ∧ RowV w' W.heap.size nv P ∧ RowV w' W.heap.size dv Q ∧ PQ Q ∧ Below W.heap.size W w') :
    Calls Tryz.prog 20 #[.agg #[.int .i64 a, .int .i64 b, .int .i64 c], .int .i64 n] w fun e w' => ∃ g cap Q, e = .returned (.slice (some ⟨g, 0, none⟩) (n + 1) cap) ∧ RowK .u64 w' g 0 (cntL (IntKind.wrap .u64) P Q (n + 1)) ∧ PQ Q ∧ Below w.heap.size w w' := by
  have HF := Lib.hid hf
  have HB := Lib.hid ((Below.refl w.heap.size w).alloc (Nat.le_refl _) (.cells #[.int .i64 a, .int .i64 b, .int .i64 c] 23))
  clear hf
  go_enter Tryz.func20, Tryz.ntmps20
  go_wp2_with fail
  refine (HF.out _).mono ?_
  rintro e W1 ⟨nv, dv, Q, rfl, h1, h2, hpq, hb⟩
  have hQ := hPQ Q hpq
  have HPQ := Lib.hid hpq
  clear hpq hPQ
  obtain ⟨pg, pc, _, rfl, _, hp⟩ := h1
  obtain ⟨qg, qc, _, rfl, _, hq⟩ := h2
  obtain ⟨pl, hpl⟩ : ∃ z, P.length = z := ⟨_, rfl⟩
  obtain ⟨ql, hql⟩ : ∃ z, Q.length = z := ⟨_, rfl⟩
  rw [hpl] at hP ⊢
  rw [hql] at hQ ⊢
  have HL := Lib.hid (And.intro (And.intro hpl hql) (And.intro hP (And.intro hQ hn)))
  have hbb := HB.out.trans (hb.mono HB.out.size)
  have q1 := SBlk.new W1 117 [.slice (some ⟨pg, 0, none⟩) pl pc, .slice (some ⟨qg, 0, none⟩) ql qc]
  have hal := (Below.refl W1.heap.size W1).alloc (Nat.le_refl _) (.cells #[.slice (some ⟨pg, 0, none⟩) pl pc, .slice (some ⟨qg, 0, none⟩) ql qc] 117)
  have hst : ∀ W2, W1.alloc (.cells #[.slice (some ⟨pg, 0, none⟩) pl pc, .slice (some ⟨qg, 0, none⟩) ql qc] 117) = W2 → SBlk W2 W1.heap.size 117 [.slice (some ⟨pg, 0, none⟩) pl pc, .slice (some ⟨qg, 0, none⟩) ql qc] ∧ RowK .i64 W2 pg 0 P ∧ RowK .i64 W2 qg 0 Q ∧ Below w.heap.size w W2 := by
    rintro W2 rfl
    exact ⟨q1, hp.below hal, hq.below hal, hbb.trans (hal.mono hbb.size)⟩
  have HST := Lib.hid hst
  have h2lt : pg < W1.heap.size + 1 ∧ qg < W1.heap.size + 1 ∧ w.heap.size ≤ W1.heap.size + 1 := ⟨by have := hp.lt; omega, by have := hq.lt; omega, by have := hbb.size; omega⟩
  have hlt := h2lt
  clear hst q1 hal hbb hb hp hq hpl hql hP hQ HB HF
  obtain ⟨fb, hfb⟩ : ∃ z, W1.heap.size = z := ⟨_, rfl⟩
  rw [hfb] at HST hlt
  have HT := Lib.hid hlt
  have HFB := Lib.hid hfb
  obtain ⟨N, hN⟩ : ∃ N, n + 1 = N := ⟨_, rfl⟩
  have HN := Lib.hid hN
  have hsz : (W1.alloc (.cells #[.slice (some ⟨pg, 0, none⟩) pl pc, .slice (some ⟨qg, 0, none⟩) ql qc] 117)).heap.size = fb + 1 := by simp [hfb]
  have HS := Lib.hid hsz
  clear hlt hN hfb hsz
  go_wp2_with fail
  rw [HFB.out]
  obtain ⟨W2, hW2⟩ : ∃ W2, W1.alloc (.cells #[.slice (some ⟨pg, 0, none⟩) pl pc, .slice (some ⟨qg, 0, none⟩) ql qc] 117) = W2 := ⟨_, rfl⟩
  have hs2 := HS.out
  rw [hW2] at hs2 ⊢
  obtain ⟨g1, g2, g3, g4⟩ := HST.out W2 hW2
  have hal := (Below.refl W2.heap.size W2).alloc (Nat.le_refl _) (.cells #[] 38)
  have H0 : CntI w fb (fb + 1) [.slice (some ⟨pg, 0, none⟩) pl pc, .slice (some ⟨qg, 0, none⟩) ql qc] P Q pg qg (.slice (some ⟨fb + 1, 0, none⟩) 0 0) (cntL (IntKind.wrap .u64) P Q 0) (W2.alloc (.cells #[] 38)) :=
    ⟨⟨fb + 1, 0, [], Nat.le_refl _, rfl, rfl, Nat.zero_le _, SBlk.new' W2 38 [] _ hs2⟩, g1.below hal g1.lt, g2.below hal, g3.below hal, g4.trans (hal.mono g4.size), by simp; omega⟩
  have H0 := Lib.hid H0
  clear g1 g2 g3 g4 hal hs2 hW2 HS HST
  go_loopg [6, 7, 8, 9] N (fun g s6 s7 s8 s9 wi => ∃ i : Nat, i ≤ N ∧ g = N - i ∧ s7 = .int .i64 (i : Int) ∧ Hid (CntI w fb (fb + 1) [.slice (some ⟨pg, 0, none⟩) pl pc, .slice (some ⟨qg, 0, none⟩) ql qc] P Q pg qg s6 (cntL (IntKind.wrap .u64) P Q i) wi))
  case atStart => exact ⟨0, Nat.zero_le _, rfl, rfl, H0⟩
  case round =>
    clear H0
    obtain ⟨i, hi, rfl, rfl, HI⟩ := hrel
    have hsl := HI.out.1.row
    obtain ⟨og, ocap, _, hv, _, _⟩ := hsl
    rw [cntL_length] at hv
    subst hv
    by_cases hlt : i < N
    · have hin : (i : Int) ≤ (n : Int) := by have := HN.out; omega
      have hwi : IntKind.i64.wrap ((i : Int) + 1) = (i : Int) + 1 := IntWalk.i64_in _ (by have := HL.out.2.2.2; omega)
      have f0 := HI.out.2.1.cell 0
      have f1 := HI.out.2.1.cell 1
      simp only [List.getElem?_cons_zero, List.getElem?_cons_succ] at f0 f1
      obtain ⟨K, hK⟩ : ∃ K, min i (ql - 1) = K := ⟨_, rfl⟩
      have HK := Lib.hid hK
      clear hK
      by_cases hip : i < pl
      · have hip2 : (i : Int) < (pl : Int) := by omega
        have c0 := HI.out.2.2.1.cell i (by have := HL.out.1.1; omega)
        rw [Nat.zero_add] at c0
        obtain ⟨y, hy⟩ : ∃ y, P.getD i 0 = y := ⟨_, rfl⟩
        rw [hy] at c0
        have HX : Hid (cntIn (IntKind.wrap .u64) P Q (cntL (IntKind.wrap .u64) P Q i) i 0 = IntKind.wrap .u64 y) := Lib.hid (by
          show (if i < P.length then IntKind.wrap .u64 (P.getD i 0) else 0) = _
          rw [HL.out.1.1, if_pos hip, hy])
        clear hy
        have hX0 : cntIn (IntKind.wrap .u64) P Q (cntL (IntKind.wrap .u64) P Q i) i 0 = IntKind.wrap .u64 y := HX.out
        go_wp2_with fail
        go_loopg [8, 9] K (fun g s8 s9 wi => ∃ m k : Nat, k = m + 1 ∧ m ≤ K ∧ g = K - m ∧ s9 = .int .i64 (k : Int) ∧ s8 = .int .u64 (cntIn (IntKind.wrap .u64) P Q (cntL (IntKind.wrap .u64) P Q i) i m) ∧ Hid (CntI w fb (fb + 1) [.slice (some ⟨pg, 0, none⟩) pl pc, .slice (some ⟨qg, 0, none⟩) ql qc] P Q pg qg (.slice (some ⟨og, 0, none⟩) i ocap) (cntL (IntKind.wrap .u64) P Q i) wi))
        case atStart => exact ⟨0, 1, rfl, Nat.zero_le _, rfl, rfl, by rw [hX0], HI⟩
        case round =>
          clear hX0 HX f0 f1
          obtain ⟨m, k, hkm, hm, rfl, rfl, rfl, HJ⟩ := hrel
          have hKe := HK.out
          have hq1 := HL.out.2.2.1
          have f1 := HJ.out.2.1.cell 1
          simp only [List.getElem?_cons_zero, List.getElem?_cons_succ] at f1
          by_cases hlm : m < K
          · have hk1 : (k : Int) ≤ (i : Int) := by omega
            have hk2 : (k : Int) < (ql : Int) := by omega
            have c1 := HJ.out.2.2.2.1.cell k (by have := HL.out.1.2; omega)
            rw [Nat.zero_add] at c1
            obtain ⟨d, hd⟩ : ∃ d, Q.getD k 0 = d := ⟨_, rfl⟩
            rw [hd] at c1
            obtain ⟨r, hr⟩ : ∃ r, i - k = r := ⟨_, rfl⟩
            have hrk : (i : Int) - (k : Int) = (r : Int) := by omega
            have hwr : IntKind.i64.wrap (r : Int) = (r : Int) := IntWalk.i64_in _ (by have := HL.out.2.2.2; omega)
            have hri : (r : Int) < (i : Int) := by omega
            have c2 : wr.cell? ⟨og, r, none⟩ = some (.int .u64 ((cntL (IntKind.wrap .u64) P Q i).getD r 0)) := by
              obtain ⟨g, cap, _, h2, _, h4⟩ := HJ.out.1.row
              injection h2 with h6
              injection h6 with h6
              injection h6 with h6
              subst h6
              have := h4.cell r (by rw [cntL_length]; omega)
              rwa [Nat.zero_add] at this
            obtain ⟨z, hz⟩ : ∃ z, (cntL (IntKind.wrap .u64) P Q i).getD r 0 = z := ⟨_, rfl⟩
            rw [hz] at c2
            have hwk : IntKind.i64.wrap ((k : Int) + 1) = (k : Int) + 1 := IntWalk.i64_in _ (by have := HL.out.2.2.2; omega)
            have HD := Lib.hid (And.intro (And.intro hd hz) (And.intro hr hkm))
            clear hd hz hr hkm hKe hq1
            go_wp2_with fail
            go_quiet (fail)
            go_wp2_with fail
            go_roundg (K - (m + 1))
            case measure => omega
            case rel =>
              refine ⟨m + 1, k + 1, by have := HD.out.2.2; omega, by omega, rfl, by simp, ?_, Lib.hid (HJ.out.drewN _)⟩
              show _ = Value.int .u64 (IntKind.wrap .u64 (cntIn (IntKind.wrap .u64) P Q (cntL (IntKind.wrap .u64) P Q i) i m - IntKind.wrap .u64 (IntKind.wrap .u64 (Q.getD (m + 1) 0) * (cntL (IntKind.wrap .u64) P Q i).getD (i - (m + 1)) 0)))
              rw [← HD.out.2.2, HD.out.2.1, HD.out.1.1, HD.out.1.2]
          · obtain rfl : K = m := by omega
            rcases Decidable.em (k ≤ i) with hki | hki
            · have hk1 : (k : Int) ≤ (i : Int) := by omega
              have hk2 : ¬ k < ql := by omega
              clear hkm hKe hq1 hki
              go_wp2_with (first
                | (at_builtin; ((have hA := HJ.out.1.list.below ((Below.refl wr.heap.size wr).alloc (Nat.le_refl _) (.cells #[.int .u64 (cntIn (IntKind.wrap .u64) P Q (cntL (IntKind.wrap .u64) P Q i) i K)] 38))); (obtain ⟨v', w', hr, h1, h2⟩ := app_u64 _ _ _ _ hA (by have h1 := HJ.out.2.2.2.2.2; simp; omega) (by rw [cntL_length]; have := HL.out.2.2.2; omega) wr.heap.size 1 (cntIn (IntKind.wrap .u64) P Q (cntL (IntKind.wrap .u64) P Q i) i K) ((SBlk.new wr 38 [.int .u64 (cntIn (IntKind.wrap .u64) P Q (cntL (IntKind.wrap .u64) P Q i) i K)]).cell 0)); (have HR := Lib.hid (And.intro h1 h2)); (clear hA h1 h2); (refine Lib.wpList_append_run _ rfl (.tmp 56) (.tmp 58) 39 39 rfl _ _ rfl rfl _ _ hr ?_); clear hr)))
              go_roundg (N - (i + 1))
              case measure => omega
              case rel =>
                obtain ⟨h1, h2⟩ := HR.out
                obtain ⟨-, g2, g3, g4, g5, g6⟩ := HJ.out
                have h3 : Below (fb + 1) wr w' := ((Below.refl (fb + 1) wr).alloc g6 _).trans h2
                obtain ⟨k2, k3, k4⟩ := HT.out
                have e1 : cntL (IntKind.wrap .u64) P Q (i + 1) = cntL (IntKind.wrap .u64) P Q i ++ [cntIn (IntKind.wrap .u64) P Q (cntL (IntKind.wrap .u64) P Q i) i K] := by
                  show cntL (IntKind.wrap .u64) P Q i ++ [cntIn (IntKind.wrap .u64) P Q (cntL (IntKind.wrap .u64) P Q i) i (min i (Q.length - 1))] = _
                  rw [HL.out.1.2, HK.out]
                refine ⟨i + 1, by omega, rfl, by simp, Lib.hid ⟨?_, g2.below h3 (by omega), g3.keep k2 h3, g4.keep k3 h3, g5.trans (h3.mono (by omega)), Nat.le_trans g6 h3.size⟩⟩
                rw [e1]
                exact h1.more
            · have hk1 : ¬ k ≤ i := hki
              clear hkm hKe hq1 hki
              go_wp2_with (first
                | (at_builtin; ((have hA := HJ.out.1.list.below ((Below.refl wr.heap.size wr).alloc (Nat.le_refl _) (.cells #[.int .u64 (cntIn (IntKind.wrap .u64) P Q (cntL (IntKind.wrap .u64) P Q i) i K)] 38))); (obtain ⟨v', w', hr, h1, h2⟩ := app_u64 _ _ _ _ hA (by have h1 := HJ.out.2.2.2.2.2; simp; omega) (by rw [cntL_length]; have := HL.out.2.2.2; omega) wr.heap.size 1 (cntIn (IntKind.wrap .u64) P Q (cntL (IntKind.wrap .u64) P Q i) i K) ((SBlk.new wr 38 [.int .u64 (cntIn (IntKind.wrap .u64) P Q (cntL (IntKind.wrap .u64) P Q i) i K)]).cell 0)); (have HR := Lib.hid (And.intro h1 h2)); (clear hA h1 h2); (refine Lib.wpList_append_run _ rfl (.tmp 56) (.tmp 58) 39 39 rfl _ _ rfl rfl _ _ hr ?_); clear hr)))
              go_roundg (N - (i + 1))
              case measure => omega
              case rel =>
                obtain ⟨h1, h2⟩ := HR.out
                obtain ⟨-, g2, g3, g4, g5, g6⟩ := HJ.out
                have h3 : Below (fb + 1) wr w' := ((Below.refl (fb + 1) wr).alloc g6 _).trans h2
                obtain ⟨k2, k3, k4⟩ := HT.out
                have e1 : cntL (IntKind.wrap .u64) P Q (i + 1) = cntL (IntKind.wrap .u64) P Q i ++ [cntIn (IntKind.wrap .u64) P Q (cntL (IntKind.wrap .u64) P Q i) i K] := by
                  show cntL (IntKind.wrap .u64) P Q i ++ [cntIn (IntKind.wrap .u64) P Q (cntL (IntKind.wrap .u64) P Q i) i (min i (Q.length - 1))] = _
                  rw [HL.out.1.2, HK.out]
                refine ⟨i + 1, by omega, rfl, by simp, Lib.hid ⟨?_, g2.below h3 (by omega), g3.keep k2 h3, g4.keep k3 h3, g5.trans (h3.mono (by omega)), Nat.le_trans g6 h3.size⟩⟩
                rw [e1]
                exact h1.more
      · have hip2 : decide ((i : Int) < (pl : Int)) = false := decide_eq_false (by omega)
        have HX : Hid (cntIn (IntKind.wrap .u64) P Q (cntL (IntKind.wrap .u64) P Q i) i 0 = 0) := Lib.hid (by
          show (if i < P.length then IntKind.wrap .u64 (P.getD i 0) else 0) = _
          rw [HL.out.1.1, if_neg hip])
        have hX0 : cntIn (IntKind.wrap .u64) P Q (cntL (IntKind.wrap .u64) P Q i) i 0 = 0 := HX.out
        go_wp2_with fail
        go_loopg [8, 9] K (fun g s8 s9 wi => ∃ m k : Nat, k = m + 1 ∧ m ≤ K ∧ g = K - m ∧ s9 = .int .i64 (k : Int) ∧ s8 = .int .u64 (cntIn (IntKind.wrap .u64) P Q (cntL (IntKind.wrap .u64) P Q i) i m) ∧ Hid (CntI w fb (fb + 1) [.slice (some ⟨pg, 0, none⟩) pl pc, .slice (some ⟨qg, 0, none⟩) ql qc] P Q pg qg (.slice (some ⟨og, 0, none⟩) i ocap) (cntL (IntKind.wrap .u64) P Q i) wi))
        case atStart => exact ⟨0, 1, rfl, Nat.zero_le _, rfl, rfl, by rw [hX0], HI⟩
        case round =>
          clear hX0 HX f0 f1
          obtain ⟨m, k, hkm, hm, rfl, rfl, rfl, HJ⟩ := hrel
          have hKe := HK.out
          have hq1 := HL.out.2.2.1
          have f1 := HJ.out.2.1.cell 1
          simp only [List.getElem?_cons_zero, List.getElem?_cons_succ] at f1
          by_cases hlm : m < K
          · have hk1 : (k : Int) ≤ (i : Int) := by omega
            have hk2 : (k : Int) < (ql : Int) := by omega
            have c1 := HJ.out.2.2.2.1.cell k (by have := HL.out.1.2; omega)
            rw [Nat.zero_add] at c1
            obtain ⟨d, hd⟩ : ∃ d, Q.getD k 0 = d := ⟨_, rfl⟩
            rw [hd] at c1
            obtain ⟨r, hr⟩ : ∃ r, i - k = r := ⟨_, rfl⟩
            have hrk : (i : Int) - (k : Int) = (r : Int) := by omega
            have hwr : IntKind.i64.wrap (r : Int) = (r : Int) := IntWalk.i64_in _ (by have := HL.out.2.2.2; omega)
            have hri : (r : Int) < (i : Int) := by omega
            have c2 : wr.cell? ⟨og, r, none⟩ = some (.int .u64 ((cntL (IntKind.wrap .u64) P Q i).getD r 0)) := by
              obtain ⟨g, cap, _, h2, _, h4⟩ := HJ.out.1.row
              injection h2 with h6
              injection h6 with h6
              injection h6 with h6
              subst h6
              have := h4.cell r (by rw [cntL_length]; omega)
              rwa [Nat.zero_add] at this
            obtain ⟨z, hz⟩ : ∃ z, (cntL (IntKind.wrap .u64) P Q i).getD r 0 = z := ⟨_, rfl⟩
            rw [hz] at c2
            have hwk : IntKind.i64.wrap ((k : Int) + 1) = (k : Int) + 1 := IntWalk.i64_in _ (by have := HL.out.2.2.2; omega)
            have HD := Lib.hid (And.intro (And.intro hd hz) (And.intro hr hkm))
            clear hd hz hr hkm hKe hq1
            go_wp2_with fail
            go_quiet (fail)
            go_wp2_with fail
            go_roundg (K - (m + 1))
            case measure => omega
            case rel =>
              refine ⟨m + 1, k + 1, by have := HD.out.2.2; omega, by omega, rfl, by simp, ?_, Lib.hid (HJ.out.drewN _)⟩
              show _ = Value.int .u64 (IntKind.wrap .u64 (cntIn (IntKind.wrap .u64) P Q (cntL (IntKind.wrap .u64) P Q i) i m - IntKind.wrap .u64 (IntKind.wrap .u64 (Q.getD (m + 1) 0) * (cntL (IntKind.wrap .u64) P Q i).getD (i - (m + 1)) 0)))
              rw [← HD.out.2.2, HD.out.2.1, HD.out.1.1, HD.out.1.2]
          · obtain rfl : K = m := by omega
            rcases Decidable.em (k ≤ i) with hki | hki
            · have hk1 : (k : Int) ≤ (i : Int) := by omega
              have hk2 : ¬ k < ql := by omega
              clear hkm hKe hq1 hki
              go_wp2_with (first
                | (at_builtin; ((have hA := HJ.out.1.list.below ((Below.refl wr.heap.size wr).alloc (Nat.le_refl _) (.cells #[.int .u64 (cntIn (IntKind.wrap .u64) P Q (cntL (IntKind.wrap .u64) P Q i) i K)] 38))); (obtain ⟨v', w', hr, h1, h2⟩ := app_u64 _ _ _ _ hA (by have h1 := HJ.out.2.2.2.2.2; simp; omega) (by rw [cntL_length]; have := HL.out.2.2.2; omega) wr.heap.size 1 (cntIn (IntKind.wrap .u64) P Q (cntL (IntKind.wrap .u64) P Q i) i K) ((SBlk.new wr 38 [.int .u64 (cntIn (IntKind.wrap .u64) P Q (cntL (IntKind.wrap .u64) P Q i) i K)]).cell 0)); (have HR := Lib.hid (And.intro h1 h2)); (clear hA h1 h2); (refine Lib.wpList_append_run _ rfl (.tmp 56) (.tmp 58) 39 39 rfl _ _ rfl rfl _ _ hr ?_); clear hr)))
              go_roundg (N - (i + 1))
              case measure => omega
              case rel =>
                obtain ⟨h1, h2⟩ := HR.out
                obtain ⟨-, g2, g3, g4, g5, g6⟩ := HJ.out
                have h3 : Below (fb + 1) wr w' := ((Below.refl (fb + 1) wr).alloc g6 _).trans h2
                obtain ⟨k2, k3, k4⟩ := HT.out
                have e1 : cntL (IntKind.wrap .u64) P Q (i + 1) = cntL (IntKind.wrap .u64) P Q i ++ [cntIn (IntKind.wrap .u64) P Q (cntL (IntKind.wrap .u64) P Q i) i K] := by
                  show cntL (IntKind.wrap .u64) P Q i ++ [cntIn (IntKind.wrap .u64) P Q (cntL (IntKind.wrap .u64) P Q i) i (min i (Q.length - 1))] = _
                  rw [HL.out.1.2, HK.out]
                refine ⟨i + 1, by omega, rfl, by simp, Lib.hid ⟨?_, g2.below h3 (by omega), g3.keep k2 h3, g4.keep k3 h3, g5.trans (h3.mono (by omega)), Nat.le_trans g6 h3.size⟩⟩
                rw [e1]
                exact h1.more
            · have hk1 : ¬ k ≤ i := hki
              clear hkm hKe hq1 hki
              go_wp2_with (first
                | (at_builtin; ((have hA := HJ.out.1.list.below ((Below.refl wr.heap.size wr).alloc (Nat.le_refl _) (.cells #[.int .u64 (cntIn (IntKind.wrap .u64) P Q (cntL (IntKind.wrap .u64) P Q i) i K)] 38))); (obtain ⟨v', w', hr, h1, h2⟩ := app_u64 _ _ _ _ hA (by have h1 := HJ.out.2.2.2.2.2; simp; omega) (by rw [cntL_length]; have := HL.out.2.2.2; omega) wr.heap.size 1 (cntIn (IntKind.wrap .u64) P Q (cntL (IntKind.wrap .u64) P Q i) i K) ((SBlk.new wr 38 [.int .u64 (cntIn (IntKind.wrap .u64) P Q (cntL (IntKind.wrap .u64) P Q i) i K)]).cell 0)); (have HR := Lib.hid (And.intro h1 h2)); (clear hA h1 h2); (refine Lib.wpList_append_run _ rfl (.tmp 56) (.tmp 58) 39 39 rfl _ _ rfl rfl _ _ hr ?_); clear hr)))
              go_roundg (N - (i + 1))
              case measure => omega
              case rel =>
                obtain ⟨h1, h2⟩ := HR.out
                obtain ⟨-, g2, g3, g4, g5, g6⟩ := HJ.out
                have h3 : Below (fb + 1) wr w' := ((Below.refl (fb + 1) wr).alloc g6 _).trans h2
                obtain ⟨k2, k3, k4⟩ := HT.out
                have e1 : cntL (IntKind.wrap .u64) P Q (i + 1) = cntL (IntKind.wrap .u64) P Q i ++ [cntIn (IntKind.wrap .u64) P Q (cntL (IntKind.wrap .u64) P Q i) i K] := by
                  show cntL (IntKind.wrap .u64) P Q i ++ [cntIn (IntKind.wrap .u64) P Q (cntL (IntKind.wrap .u64) P Q i) i (min i (Q.length - 1))] = _
                  rw [HL.out.1.2, HK.out]
                refine ⟨i + 1, by omega, rfl, by simp, Lib.hid ⟨?_, g2.below h3 (by omega), g3.keep k2 h3, g4.keep k3 h3, g5.trans (h3.mono (by omega)), Nat.le_trans g6 h3.size⟩⟩
                rw [e1]
                exact h1.more
    · obtain rfl : N = i := by omega
      have hend : ¬ N ≤ n := by have := HN.out; omega
      have hrow : RowK .u64 wr og 0 (cntL (IntKind.wrap .u64) P Q N) := HI.out.1.at
      have HRow := Lib.hid hrow
      clear hrow
      go_wp2_with fail
      go_ret
      exact ⟨og, ocap, Q, by rw [HN.out]; rfl, by rw [HN.out]; exact HRow.out, HPQ.out, HI.out.2.2.2.2.1⟩
end Go.Proofs.YtcpeeopdaakbaaaGreat
