/- Equal lists. The statements' common examples hold (tiles). -/
import Derived.Test.YtcpeeopdaakbaaaGreatDiA
import Derived.Test.YtcpeeopdaakbaaaGreatCuA
import Derived.Test.YtcpeeopdaakbaaaGreatLoA
import Derived.Test.YtcpeeopdaakbaaaGreatWeB
import Derived.Test.YtcpeeopdaakbaaaGreatTf1
namespace Go.Proofs.YtcpeeopdaakbaaaGreat
open Go.RowKit Go.Shelf Cx

set_option maxRecDepth 100000 in
set_option maxHeartbeats 2000000 in
theorem sameW_eq (l : List ByteArray) (pa pb ca cb : Nat) (w : World) (hl : l.length ≤ 1000000000) (ha : ∀ i, i < l.length → w.cell? ⟨pa, i, none⟩ = some (.string (l.getD i ⟨#[]⟩))) (hb : ∀ i, i < l.length → w.cell? ⟨pb, i, none⟩ = some (.string (l.getD i ⟨#[]⟩))) :
    Calls Tryz.prog 17 #[.slice (some ⟨pa, 0, none⟩) l.length ca, .slice (some ⟨pb, 0, none⟩) l.length cb] w fun e w' => e = .returned (.bool true) ∧ Below w.heap.size w w' := by
  have H := Lib.hid (And.intro ha (And.intro hb hl))
  clear ha hb hl
  obtain ⟨n, hn⟩ : ∃ n, l.length = n := ⟨_, rfl⟩
  rw [hn] at H ⊢
  clear hn
  go_enter Tryz.func17, Tryz.ntmps17
  go_wp2_with fail
  go_loopg [5] n (fun g s5 wr => ∃ k : Nat, k ≤ n ∧ g = n - k ∧ s5 = .int .i64 (k : Int) ∧ Hid (wr.heap = w.heap ∧ Below w.heap.size w wr))
  case atStart => exact ⟨0, Nat.zero_le _, rfl, rfl, Lib.hid ⟨rfl, Below.refl _ _⟩⟩
  case round =>
    obtain ⟨k, hk, rfl, rfl, HI⟩ := hrel
    by_cases hlt : k < n
    · have hki : (k : Int) < (n : Int) := by omega
      have hcell : ∀ p, wr.cell? p = w.cell? p := fun p => by unfold World.cell?; rw [HI.out.1]
      have c1 : wr.cell? ⟨pa, k, none⟩ = some (.string (l.getD k ⟨#[]⟩)) := (hcell _).trans (H.out.1 k hlt)
      have c2 : wr.cell? ⟨pb, k, none⟩ = some (.string (l.getD k ⟨#[]⟩)) := (hcell _).trans (H.out.2.1 k hlt)
      clear hcell
      obtain ⟨T, hT⟩ : ∃ z, l.getD k ⟨#[]⟩ = z := ⟨_, rfl⟩
      rw [hT] at c1 c2
      clear hT
      have hwk : IntKind.i64.wrap ((k : Int) + 1) = (k : Int) + 1 := IntWalk.i64_in _ (by have := H.out.2.2; omega)
      go_wp2_with fail
      go_quiet (fail)
      go_wp2_with fail
      go_roundg (n - (k + 1))
      case measure => omega
      case rel => exact ⟨k + 1, by omega, rfl, by simp, Lib.hid ⟨HI.out.1, below_drewN HI.out.2 _⟩⟩
    · obtain rfl : k = n := by omega
      go_wp2_with fail
      go_ret
      exact ⟨rfl, HI.out.2⟩

set_option maxRecDepth 100000 in
set_option maxHeartbeats 2000000 in
theorem same_eq (l : List Int) (pa pb ca cb : Nat) (w : World) (hl : l.length ≤ 1000000000) (ha : ∀ i, i < l.length → w.cell? ⟨pa, i, none⟩ = some (.int .i64 (l.getD i 0))) (hb : ∀ i, i < l.length → w.cell? ⟨pb, i, none⟩ = some (.int .i64 (l.getD i 0))) :
    Calls Tryz.prog 66 #[.slice (some ⟨pa, 0, none⟩) l.length ca, .slice (some ⟨pb, 0, none⟩) l.length cb] w fun e w' => e = .returned (.bool true) ∧ Below w.heap.size w w' := by
  have H := Lib.hid (And.intro ha (And.intro hb hl))
  clear ha hb hl
  obtain ⟨n, hn⟩ : ∃ n, l.length = n := ⟨_, rfl⟩
  rw [hn] at H ⊢
  clear hn
  go_enter Tryz.func66, Tryz.ntmps66
  go_wp2_with fail
  go_loopg [5] n (fun g s5 wr => ∃ k : Nat, k ≤ n ∧ g = n - k ∧ s5 = .int .i64 (k : Int) ∧ Hid (wr.heap = w.heap ∧ Below w.heap.size w wr))
  case atStart => exact ⟨0, Nat.zero_le _, rfl, rfl, Lib.hid ⟨rfl, Below.refl _ _⟩⟩
  case round =>
    obtain ⟨k, hk, rfl, rfl, HI⟩ := hrel
    by_cases hlt : k < n
    · have hki : (k : Int) < (n : Int) := by omega
      have hcell : ∀ p, wr.cell? p = w.cell? p := fun p => by unfold World.cell?; rw [HI.out.1]
      have c1 : wr.cell? ⟨pa, k, none⟩ = some (.int .i64 (l.getD k 0)) := (hcell _).trans (H.out.1 k hlt)
      have c2 : wr.cell? ⟨pb, k, none⟩ = some (.int .i64 (l.getD k 0)) := (hcell _).trans (H.out.2.1 k hlt)
      clear hcell
      obtain ⟨T, hT⟩ : ∃ z, l.getD k 0 = z := ⟨_, rfl⟩
      rw [hT] at c1 c2
      clear hT
      have hwk : IntKind.i64.wrap ((k : Int) + 1) = (k : Int) + 1 := IntWalk.i64_in _ (by have := H.out.2.2; omega)
      go_wp2_with fail
      go_quiet (fail)
      go_wp2_with fail
      go_roundg (n - (k + 1))
      case measure => omega
      case rel => exact ⟨k + 1, by omega, rfl, by simp, Lib.hid ⟨HI.out.1, below_drewN HI.out.2 _⟩⟩
    · obtain rfl : k = n := by omega
      go_wp2_with fail
      go_ret
      exact ⟨rfl, HI.out.2⟩
end Go.Proofs.YtcpeeopdaakbaaaGreat

namespace Go.Proofs.YtcpeeopdaakbaaaGreat
open Go.RowKit Go.Shelf Cx

def exL : List ByteArray := [⟨#[0, 1]⟩, ⟨#[0, 2]⟩, ⟨#[1, 0]⟩, ⟨#[1, 2]⟩, ⟨#[2, 1]⟩]
theorem exL_cells : cellsT exL = [.string ⟨#[0, 1]⟩, .string ⟨#[0, 2]⟩, .string ⟨#[1, 0]⟩, .string ⟨#[1, 2]⟩, .string ⟨#[2, 1]⟩] := rfl

theorem sn1 (W : World) : Calls Tryz.prog 62 #[.agg #[.int .i64 3, .int .i64 7, .int .i64 2], .int .i64 2] W fun e w' => ∃ g cap ex, e = .returned (.tuple #[.slice (some ⟨g, 0, none⟩) 5 cap, .int .i64 0]) ∧ SBlk w' g 9 (cellsT exL ++ ex) ∧ Below W.heap.size W w' := by
  have h := Ring_ok good372 2 (by omega) W
  rw [ex_words] at h
  refine h.mono ?_
  rintro e w' ⟨v, rfl, hl, hb⟩
  rcases hl with ⟨h1, _⟩ | ⟨g, cap, ex, _, rfl, _, _, h5⟩
  · cases h1
  · exact ⟨g, cap, ex, rfl, h5, hb⟩
theorem sn3 (W : World) : Calls Tryz.prog 64 #[.agg #[.int .i64 0, .int .i64 0, .int .i64 0], .int .i64 3] W fun e w' => e = .returned (.tuple #[.int .u64 12, .int .i64 0]) ∧ Below W.heap.size W w' := by
  have h := Count_ok good000 3 (by omega) W
  rw [ex_count] at h
  exact h
theorem sn4 (W : World) : Calls Tryz.prog 14 #[.agg #[.int .i64 3, .int .i64 7, .int .i64 2], .string ⟨#[]⟩, .int .i64 2] W fun e w' => ∃ g, e = .returned (.tuple #[.slice (some ⟨g, 0, none⟩) 6 6, .int .i64 0]) ∧ Below W.heap.size W w' := by
  refine (Around_ok good372 (m := 2) (by omega) (ord_ne 2) ⟨#[]⟩ (by decide +kernel) W).mono ?_
  rintro e w' ⟨tb, f, rfl, _, _, _, hb⟩
  exact ⟨tb, rfl, hb⟩
theorem sn5 (W : World) : Calls Tryz.prog 19 #[.agg #[.int .i64 3, .int .i64 7, .int .i64 2], .int .i64 1] W fun e w' => e = .returned (.tuple #[.int .i64 6, .int .i64 9, .int .i64 4, .int .i64 0]) ∧ Below W.heap.size W w' := by
  have h := Cells_ok good372 1 (by omega) W
  rw [ex_edges, ex_corners, ex_tiles] at h
  exact h
theorem ex_way : (wayS 3 7 2 ⟨#[0]⟩ ⟨#[1]⟩).length = 2 := by
  unfold wayS
  rw [nfL_eq ords372 (by decide +kernel)]
  decide +kernel
theorem sn6 (W : World) : Calls Tryz.prog 65 #[.agg #[.int .i64 3, .int .i64 7, .int .i64 2], .string ⟨#[0]⟩, .string ⟨#[1]⟩] W fun e w' => e = .returned (.tuple #[.int .i64 2, .int .i64 0]) ∧ Below W.heap.size W w' := by
  have h := Far_ok 3 7 2 ⟨#[0]⟩ ⟨#[1]⟩ good372 (by decide +kernel) (by decide +kernel) W
  rw [ex_way] at h
  exact h
theorem sn7 (W : World) : Calls Tryz.prog 62 #[.agg #[.int .i64 3, .int .i64 7, .int .i64 2], .int .i64 15] W fun e w' => e = .returned (.tuple #[.slice none 0 0, .int .i64 4]) ∧ Below W.heap.size W w' := by
  have e : faultT 3 7 2 15 14 = 4 := by
    have := allowedS_good good372
    unfold faultT
    rw [if_pos (by simpa using this)]
    decide
  have h := Ring_err 3 7 2 15 (by rw [e]; decide) W
  rw [e] at h
  exact h
theorem sn8 (p q cp cq : Nat) (ex : List Value) (W : World) (h1 : SBlk W p 9 (cellsT exL ++ ex)) (h2 : SBlk W q 9 [.string ⟨#[0, 1]⟩, .string ⟨#[0, 2]⟩, .string ⟨#[1, 0]⟩, .string ⟨#[1, 2]⟩, .string ⟨#[2, 1]⟩]) : Calls Tryz.prog 17 #[.slice (some ⟨p, 0, none⟩) 5 cp, .slice (some ⟨q, 0, none⟩) 5 cq] W fun e w' => e = .returned (.bool true) ∧ Below W.heap.size W w' := by
  refine sameW_eq exL p q cp cq W (by decide) (fun i hi => ?_) (fun i hi => ?_)
  · rw [h1.cell, List.getElem?_append_left (by rw [cellsT_length]; exact hi), cellsT_get hi]
  · rw [h2.cell, ← exL_cells, cellsT_get hi]
theorem sn9 (l : List Int) (n p q cp cq : Nat) (W : World) (hn : l.length = n) (hl : l.length ≤ 1000000000) (h1 : SBlk W p 3 (cellsK .i64 l)) (h2 : SBlk W q 3 (cellsK .i64 l)) : Calls Tryz.prog 66 #[.slice (some ⟨p, 0, none⟩) n cp, .slice (some ⟨q, 0, none⟩) n cq] W fun e w' => e = .returned (.bool true) ∧ Below W.heap.size W w' := by
  subst hn
  have hc : ∀ i, i < l.length → (cellsK .i64 l)[i]? = some (.int .i64 (l.getD i 0)) := fun i hi => by
    simp [cellsK, List.getElem?_eq_getElem hi]
  refine same_eq l p q cp cq W hl (fun i hi => ?_) (fun i hi => ?_)
  · rw [h1.cell, hc i hi]
  · rw [h2.cell, hc i hi]

set_option maxRecDepth 100000 in
set_option maxHeartbeats 4000000 in
theorem saneT_any (w : World) :
    Calls Tryz.prog 15 #[] w fun e w' => e = .returned (.bool true) ∧ Below w.heap.size w w' := by
  have HS := Lib.hid (And.intro (And.intro sn1 Series_000) (And.intro (And.intro sn3 sn4) (And.intro (And.intro sn5 sn6) sn7)))
  go_enter Tryz.func15, Tryz.ntmps15
  have HK := Lib.hid (SBlk.new w 23 [.int .i64 3, .int .i64 7, .int .i64 2])
  have HZ := Lib.hid ((Below.refl w.heap.size w).alloc (Nat.le_refl _) (.cells #[.int .i64 3, .int .i64 7, .int .i64 2] 23))
  go_wp2_with fail
  refine (HS.out.1.1 _).mono ?_
  rintro e W1 ⟨lb, cap, ex, rfl, hl, hb⟩
  have hk := kept3 HK.out hb
  have HK := Lib.hid hk.1
  obtain ⟨_, x0, x1, x2⟩ := hk
  have HL := Lib.hid hl
  have HZ := Lib.hid (HZ.out.trans (hb.mono HZ.out.size))
  clear hb hl
  go_wp2_with fail
  refine (HS.out.1.2 _).mono ?_
  rintro e W2 ⟨nb, db, rfl, h1, h2, hb⟩
  have hk := kept3 HK.out hb
  have HK := Lib.hid hk.1
  obtain ⟨_, x0, x1, x2⟩ := hk
  have HL := Lib.hid (HL.out.below hb HL.out.lt)
  have HN := Lib.hid (And.intro h1 h2)
  have HZ := Lib.hid (HZ.out.trans (hb.mono HZ.out.size))
  clear hb h1 h2
  go_wp2_with fail
  refine (HS.out.2.1.1 _).mono ?_
  rintro e W3 ⟨rfl, hb⟩
  have hk := kept3 HK.out hb
  have HK := Lib.hid hk.1
  obtain ⟨_, x0, x1, x2⟩ := hk
  have HL := Lib.hid (HL.out.below hb HL.out.lt)
  have HN := Lib.hid (And.intro (HN.out.1.below hb HN.out.1.lt) (HN.out.2.below hb HN.out.2.lt))
  have HZ := Lib.hid (HZ.out.trans (hb.mono HZ.out.size))
  clear hb
  go_wp2_with fail
  refine (HS.out.2.1.2 _).mono ?_
  rintro e W4 ⟨ab, rfl, hb⟩
  have hk := kept3 HK.out hb
  have HK := Lib.hid hk.1
  obtain ⟨_, x0, x1, x2⟩ := hk
  have HL := Lib.hid (HL.out.below hb HL.out.lt)
  have HN := Lib.hid (And.intro (HN.out.1.below hb HN.out.1.lt) (HN.out.2.below hb HN.out.2.lt))
  have HZ := Lib.hid (HZ.out.trans (hb.mono HZ.out.size))
  clear hb
  go_wp2_with fail
  refine (HS.out.2.2.1.1 _).mono ?_
  rintro e W5 ⟨rfl, hb⟩
  have hk := kept3 HK.out hb
  have HK := Lib.hid hk.1
  obtain ⟨_, x0, x1, x2⟩ := hk
  have HL := Lib.hid (HL.out.below hb HL.out.lt)
  have HN := Lib.hid (And.intro (HN.out.1.below hb HN.out.1.lt) (HN.out.2.below hb HN.out.2.lt))
  have HZ := Lib.hid (HZ.out.trans (hb.mono HZ.out.size))
  clear hb
  go_wp2_with fail
  refine (HS.out.2.2.1.2 _).mono ?_
  rintro e W6 ⟨rfl, hb⟩
  have hk := kept3 HK.out hb
  have HK := Lib.hid hk.1
  obtain ⟨_, x0, x1, x2⟩ := hk
  have HL := Lib.hid (HL.out.below hb HL.out.lt)
  have HN := Lib.hid (And.intro (HN.out.1.below hb HN.out.1.lt) (HN.out.2.below hb HN.out.2.lt))
  have HZ := Lib.hid (HZ.out.trans (hb.mono HZ.out.size))
  clear hb
  go_wp2_with fail
  refine (HS.out.2.2.2 _).mono ?_
  rintro e W7 ⟨rfl, hb⟩
  have HL := Lib.hid (HL.out.below hb HL.out.lt)
  have HN := Lib.hid (And.intro (HN.out.1.below hb HN.out.1.lt) (HN.out.2.below hb HN.out.2.lt))
  have HZ := Lib.hid (HZ.out.trans (hb.mono HZ.out.size))
  clear hb x0 x1 x2 HK
  go_wp2_with fail
  refine (sn8 lb _ cap 5 ex _ (HL.out.alloc _) (SBlk.new W7 9 [.string ⟨#[0, 1]⟩, .string ⟨#[0, 2]⟩, .string ⟨#[1, 0]⟩, .string ⟨#[1, 2]⟩, .string ⟨#[2, 1]⟩])).mono ?_
  rintro e W8 ⟨rfl, hb⟩
  have hn1 := (HN.out.1.alloc (.cells #[.string ⟨#[0, 1]⟩, .string ⟨#[0, 2]⟩, .string ⟨#[1, 0]⟩, .string ⟨#[1, 2]⟩, .string ⟨#[2, 1]⟩] 9))
  have hn2 := (HN.out.2.alloc (.cells #[.string ⟨#[0, 1]⟩, .string ⟨#[0, 2]⟩, .string ⟨#[1, 0]⟩, .string ⟨#[1, 2]⟩, .string ⟨#[2, 1]⟩] 9))
  have HN := Lib.hid (And.intro (hn1.below hb hn1.lt) (hn2.below hb hn2.lt))
  have hz := (HZ.out.alloc HZ.out.size (.cells #[.string ⟨#[0, 1]⟩, .string ⟨#[0, 2]⟩, .string ⟨#[1, 0]⟩, .string ⟨#[1, 2]⟩, .string ⟨#[2, 1]⟩] 9))
  have HZ := Lib.hid (hz.trans (hb.mono hz.size))
  clear hb hn1 hn2 hz
  go_wp2_with fail
  refine (sn9 [1, 1] 2 nb _ 2 2 _ rfl (by decide) (HN.out.1.alloc _) (SBlk.new W8 3 [.int .i64 1, .int .i64 1])).mono ?_
  rintro e W9 ⟨rfl, hb⟩
  have hn2 := (HN.out.2.alloc (.cells #[.int .i64 1, .int .i64 1] 3))
  have HN := Lib.hid (hn2.below hb hn2.lt)
  have hz := (HZ.out.alloc HZ.out.size (.cells #[.int .i64 1, .int .i64 1] 3))
  have HZ := Lib.hid (hz.trans (hb.mono hz.size))
  clear hb hn2 hz
  go_wp2_with fail
  refine (sn9 [1, -2] 2 db _ 2 2 _ rfl (by decide) (HN.out.alloc _) (SBlk.new W9 3 [.int .i64 1, .int .i64 (-2)])).mono ?_
  rintro e WA ⟨rfl, hb⟩
  have hz := (HZ.out.alloc HZ.out.size (.cells #[.int .i64 1, .int .i64 (-2)] 3))
  have HZ := Lib.hid (hz.trans (hb.mono hz.size))
  clear hb hz
  go_wp2_with fail
  go_ret
  exact ⟨rfl, HZ.out⟩
end Go.Proofs.YtcpeeopdaakbaaaGreat
