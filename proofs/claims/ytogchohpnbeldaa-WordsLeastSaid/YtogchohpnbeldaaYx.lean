/- The statements' common examples hold. -/
import Derived.Test.YtogchohpnbeldaaYw
namespace Go.Proofs.Ytogchohpnbeldaa
open Go.RowKit Go.Shelf Cx

set_option maxRecDepth 100000 in
theorem heptagons_any (w : World) :
    Calls Try.prog 34 #[] w fun e w' => e = .returned (.agg #[.int .i64 3, .int .i64 7, .int .i64 2]) ∧ Below w.heap.size w w' := by
  go_enter Try.func34, Try.ntmps34
  go_wp2_with fail
  refine bodyPost_ret (v := .agg #[.int .i64 3, .int .i64 7, .int .i64 2]) ?_ rfl ⟨rfl, ?_⟩
  · simp [results, Try.results34, go_sem]
  · exact (Below.refl _ w).alloc (Nat.le_refl _) _

theorem nfS {ws : List ByteArray} {l : List Nat} (h : ∀ s ∈ ws, checkS s = 0) (hl : nfL (Mo 3 7 2) (cat ws) = l) : str (nfW 3 7 2 ws) = str l := by
  rw [nfW_eq good372 h, hl]

theorem sane1 (W : World) : Calls Try.prog 12 #[.agg #[.int .i64 3, .int .i64 7, .int .i64 2], .string ⟨#[1, 0, 1]⟩] W fun e w' => e = .returned (.tuple #[.string ⟨#[0, 1, 0]⟩, .int .i64 0]) ∧ Below W.heap.size W w' :=
  (Normal_ok 3 7 2 ⟨#[1, 0, 1]⟩ good372 ex1.1 W).mono (by rintro e w' ⟨rfl, h⟩; exact ⟨by rw [nfS (one_ok ex1.1) ex2.1]; rfl, h⟩)
theorem sane2 (W : World) : Calls Try.prog 12 #[.agg #[.int .i64 3, .int .i64 7, .int .i64 2], .string ⟨#[2, 0]⟩] W fun e w' => e = .returned (.tuple #[.string ⟨#[0, 2]⟩, .int .i64 0]) ∧ Below W.heap.size W w' :=
  (Normal_ok 3 7 2 ⟨#[2, 0]⟩ good372 ex1.2.1 W).mono (by rintro e w' ⟨rfl, h⟩; exact ⟨by rw [nfS (one_ok ex1.2.1) ex2.2.1]; rfl, h⟩)
theorem sane3 (W : World) : Calls Try.prog 14 #[.agg #[.int .i64 3, .int .i64 7, .int .i64 2], .string ⟨#[0, 1, 0]⟩, .string ⟨#[1, 0, 1]⟩] W fun e w' => e = .returned (.tuple #[.bool true, .int .i64 0]) ∧ Below W.heap.size W w' :=
  (Same_ok 3 7 2 ⟨#[0, 1, 0]⟩ ⟨#[1, 0, 1]⟩ good372 ex1.2.2.1 ex1.1 W).mono (by rintro e w' ⟨rfl, h⟩; exact ⟨by rw [nfS (one_ok ex1.2.2.1) ex2.2.2.1, nfS (one_ok ex1.1) ex2.1]; unfold eqB; rw [beq_self_eq_true], h⟩)
theorem sane4 (W : World) : Calls Try.prog 16 #[.agg #[.int .i64 3, .int .i64 7, .int .i64 2], .string ⟨#[0, 1]⟩, .string ⟨#[0, 1]⟩] W fun e w' => e = .returned (.tuple #[.string ⟨#[1, 0]⟩, .int .i64 0]) ∧ Below W.heap.size W w' :=
  (Times_ok 3 7 2 ⟨#[0, 1]⟩ ⟨#[0, 1]⟩ good372 ex1.2.2.2.1 ex1.2.2.2.1 W).mono (by rintro e w' ⟨rfl, h⟩; exact ⟨by rw [nfS (two_ok ex1.2.2.2.1 ex1.2.2.2.1) ex2.2.2.2]; rfl, h⟩)
theorem sane5 (W : World) : Calls Try.prog 20 #[.agg #[.int .i64 3, .int .i64 7, .int .i64 2], .string ⟨#[1, 2]⟩] W fun e w' => e = .returned (.tuple #[.int .i64 7, .int .i64 0]) ∧ Below W.heap.size W w' :=
  Order_ok 3 7 2 ⟨#[1, 2]⟩ 7 good372 ex1.2.2.2.2.1 order12 W
theorem sane6 (W : World) : Calls Try.prog 20 #[.agg #[.int .i64 3, .int .i64 7, .int .i64 2], .string ⟨#[0, 1, 2]⟩] W fun e w' => e = .returned (.tuple #[.int .i64 0, .int .i64 0]) ∧ Below W.heap.size W w' :=
  Order_ok 3 7 2 ⟨#[0, 1, 2]⟩ 0 good372 ex1.2.2.2.2.2.1 order012 W
theorem sane7 (W : World) : Calls Try.prog 12 #[.agg #[.int .i64 3, .int .i64 7, .int .i64 2], .string ⟨#[3]⟩] W fun e w' => e = .returned (.tuple #[.string ⟨#[]⟩, .int .i64 1]) ∧ Below W.heap.size W w' :=
  (Normal_bad 3 7 2 ⟨#[3]⟩ good372 (by decide) (by rw [ex1.2.2.2.2.2.2]; decide) W).mono (by rintro e w' ⟨rfl, h⟩; exact ⟨by rw [ex1.2.2.2.2.2.2], h⟩)

/-- three cells are kept -/
theorem kept3 {w w' : World} {b : Nat} {x y z : Value} (h : SBlk w b 23 [x, y, z]) (hb : Below w.heap.size w w') : SBlk w' b 23 [x, y, z] ∧ w'.cell? ⟨b, 0, none⟩ = some x ∧ w'.cell? ⟨b, 1, none⟩ = some y ∧ w'.cell? ⟨b, 2, none⟩ = some z :=
  ⟨h.below hb h.lt, (h.below hb h.lt).cell 0, (h.below hb h.lt).cell 1, (h.below hb h.lt).cell 2⟩

set_option maxRecDepth 100000 in
set_option maxHeartbeats 4000000 in
theorem sane_any (w : World) :
    Calls Try.prog 10 #[] w fun e w' => e = .returned (.bool true) ∧ Below w.heap.size w w' := by
  have HS := Lib.hid (And.intro heptagons_any (And.intro (And.intro sane1 sane2) (And.intro (And.intro sane3 sane4) (And.intro (And.intro sane5 sane6) sane7))))
  go_enter Try.func10, Try.ntmps10
  go_wp2_with fail
  refine (HS.out.1 _).mono ?_
  rintro e W0 ⟨rfl, hb⟩
  have HZ := Lib.hid hb
  clear hb
  have HK := Lib.hid (SBlk.new W0 23 [.int .i64 3, .int .i64 7, .int .i64 2])
  have HZ := Lib.hid (HZ.out.alloc HZ.out.size (.cells #[.int .i64 3, .int .i64 7, .int .i64 2] 23))
  go_wp2_with fail
  refine (HS.out.2.1.1 _).mono ?_
  rintro e W1 ⟨rfl, hb⟩
  have hk := kept3 HK.out hb
  have HK := Lib.hid hk.1
  obtain ⟨_, x0, x1, x2⟩ := hk
  have HZ := Lib.hid (HZ.out.trans (hb.mono HZ.out.size))
  clear hb
  go_wp2_with fail
  refine (HS.out.2.1.2 _).mono ?_
  rintro e W2 ⟨rfl, hb⟩
  have hk := kept3 HK.out hb
  have HK := Lib.hid hk.1
  obtain ⟨_, x0, x1, x2⟩ := hk
  have HZ := Lib.hid (HZ.out.trans (hb.mono HZ.out.size))
  clear hb
  go_wp2_with fail
  refine (HS.out.2.2.1.1 _).mono ?_
  rintro e W3 ⟨rfl, hb⟩
  have hk := kept3 HK.out hb
  have HK := Lib.hid hk.1
  obtain ⟨_, x0, x1, x2⟩ := hk
  have HZ := Lib.hid (HZ.out.trans (hb.mono HZ.out.size))
  clear hb
  go_wp2_with fail
  refine (HS.out.2.2.1.2 _).mono ?_
  rintro e W4 ⟨rfl, hb⟩
  have hk := kept3 HK.out hb
  have HK := Lib.hid hk.1
  obtain ⟨_, x0, x1, x2⟩ := hk
  have HZ := Lib.hid (HZ.out.trans (hb.mono HZ.out.size))
  clear hb
  go_wp2_with fail
  refine (HS.out.2.2.2.1.1 _).mono ?_
  rintro e W5 ⟨rfl, hb⟩
  have hk := kept3 HK.out hb
  have HK := Lib.hid hk.1
  obtain ⟨_, x0, x1, x2⟩ := hk
  have HZ := Lib.hid (HZ.out.trans (hb.mono HZ.out.size))
  clear hb
  go_wp2_with fail
  refine (HS.out.2.2.2.1.2 _).mono ?_
  rintro e W6 ⟨rfl, hb⟩
  have hk := kept3 HK.out hb
  have HK := Lib.hid hk.1
  obtain ⟨_, x0, x1, x2⟩ := hk
  have HZ := Lib.hid (HZ.out.trans (hb.mono HZ.out.size))
  clear hb
  go_wp2_with fail
  refine (HS.out.2.2.2.2 _).mono ?_
  rintro e W7 ⟨rfl, hb⟩
  have hk := kept3 HK.out hb
  have HK := Lib.hid hk.1
  obtain ⟨_, x0, x1, x2⟩ := hk
  have HZ := Lib.hid (HZ.out.trans (hb.mono HZ.out.size))
  clear hb
  go_wp2_with fail
  go_ret
  exact ⟨rfl, HZ.out⟩
end Go.Proofs.Ytogchohpnbeldaa
