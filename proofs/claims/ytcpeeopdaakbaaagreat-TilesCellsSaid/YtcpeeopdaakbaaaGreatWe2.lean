/- The first tile around a corner. -/
import Derived.Test.YtcpeeopdaakbaaaGreatWe1
import Derived.Deep.RegionHeld3
namespace Go.Proofs.YtcpeeopdaakbaaaGreat
open Go.RowKit Go.Shelf Cx

/-- a side of a corner by its place -/
def sideN (m i : Nat) : Nat := if i = 0 then sideA m else sideB m
theorem sideN_lt {m : Nat} (h : m < 3) (i : Nat) : sideN m i < 3 := by
  have : m = 0 ∨ m = 1 ∨ m = 2 := by omega
  rcases this with rfl | rfl | rfl <;> simp only [sideN, sideA, sideB] <;> split <;> simp
theorem side_ne {m : Nat} (h : m < 3) : sideA m ≠ sideB m := by
  have : m = 0 ∨ m = 1 ∨ m = 2 := by omega
  rcases this with rfl | rfl | rfl <;> decide
set_option maxRecDepth 100000 in
theorem cut_sides {m i : Nat} (h : m < 3) (hi : i < 2) (w : World) : (Instr.slice 9 (.string (str [sideA m, sideB m])) (some (.int .i64 i)) (some (.int .i64 ((i : Int) + 1))) none).run Tryz.prog w = .ok (.string (str [sideN m i])) w := by
  have h3 : m = 0 ∨ m = 1 ∨ m = 2 := by omega
  have h2 : i = 0 ∨ i = 1 := by omega
  rcases h3 with rfl | rfl | rfl <;> rcases h2 with rfl | rfl <;> exact rfl

/-- what is known of a tile on the way to the first one -/
structure Way1 (a b c m : Nat) (x y : G (Mo a b c)) (i f : Nat) : Prop where
  two : ∃ w, Two (sideA m) (sideB m) w ∧ x = y * mk w
  low : Low y
  len : ln y ≤ ln x
  i2 : i < 2
  f2 : f ≤ 2
  back : 1 ≤ f → ¬ Dr y (sideN m (1 - i))
  far : 2 ≤ f → ¬ Dr y (sideN m i)
theorem lows_mo (a b c : Nat) : Lows (Mo a b c) := fun _ _ h hv hr => red_low h hv hr
theorem two_side (m i : Nat) : sideN m i = sideA m ∨ sideN m i = sideB m := by unfold sideN; split <;> simp
theorem one_sub {i : Nat} (h : i < 2) : 1 - (1 - i) = i := by omega
theorem way1_down {a b c m : Nat} (hm : m < 3) {x y : G (Mo a b c)} {i f : Nat} (h : Way1 a b c m x y i f) (hd : Dr y (sideN m i)) : Way1 a b c m x (y * mk [sideN m i]) (1 - i) 1 := by
  obtain ⟨w, hw, he⟩ := h.two
  have hl := ln_down hd
  have hi := h.i2
  refine ⟨⟨sideN m i :: w, fun z hz => ?_, ?_⟩, low_mul (lows_mo a b c) h.low (fun z hz => by rw [List.mem_singleton.1 hz]; exact sideN_lt hm i), by have := h.len; omega, by omega, by omega, fun _ => ?_, fun h => by omega⟩
  · rcases List.mem_cons.1 hz with rfl | hz
    · exact two_side m i
    · exact hw z hz
  · rw [he, show (mk (sideN m i :: w) : G (Mo a b c)) = mk [sideN m i] * mk w from rfl, ← mul_assoc, two_let]
  · rw [one_sub hi]
    exact fun hk => (dr_back y _).1 hk hd
theorem way1_up {a b c m : Nat} {x y : G (Mo a b c)} {i f : Nat} (h : Way1 a b c m x y i f) (hf : f < 2) (hd : ¬ Dr y (sideN m i)) : Way1 a b c m x y (1 - i) (f + 1) := by
  have hi := h.i2
  refine ⟨h.two, h.low, h.len, by omega, by omega, fun _ => ?_, fun hk => ?_⟩
  · rw [one_sub hi]; exact hd
  · exact h.back (by omega)
theorem way1_foot {a b c m : Nat} {x y : G (Mo a b c)} {i : Nat} (h : Way1 a b c m x y i 2) : Foot (Mo a b c) (sideA m) (sideB m) x y := by
  have h1 := h.back (by omega)
  have h2 := h.far (by omega)
  have hi := h.i2
  obtain ⟨w, hw, he⟩ := h.two
  have : i = 0 ∨ i = 1 := by omega
  rcases this with rfl | rfl
  · exact ⟨h2, h1, w, hw, he⟩
  · exact ⟨h1, h2, w, hw, he⟩

/-- a tile's string -/
noncomputable def tile {M : Nat → Nat → Nat} (x : G M) : ByteArray := str (nf x)
theorem tile_size {M : Nat → Nat → Nat} (x : G M) : (tile x).size = ln x := str_size _
theorem tile_check {M : Nat → Nat → Nat} {x : G M} (h : Low x) (hl : ln x ≤ 60) : checkS (tile x) = 0 := check_str h hl
theorem times_tile {a b c : Nat} (hg : Good a b c) {x : G (Mo a b c)} (h : Low x) (hl : ln x ≤ 60) {v : List Nat} (hv : ∀ y ∈ v, y < 3) (hvl : v.length ≤ 60) (W : World) :
    Calls Tryz.prog 112 #[.agg #[.int .i64 a, .int .i64 b, .int .i64 c], .string (tile x), .string (str v)] W fun e w' => e = .returned (.string (tile (x * mk v))) ∧ Below W.heap.size W w' := by
  have h1 := times_ok a b c (tile x) (str v) hg (tile_check h hl) (check_str hv hvl) W
  have e : nfW a b c [tile x, str v] = nf (x * mk v) := by
    show nf _ = nf _
    rw [cat_two]
    unfold tile
    rw [bytesN_str (low256 h), bytesN_str (low256 hv), ← mk_mul, mk_nf]
  rw [e] at h1
  exact h1

set_option maxRecDepth 100000 in
set_option maxHeartbeats 4000000 in
theorem first_ok {a b c m : Nat} (hg : Good a b c) (hm : m < 3) (x : G (Mo a b c)) (hx : Low x) (hl : ln x ≤ 60) (w : World) :
    Calls Tryz.prog 60 #[cornV a b c m, .string (tile x)] w fun e w' => ∃ f, e = .returned (.string (tile f)) ∧ (Foot (Mo a b c) (sideA m) (sideB m) x f ∧ Low f ∧ ln f ≤ ln x) ∧ Below w.heap.size w w' := by
  have HT := Lib.hid (fun (y : G (Mo a b c)) (hy : Low y) (hyl : ln y ≤ 60) (i : Nat) (W : World) => times_tile hg hy hyl (v := [sideN m i]) (fun z hz => by rw [List.mem_singleton.1 hz]; exact sideN_lt hm i) (by simp) W)
  have HC := Lib.hid (fun i (hi : i < 2) W => cut_sides hm hi W)
  have HS := Lib.hid (show (str [sideA m, sideB m]).size = 2 by rw [str_size]; rfl)
  have HX := Lib.hid (And.intro hx hl)
  have HM := Lib.hid hm
  unfold cornV
  generalize hSD : str [sideA m, sideB m] = SD at *
  clear hSD hx hl hg hm
  go_enter Tryz.func60, Tryz.ntmps60
  go_wp2_with fail
  have HB := Lib.hid (And.intro (SBlk.new w 97 [.int .i64 a, .int .i64 b, .int .i64 c, .string SD, .int .i64 (ordC a b c m)]) ((Below.refl w.heap.size w).alloc (Nat.le_refl _) (.cells #[.int .i64 a, .int .i64 b, .int .i64 c, .string SD, .int .i64 (ordC a b c m)] 97)))
  go_loopg [1, 5, 6] (3 * ln x + 2) (fun g s1 s5 s6 wr => ∃ (y : G (Mo a b c)) (i f : Nat), g = 3 * ln y + (2 - f) ∧ s1 = .string (tile y) ∧ s5 = .int .i64 (i : Int) ∧ s6 = .int .i64 (f : Int) ∧ Hid (Way1 a b c m x y i f ∧ SBlk wr w.heap.size 97 [.int .i64 a, .int .i64 b, .int .i64 c, .string SD, .int .i64 (ordC a b c m)] ∧ Below w.heap.size w wr))
  case atStart => exact ⟨x, 0, 0, rfl, rfl, rfl, rfl, Lib.hid ⟨⟨⟨[], fun z hz => (by cases hz), (mul_one x).symm⟩, HX.out.1, Nat.le_refl _, by omega, by omega, fun h => by omega, fun h => by omega⟩, HB.out.1, HB.out.2⟩⟩
  case round =>
    obtain ⟨y, i, f, rfl, rfl, rfl, rfl, HI⟩ := hrel
    clear HB
    have k3 := HI.out.2.1.cell 3
    simp only [List.getElem?_cons_zero, List.getElem?_cons_succ] at k3
    have sz := HS.out
    have hf2 := HI.out.1.f2
    by_cases hlt : f < 2
    · have hfi : (f : Int) < 2 := by omega
      have k0 := HI.out.2.1.cell 0
      have k1 := HI.out.2.1.cell 1
      have k2 := HI.out.2.1.cell 2
      simp only [List.getElem?_cons_zero, List.getElem?_cons_succ] at k0 k1 k2
      have hi2 := HI.out.1.i2
      have hii : (i : Int) ≤ 1 := by omega
      have hw1 : IntKind.i64.wrap ((i : Int) + 1) = (i : Int) + 1 := IntWalk.i64_in _ (by omega)
      have hcut := HC.out i hi2
      have HTy := Lib.hid (fun W => HT.out y HI.out.1.low (by have := HI.out.1.len; have := HX.out.2; omega) i W)
      have hkk := fun W (hb : Below wr.heap.size wr W) => (⟨(hb.cell (p := ⟨w.heap.size, 0, none⟩) HI.out.2.1.lt).trans k0, (hb.cell (p := ⟨w.heap.size, 1, none⟩) HI.out.2.1.lt).trans k1, (hb.cell (p := ⟨w.heap.size, 2, none⟩) HI.out.2.1.lt).trans k2, (hb.cell (p := ⟨w.heap.size, 3, none⟩) HI.out.2.1.lt).trans k3⟩ : W.cell? ⟨w.heap.size, 0, none⟩ = some (.int .i64 a) ∧ W.cell? ⟨w.heap.size, 1, none⟩ = some (.int .i64 b) ∧ W.cell? ⟨w.heap.size, 2, none⟩ = some (.int .i64 c) ∧ W.cell? ⟨w.heap.size, 3, none⟩ = some (.string SD))
      have HK := Lib.hid hkk
      clear hi2 hkk
      obtain ⟨T1, hT1⟩ : ∃ z, tile y = z := ⟨_, rfl⟩
      obtain ⟨T2, hT2⟩ : ∃ z, tile (y * mk [sideN m i]) = z := ⟨_, rfl⟩
      rw [hT1]
      rw [hT1, hT2] at HTy
      have HTT := Lib.hid (And.intro hT1 hT2)
      have hs1 : T1.size = ln y := by rw [← hT1, tile_size]
      have hs2 : T2.size = ln (y * mk [sideN m i]) := by rw [← hT2, tile_size]
      clear hT1 hT2
      obtain ⟨SE, hSE⟩ : ∃ z, str [sideN m i] = z := ⟨_, rfl⟩
      rw [hSE] at hcut HTy
      clear hSE
      by_cases hd : Dr y (sideN m i)
      · have hdl := ln_down hd
        have hle : (T2.size : Int) < (T1.size : Int) := by omega
        have HD := Lib.hid (And.intro hd (And.intro hs1 (And.intro hs2 hdl)))
        clear hd hs1 hs2 hdl
        go_wp2_with fail
        go_region_held3 (fun w' => w'.cell? ⟨w.heap.size, 0, none⟩ = some (.int .i64 a) ∧ w'.cell? ⟨w.heap.size, 1, none⟩ = some (.int .i64 b) ∧ w'.cell? ⟨w.heap.size, 2, none⟩ = some (.int .i64 c) ∧ w'.cell? ⟨w.heap.size, 3, none⟩ = some (.string SD))
          (first | (with_reducible assumption) | (with_reducible exact kp) | (go_keep; done))
          (first
            | (go_at_call 112; (with_reducible refine (HTy.out _).mono ?_); rintro e w2 ⟨rfl, hb⟩; replace hb := below_undrew hb; have kp := HK.out w2 hb; have HB2 := Lib.hid hb; clear hb))
        clear kp
        go_wp2_with fail
        go_roundg (3 * ln (y * mk [sideN m i]) + (2 - 1))
        case measure => have := HD.out.2.2.2; omega
        case rel =>
          refine ⟨y * mk [sideN m i], 1 - i, 1, rfl, by rw [HTT.out.2], by congr 1; have := HI.out.1.i2; omega, rfl, Lib.hid ⟨way1_down HM.out HI.out.1 HD.out.1, HI.out.2.1.below HB2.out HI.out.2.1.lt, HI.out.2.2.trans (HB2.out.mono HI.out.2.2.size)⟩⟩
      · have hdl := ln_up hd
        have hle : decide ((T2.size : Int) < (T1.size : Int)) = false := by simp; omega
        have hle2 : decide (T2.size < T1.size) = false := by simp; omega
        have HD := Lib.hid (And.intro hd (And.intro hs1 (And.intro hs2 hdl)))
        clear hd hs1 hs2 hdl
        have hwf : IntKind.i64.wrap ((f : Int) + 1) = (f : Int) + 1 := IntWalk.i64_in _ (by omega)
        go_wp2_with fail
        go_region_held3 (fun w' => w'.cell? ⟨w.heap.size, 0, none⟩ = some (.int .i64 a) ∧ w'.cell? ⟨w.heap.size, 1, none⟩ = some (.int .i64 b) ∧ w'.cell? ⟨w.heap.size, 2, none⟩ = some (.int .i64 c) ∧ w'.cell? ⟨w.heap.size, 3, none⟩ = some (.string SD))
          (first | (with_reducible assumption) | (with_reducible exact kp) | (go_keep; done))
          (first
            | (go_at_call 112; (with_reducible refine (HTy.out _).mono ?_); rintro e w2 ⟨rfl, hb⟩; replace hb := below_undrew hb; have kp := HK.out w2 hb; have HB2 := Lib.hid hb; clear hb))
        clear kp
        go_wp2_with fail
        go_roundg (3 * ln y + (2 - (f + 1)))
        case measure => omega
        case rel =>
          refine ⟨y, 1 - i, f + 1, rfl, by rw [HTT.out.1], by congr 1; have := HI.out.1.i2; omega, by simp, Lib.hid ⟨way1_up HI.out.1 hlt HD.out.1, HI.out.2.1.below HB2.out HI.out.2.1.lt, HI.out.2.2.trans (HB2.out.mono HI.out.2.2.size)⟩⟩
    · obtain rfl : f = 2 := by omega
      go_wp2_with fail
      go_ret
      exact ⟨y, rfl, ⟨way1_foot HI.out.1, HI.out.1.low, HI.out.1.len⟩, HI.out.2.2⟩
end Go.Proofs.YtcpeeopdaakbaaaGreat
