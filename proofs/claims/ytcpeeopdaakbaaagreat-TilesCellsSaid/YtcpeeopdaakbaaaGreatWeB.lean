/- The tiles around a corner, in order. A corner that is asked for. Around. -/
import Derived.Test.YtcpeeopdaakbaaaGreatWe2
import Derived.Test.YtcpeeopdaakbaaaGreatRe1
namespace Go.Proofs.YtcpeeopdaakbaaaGreat
open Go.RowKit Go.Shelf Cx

theorem repeat_alt (p q : Nat) : ∀ n, Lib.repeatL [UInt8.ofNat p, UInt8.ofNat q] n = (alt p q (2 * n)).map UInt8.ofNat
  | 0 => rfl
  | n + 1 => by
    have ih := repeat_alt p q n
    rw [show 2 * (n + 1) = 2 * n + 1 + 1 by omega]
    show Lib.repeatL _ (n + 1) = UInt8.ofNat p :: UInt8.ofNat q :: (alt p q (2 * n)).map UInt8.ofNat
    rw [← ih]
    rfl
theorem repeat_ok (p q n : Nat) (hn : n ≤ 1000) (w : World) : Calls Tryz.prog 113 #[.string (str [p, q]), .int .i64 n] w fun e w' => e = .returned (.string (str (alt p q (2 * n)))) ∧ Below w.heap.size w w' := by
  have h := Tryz.strings_Repeat (str [p, q]) n w (by omega) (by rw [str_size]; simp; omega)
  have e : (⟨(Lib.repeatL (str [p, q]).data.toList n).toArray⟩ : ByteArray) = str (alt p q (2 * n)) := by
    show (⟨(Lib.repeatL [UInt8.ofNat p, UInt8.ofNat q] n).toArray⟩ : ByteArray) = _
    rw [repeat_alt]; rfl
  rw [e] at h
  exact h

/-- strings that are laid one after another -/
def arrT (F : Nat → ByteArray) (n k : Nat) : List ByteArray := (List.range n).map (fun i => if i < k then F i else ⟨#[]⟩)
theorem arrT_length (F : Nat → ByteArray) (n k : Nat) : (arrT F n k).length = n := by simp [arrT]
theorem arrT_zero (F : Nat → ByteArray) (n : Nat) : arrT F n 0 = List.replicate n ⟨#[]⟩ := by
  unfold arrT
  apply List.ext_getElem
  · simp
  · intro i h1 h2; simp
theorem arrT_all (F : Nat → ByteArray) (n : Nat) : arrT F n n = (List.range n).map F := by
  unfold arrT
  apply List.map_congr_left
  intro i hi
  rw [if_pos (List.mem_range.1 hi)]
theorem arrT_set (F : Nat → ByteArray) {n k : Nat} : (cellsT (arrT F n k)).set k (.string (F k)) = cellsT (arrT F n (k + 1)) := by
  unfold cellsT arrT
  apply List.ext_getElem
  · simp
  · intro i h1 h2
    simp only [List.getElem_set, List.getElem_map, List.getElem_range]
    by_cases e : k = i
    · subst e; simp
    · rw [if_neg e]
      congr 1
      by_cases h3 : i < k
      · rw [if_pos h3, if_pos (by omega)]
      · rw [if_neg h3, if_neg (by omega)]

set_option maxRecDepth 100000 in
theorem make_str (n : Nat) (h : n ≤ 1000000) (w : World) : (Instr.makeSlice 28 (.int .i64 n) (.int .i64 n)).run Tryz.prog w = .ok (.slice (some ⟨w.heap.size, 0, none⟩) n n) (w.alloc (.cells (cellsT (List.replicate n ⟨#[]⟩)).toArray 9)) := by
  have h := run_make_row' (P := Tryz.prog) 28 9 (.string ⟨#[]⟩) 16 Tryz.underlying28 infoS rfl .i64 .i64 n (by omega) (by omega) w
  rw [h]
  congr 3
  congr 1
  apply Array.ext
  · simp [madeCells, cellsT]
  · intro i h1 h2
    simp [madeCells, cellsT, Nat.mod_one]

theorem str_take' (l : List Nat) {k : Nat} (h : k ≤ l.length) (W : World) : (Instr.slice 9 (.string (str l)) none (some (.int .i64 k)) none).run Tryz.prog W = .ok (.string (str (l.take k))) W := by
  have h1 : (k : Int) ≤ ((str l).size : Int) := by rw [str_size]; omega
  rw [run_slice_string_h _ _ _ Tryz.underlying9 _ _ (by omega) h1, Int.toNat_natCast, str_take]

theorem alt_take (p q : Nat) {k n : Nat} (h : k ≤ n) : (alt p q n).take k = alt p q k := by
  obtain ⟨r, rfl⟩ : ∃ r, n = k + r := ⟨n - k, by omega⟩
  rw [alt_add, List.take_append_of_le_length (by rw [alt_length]; exact Nat.le_refl _), List.take_of_length_le (by rw [alt_length]; exact Nat.le_refl _)]

/-- the tiles around a corner, from one on -/
noncomputable def ringT {a b c : Nat} (m : Nat) (f : G (Mo a b c)) (i : Nat) : ByteArray := tile (f * mk (alt (sideA m) (sideB m) i))
set_option maxRecDepth 100000 in
set_option maxHeartbeats 4000000 in
theorem around_ok {a b c m : Nat} (hg : Good a b c) (hm : m < 3) (f : G (Mo a b c)) (hf : Low f) (hl : ln f ≤ 60) (w : World) :
    Calls Tryz.prog 61 #[cornV a b c m, .string (tile f)] w fun e w' => ∃ tb, e = .returned (.slice (some ⟨tb, 0, none⟩) (2 * ordC a b c m) (2 * ordC a b c m)) ∧
      SBlk w' tb 9 (cellsT ((List.range (2 * ordC a b c m)).map (ringT m f))) ∧ w.heap.size ≤ tb ∧ Below w.heap.size w w' := by
  have hord : ordC a b c m ≤ 12 := by
    rw [ordC_eq a b c hm]
    have := Mo_lim hg.1 hg.2 hg.3 (sideA m) (sideB m)
    rcases this with h | h <;> omega
  have HT := Lib.hid (fun k (hk : k ≤ 24) W => times_tile hg hf hl (v := alt (sideA m) (sideB m) k) (alt_low (sideN_lt hm 0) (sideN_lt hm 1) k) (by rw [alt_length]; omega) W)
  have HR := Lib.hid (fun W => repeat_ok (sideA m) (sideB m) (ordC a b c m) (by omega) W)
  have HTK := Lib.hid (fun k (hk : k ≤ 2 * ordC a b c m) W => by
    have := str_take' (alt (sideA m) (sideB m) (2 * ordC a b c m)) (k := k) (by rw [alt_length]; exact hk) W
    rwa [alt_take _ _ hk] at this)
  have hTS : (str (alt (sideA m) (sideB m) (2 * ordC a b c m))).size = 2 * ordC a b c m := by rw [str_size, alt_length]
  have HTS := Lib.hid hTS
  have hmk := make_str (2 * ordC a b c m) (by omega)
  unfold cornV
  obtain ⟨T0, hT0⟩ : ∃ z, tile f = z := ⟨_, rfl⟩
  rw [hT0] at HT ⊢
  have HT0 := Lib.hid hT0
  generalize str [sideA m, sideB m] = SD at *
  generalize str (alt (sideA m) (sideB m) (2 * ordC a b c m)) = TS at *
  obtain ⟨o, ho⟩ : ∃ o, ordC a b c m = o := ⟨_, rfl⟩
  rw [ho] at hord HR HTK HTS hTS hmk ⊢
  clear hT0 ho hf hl hg hTS
  go_enter Tryz.func61, Tryz.ntmps61
  go_wp2_with fail
  have q0 := SBlk.new w 97 [.int .i64 a, .int .i64 b, .int .i64 c, .string SD, .int .i64 o]
  have b0 := (Below.refl w.heap.size w).alloc (Nat.le_refl _) (.cells #[.int .i64 a, .int .i64 b, .int .i64 c, .string SD, .int .i64 o] 97)
  refine (HR.out _).mono ?_
  rintro e w1 ⟨rfl, hb1⟩
  have q1 := q0.below hb1 (by simp)
  have HW1 := Lib.hid (show w.heap.size < w1.heap.size by have := hb1.size; simp at this; omega)
  have b1 := b0.trans (hb1.mono (by simp))
  have sz := HTS.out
  have hcast : ((2 * o : Nat) : Int) = 2 * (o : Int) := by omega
  have hq : SBlk (w1.alloc (.cells (cellsT (List.replicate (2 * o) ⟨#[]⟩)).toArray 9)) w1.heap.size 9 (cellsT (arrT (ringT m f) (2 * o) 0)) := by rw [arrT_zero]; exact SBlk.new w1 9 (cellsT (List.replicate (2 * o) ⟨#[]⟩))
  have HB := Lib.hid (And.intro hq (And.intro (q1.alloc (.cells (cellsT (List.replicate (2 * o) ⟨#[]⟩)).toArray 9)) (And.intro (b1.alloc b1.size (.cells (cellsT (List.replicate (2 * o) ⟨#[]⟩)).toArray 9)) b1.size)))
  clear q0 b0 hb1 q1 b1 hq
  have hmk2 := fun W => hmk W
  rw [hcast] at hmk2
  have HCA := Lib.hid hcast
  clear hmk hcast
  have hoi : (0 : Int) ≤ 2 * (o : Int) := by omega
  go_wp2_with fail
  clear hmk2
  go_loopg [18] (2 * o) (fun g s18 wr => ∃ k : Nat, k ≤ 2 * o ∧ g = 2 * o - k ∧ s18 = .int .i64 (k : Int) ∧ Hid (SBlk wr w1.heap.size 9 (cellsT (arrT (ringT m f) (2 * o) k)) ∧ SBlk wr w.heap.size 97 [.int .i64 a, .int .i64 b, .int .i64 c, .string SD, .int .i64 o] ∧ Below w.heap.size w wr))
  case atStart => exact ⟨0, Nat.zero_le _, rfl, rfl, Lib.hid ⟨HB.out.1, HB.out.2.1, HB.out.2.2.1⟩⟩
  case round =>
    obtain ⟨k, hk, rfl, rfl, HI⟩ := hrel
    have hwz := HB.out.2.2.2
    by_cases hlt : k < 2 * o
    · have hki : (k : Int) < 2 * (o : Int) := by omega
      have hcut := HTK.out k (by omega)
      have HTy := Lib.hid (fun W => HT.out k (by omega) W)
      obtain ⟨T2, hT2⟩ : ∃ z, tile (f * mk (alt (sideA m) (sideB m) k)) = z := ⟨_, rfl⟩
      obtain ⟨TA, hTA⟩ : ∃ z, str (alt (sideA m) (sideB m) k) = z := ⟨_, rfl⟩
      rw [hT2, hTA] at HTy
      rw [hTA] at hcut
      have HTT := Lib.hid hT2
      clear hT2 hTA
      have hkT : (k : Int) ≤ (TS.size : Int) := by rw [HTS.out]; omega
      have hlen : (cellsT (arrT (ringT m f) (2 * o) k))[k]? = some (.string ((arrT (ringT m f) (2 * o) k).getD k ⟨#[]⟩)) := cellsT_get (by rw [arrT_length]; exact hlt)
      have hkk : ∀ W, Below wr.heap.size wr W → W.cell? ⟨w.heap.size, 0, none⟩ = some (.int .i64 a) ∧ W.cell? ⟨w.heap.size, 1, none⟩ = some (.int .i64 b) ∧ W.cell? ⟨w.heap.size, 2, none⟩ = some (.int .i64 c) := fun W hb =>
        ⟨(hb.cell (p := ⟨w.heap.size, 0, none⟩) HI.out.2.1.lt).trans (HI.out.2.1.cell 0), (hb.cell (p := ⟨w.heap.size, 1, none⟩) HI.out.2.1.lt).trans (HI.out.2.1.cell 1), (hb.cell (p := ⟨w.heap.size, 2, none⟩) HI.out.2.1.lt).trans (HI.out.2.1.cell 2)⟩
      have hkt : ∀ W, Below wr.heap.size wr W → W.cell? ⟨w1.heap.size, k, none⟩ = some (.string ((arrT (ringT m f) (2 * o) k).getD k ⟨#[]⟩)) ∧ W.frozen? ⟨w1.heap.size, k, none⟩ = false := fun W hb =>
        ⟨(hb.cell (p := ⟨w1.heap.size, k, none⟩) HI.out.1.lt).trans ((HI.out.1.cell k).trans hlen), (HI.out.1.below hb HI.out.1.lt).frozen k⟩
      have hks : ∀ W v, Below wr.heap.size wr W → (W.setCell ⟨w1.heap.size, k, none⟩ v).cell? ⟨w.heap.size, 0, none⟩ = some (.int .i64 a) ∧ (W.setCell ⟨w1.heap.size, k, none⟩ v).cell? ⟨w.heap.size, 1, none⟩ = some (.int .i64 b) ∧ (W.setCell ⟨w1.heap.size, k, none⟩ v).cell? ⟨w.heap.size, 2, none⟩ = some (.int .i64 c) := fun W v hb =>
        have h := (HI.out.2.1.below hb HI.out.2.1.lt).far (p := ⟨w1.heap.size, k, none⟩) (by have := HW1.out; show w.heap.size ≠ w1.heap.size; omega) v
        ⟨h.cell 0, h.cell 1, h.cell 2⟩
      have HKS := Lib.hid hks
      clear hks
      obtain ⟨k0, k1, k2⟩ := hkk wr (Below.refl _ _)
      have HK := Lib.hid (And.intro hkk hkt)
      clear hkk hkt hlen
      generalize (arrT (ringT m f) (2 * o) k).getD k ⟨#[]⟩ = TO at *
      go_wp2_with fail
      go_region_held3 (fun w' => w'.cell? ⟨w.heap.size, 0, none⟩ = some (.int .i64 a) ∧ w'.cell? ⟨w.heap.size, 1, none⟩ = some (.int .i64 b) ∧ w'.cell? ⟨w.heap.size, 2, none⟩ = some (.int .i64 c))
        (first | (with_reducible assumption) | (with_reducible exact kp) | (exact HKS.out w2 (.string T2) HB2.out) | (go_keep; done))
        (first
          | (go_at_call 112; (with_reducible refine (HTy.out _).mono ?_); rintro e w2 ⟨rfl, hb⟩; replace hb := below_undrew hb; have kp := HK.out.1 w2 hb; obtain ⟨kt, kf⟩ := HK.out.2 w2 hb; have HB2 := Lib.hid hb; clear hb))
      clear kp kt kf
      have hwk : IntKind.i64.wrap ((k : Int) + 1) = (k : Int) + 1 := IntWalk.i64_in _ (by omega)
      go_wp2_with fail
      go_roundg (2 * o - (k + 1))
      case measure => omega
      case rel =>
        have hb2 := HB2.out
        refine ⟨k + 1, by omega, rfl, by simp, Lib.hid ⟨?_, (HI.out.2.1.below hb2 HI.out.2.1.lt).far (p := ⟨w1.heap.size, k, none⟩) (by have := HW1.out; show w.heap.size ≠ w1.heap.size; omega) _, (HI.out.2.2.trans (hb2.mono HI.out.2.2.size)).setCell (p := ⟨w1.heap.size, k, none⟩) hwz _⟩⟩
        have := (HI.out.1.below hb2 HI.out.1.lt).set k (.string T2)
        rw [← HTT.out] at this
        rw [← arrT_set]
        rw [← HTT.out]
        exact this
    · obtain rfl : k = 2 * o := by omega
      have hI := HI.out
      rw [arrT_all] at hI
      have HJ := Lib.hid hI
      clear hI
      go_wp2_with fail
      go_ret
      exact ⟨w1.heap.size, rfl, HJ.out.1, hwz, HJ.out.2.2⟩
end Go.Proofs.YtcpeeopdaakbaaaGreat

namespace Go.Proofs.YtcpeeopdaakbaaaGreat
open Go.RowKit Go.Shelf Cx

/-- the tile of a word -/
def elW (a b c : Nat) (s : ByteArray) : G (Mo a b c) := mk (bytesN s)
theorem elW_low {a b c : Nat} {s : ByteArray} (h : checkS s = 0) : Low (elW a b c s) := red_low (mk_nf _) (checkS_low h).1 (nf_greedy _).red
theorem elW_len {a b c : Nat} {s : ByteArray} (h : checkS s = 0) : ln (elW a b c s) ≤ 60 := by
  have h1 := ln_le (M := Mo a b c) (bytesN s)
  have h2 := (checkS_low h).2
  rw [bytesN_length] at h1
  exact Nat.le_trans h1 h2
theorem elW_tile {a b c : Nat} (s : ByteArray) : str (nfW a b c [s]) = tile (elW a b c s) := by
  unfold nfW tile elW
  rw [cat_one]

set_option maxRecDepth 100000 in
set_option maxHeartbeats 4000000 in
theorem given_okT {a b c m : Nat} (hg : Good a b c) (hm : m < 3) (h0 : ordC a b c m ≠ 0) (s : ByteArray) (hs : checkS s = 0) (w : World) :
    Calls Tryz.prog 59 #[.agg #[.int .i64 a, .int .i64 b, .int .i64 c], .string s, .int .i64 m] w fun e w' => e = .returned (.tuple #[cornV a b c m, .string (tile (elW a b c s)), .int .i64 0]) ∧ Below w.heap.size w w' := by
  have HN := Lib.hid (fun W => Normal_ok a b c s hg hs W)
  rw [elW_tile] at HN
  have HC := Lib.hid (fun W => corner_ok a b c m hm W)
  unfold cornV at HC ⊢
  generalize str [sideA m, sideB m] = SD at *
  generalize tile (elW a b c s) = T at *
  obtain ⟨o, ho⟩ : ∃ o, ordC a b c m = o := ⟨_, rfl⟩
  rw [ho] at HC h0 ⊢
  have hm0 : ¬ ((m : Int) < 0) := by omega
  have hm2 : ¬ (2 < (m : Int)) := by omega
  have ho0 : ((o : Int) == 0) = false := by simp; omega
  have ho1 : ¬ o = 0 := h0
  have hb0 := ((Below.refl w.heap.size w).alloc (Nat.le_refl _) (.cells #[.int .i64 a, .int .i64 b, .int .i64 c] 23)).alloc (by simp) (.cells #[.int .i64 0, .int .i64 0, .int .i64 0, .string ⟨#[]⟩, .int .i64 0] 97)
  have q0 := (SBlk.new w 23 [.int .i64 a, .int .i64 b, .int .i64 c]).alloc (.cells #[.int .i64 0, .int .i64 0, .int .i64 0, .string ⟨#[]⟩, .int .i64 0] 97)
  have q1 := SBlk.new' (w.alloc (.cells #[.int .i64 a, .int .i64 b, .int .i64 c] 23)) 97 [.int .i64 0, .int .i64 0, .int .i64 0, .string ⟨#[]⟩, .int .i64 0] (w.heap.size + 1) (by simp)
  have HB0 := Lib.hid (And.intro hb0 (And.intro q0 q1))
  clear hb0 q0 q1 hm ho hg h0
  go_enter Tryz.func59, Tryz.ntmps59
  go_wp2_with fail
  refine (HN.out _).mono ?_
  rintro e w1 ⟨rfl, hb1⟩
  have q0 := HB0.out.2.1.below hb1 HB0.out.2.1.lt
  have q1 := HB0.out.2.2.below hb1 HB0.out.2.2.lt
  have b1 := HB0.out.1.trans (hb1.mono HB0.out.1.size)
  have k0 := q0.cell 0
  have k1 := q0.cell 1
  have k2 := q0.cell 2
  simp only [List.getElem?_cons_zero, List.getElem?_cons_succ] at k0 k1 k2
  have HB1 := Lib.hid (And.intro b1 q1)
  clear HB0 q0 q1 b1 hb1
  go_wp2_with fail
  refine (HC.out _).mono ?_
  rintro e w2 ⟨rfl, hb2⟩
  have q1 := HB1.out.2.below hb2 HB1.out.2.lt
  have b2 := HB1.out.1.trans (hb2.mono HB1.out.1.size)
  have qc := q1.alloc (.cells #[.int .i64 a, .int .i64 b, .int .i64 c, .string SD, .int .i64 o] 97)
  have bc := b2.alloc b2.size (.cells #[.int .i64 a, .int .i64 b, .int .i64 c, .string SD, .int .i64 o] 97)
  have z0 := qc.cell 0
  have z1 := qc.cell 1
  have z2 := qc.cell 2
  have z3 := qc.cell 3
  have z4 := qc.cell 4
  have f0 := qc.frozen 0
  have f1 := qc.frozen 1
  have f2 := qc.frozen 2
  have f3 := qc.frozen 3
  have f4 := qc.frozen 4
  simp only [List.getElem?_cons_zero, List.getElem?_cons_succ] at z0 z1 z2 z3 z4
  have HB2 := Lib.hid (And.intro bc qc)
  clear q1 b2 qc bc hb2 k0 k1 k2
  go_wp2_with fail
  (try simp only [Exit.inBlock, Exit.then])
  have hq := HB2.out
  clear z0 z1 z2 z3 z4 f0 f1 f2 f3 f4
  have qf := ((((hq.2.set 0 (.int .i64 a)).set 1 (.int .i64 b)).set 2 (.int .i64 c)).set 3 (.string SD)).set 4 (.int .i64 o)
  have bf := ((((hq.1.setCell (p := ⟨w.heap.size + 1, 0, none⟩) (by simp) (.int .i64 a)).setCell (p := ⟨w.heap.size + 1, 1, none⟩) (by simp) (.int .i64 b)).setCell (p := ⟨w.heap.size + 1, 2, none⟩) (by simp) (.int .i64 c)).setCell (p := ⟨w.heap.size + 1, 3, none⟩) (by simp) (.string SD)).setCell (p := ⟨w.heap.size + 1, 4, none⟩) (by simp) (.int .i64 o)
  have z0 := qf.cell 0
  have z1 := qf.cell 1
  have z2 := qf.cell 2
  have z3 := qf.cell 3
  have z4 := qf.cell 4
  simp only [List.set_cons_zero, List.set_cons_succ, List.getElem?_cons_zero, List.getElem?_cons_succ] at z0 z1 z2 z3 z4
  refine bodyPost_ret (v := .tuple #[.agg #[.int .i64 a, .int .i64 b, .int .i64 c, .string SD, .int .i64 o], .string T, .int .i64 0]) ?_ rfl ⟨rfl, bf⟩
  simp [results, Tryz.results59, go_sem, z0, z1, z2, z3, z4]
end Go.Proofs.YtcpeeopdaakbaaaGreat

namespace Go.Proofs.YtcpeeopdaakbaaaGreat
open Go.RowKit Go.Shelf Cx

set_option maxRecDepth 100000 in
set_option maxHeartbeats 4000000 in
theorem Around_ok {a b c m : Nat} (hg : Good a b c) (hm : m < 3) (h0 : ordC a b c m ≠ 0) (s : ByteArray) (hs : checkS s = 0) (w : World) :
    Calls Tryz.prog 14 #[.agg #[.int .i64 a, .int .i64 b, .int .i64 c], .string s, .int .i64 m] w fun e w' => ∃ tb f, e = .returned (.tuple #[.slice (some ⟨tb, 0, none⟩) (2 * ordC a b c m) (2 * ordC a b c m), .int .i64 0]) ∧
      (Foot (Mo a b c) (sideA m) (sideB m) (elW a b c s) f ∧ Low f ∧ ln f ≤ ln (elW a b c s)) ∧ SBlk w' tb 9 (cellsT ((List.range (2 * ordC a b c m)).map (ringT m f))) ∧ w.heap.size ≤ tb ∧ Below w.heap.size w w' := by
  have hx := elW_low (a := a) (b := b) (c := c) hs
  have hl := elW_len (a := a) (b := b) (c := c) hs
  have HG := Lib.hid (fun W => given_okT hg hm h0 s hs W)
  have HF := Lib.hid (fun W => first_ok hg hm _ hx hl W)
  have HA := Lib.hid (fun (f : G (Mo a b c)) (h1 : Low f) (h2 : ln f ≤ ln (elW a b c s)) W => around_ok hg hm f h1 (by omega) W)
  unfold cornV at HG HF HA
  generalize str [sideA m, sideB m] = SD at *
  generalize tile (elW a b c s) = T at *
  obtain ⟨o, ho⟩ : ∃ o, ordC a b c m = o := ⟨_, rfl⟩
  rw [ho] at HG HF HA ⊢
  clear ho h0 hs hg hm hx hl
  go_enter Tryz.func14, Tryz.ntmps14
  go_wp2_with fail
  refine (HG.out _).mono ?_
  rintro e w1 ⟨rfl, hb1⟩
  have b1 := below_a1 hb1
  have qc := SBlk.new w1 97 [.int .i64 a, .int .i64 b, .int .i64 c, .string SD, .int .i64 o]
  have bc := b1.alloc b1.size (.cells #[.int .i64 a, .int .i64 b, .int .i64 c, .string SD, .int .i64 o] 97)
  go_wp2_with fail
  rw [show ([.int .i64 a, .int .i64 b, .int .i64 c, .string SD, .int .i64 o] : List Value).toArray = #[.int .i64 a, .int .i64 b, .int .i64 c, .string SD, .int .i64 o] from rfl] at qc
  obtain ⟨W2, hW2⟩ : ∃ z, (w1.alloc (.cells #[.int .i64 a, .int .i64 b, .int .i64 c, .string SD, .int .i64 o] 97)) = z := ⟨_, rfl⟩
  rw [hW2] at qc bc ⊢
  have hkk : ∀ W, Below W2.heap.size W2 W → W.cell? ⟨w1.heap.size, 0, none⟩ = some (.int .i64 a) ∧ W.cell? ⟨w1.heap.size, 1, none⟩ = some (.int .i64 b) ∧ W.cell? ⟨w1.heap.size, 2, none⟩ = some (.int .i64 c) ∧ W.cell? ⟨w1.heap.size, 3, none⟩ = some (.string SD) ∧ W.cell? ⟨w1.heap.size, 4, none⟩ = some (.int .i64 o) := fun W hb =>
    have h := qc.below hb qc.lt
    ⟨h.cell 0, h.cell 1, h.cell 2, h.cell 3, h.cell 4⟩
  obtain ⟨k0, k1, k2, k3, k4⟩ := hkk W2 (Below.refl _ _)
  have HK := Lib.hid hkk
  have HB := Lib.hid bc
  clear hkk qc bc b1 hb1 hW2
  go_region_held3 (fun w' => w'.cell? ⟨w1.heap.size, 0, none⟩ = some (.int .i64 a) ∧ w'.cell? ⟨w1.heap.size, 1, none⟩ = some (.int .i64 b) ∧ w'.cell? ⟨w1.heap.size, 2, none⟩ = some (.int .i64 c) ∧ w'.cell? ⟨w1.heap.size, 3, none⟩ = some (.string SD) ∧ w'.cell? ⟨w1.heap.size, 4, none⟩ = some (.int .i64 o))
    (first | (with_reducible assumption) | (with_reducible exact kp) | (go_keep; done))
    (first
      | (go_at_call 60; (with_reducible refine (HF.out _).mono ?_); rintro e w2 ⟨f, rfl, hf, hb⟩; replace hb := below_undrew hb; have kp := HK.out w2 hb; have HB2 := Lib.hid hb; have HFF := Lib.hid hf; clear hb hf)
      | (go_at_call 61; (with_reducible refine (HA.out f HFF.out.2.1 HFF.out.2.2 _).mono ?_); rintro e w3 ⟨tb, rfl, ht, hz, hb⟩; have kp := HK.out w3 (HB2.out.trans (hb.mono HB2.out.size)); have HB3 := Lib.hid (And.intro ht (And.intro hz hb)); clear ht hz hb))
  clear kp
  go_wp2_with fail
  go_ret2
  obtain ⟨ht, hz, hb⟩ := HB3.out
  have hb2 := HB2.out
  have hbc := HB.out
  exact ⟨tb, f, rfl, HFF.out, ht, Nat.le_trans hbc.size (Nat.le_trans hb2.size hz), (hbc.trans (hb2.mono hbc.size)).trans (hb.mono (Nat.le_trans hbc.size hb2.size))⟩
end Go.Proofs.YtcpeeopdaakbaaaGreat
