/- A slice of whole numbers that grows. The reference's polynomials. The reference's sum, row and orders. The reference's orders. The reference's polynomials, as rows somewhere. -/
import Derived.Test.YtcpeeopdaakbaaaGreatTaA
import Derived.Laws.AppendOwn
import Derived.Lib.AppendZeros
import Derived.Test.YtcpeeopdaakbaaaGreatCnA
import Derived.Test.YtcpeeopdaakbaaaGreatWdA
import Derived.Deep.QuietTactic
namespace Go.Proofs.YtcpeeopdaakbaaaGreat
set_option linter.unusedSimpArgs false
open Go.RowKit Go.Shelf Cx

theorem cellsK_append (k : IntKind) (l m : List Int) : cellsK k (l ++ m) = cellsK k l ++ cellsK k m := by simp [cellsK]
theorem add_zeroI (b o j : Nat) : (⟨b, o, none⟩ : Addr).add j = ⟨b, o + j, none⟩ := by
  simp only [Addr.add]
  split
  · simp_all
  · rfl

/-- a slice of int: nil, or in a block from B on -/
def ListI (w : World) (B : Nat) (v : Value) (l : List Int) : Prop :=
  (l = [] ∧ v = .slice none 0 0) ∨ ∃ g cap ex, B ≤ g ∧ v = .slice (some ⟨g, 0, none⟩) l.length cap ∧ l.length + ex.length = cap ∧ cap ≤ Go.maxLen ∧ SBlk w g 3 (cellsK .i64 l ++ ex)
theorem ListI.below {w w' : World} {B : Nat} {v : Value} {l : List Int} (h : ListI w B v l) (hb : Below w.heap.size w w') : ListI w' B v l := by
  rcases h with h | ⟨g, cap, ex, h1, h2, h3, h4, h5⟩
  · exact .inl h
  · exact .inr ⟨g, cap, ex, h1, h2, h3, h4, h5.below hb h5.lt⟩
theorem ListI.lower {w : World} {B B' : Nat} {v : Value} {l : List Int} (h : ListI w B v l) (hb : B' ≤ B) : ListI w B' v l := by
  rcases h with h | ⟨g, cap, ex, h1, h2⟩
  · exact .inl h
  · exact .inr ⟨g, cap, ex, Nat.le_trans hb h1, h2⟩


theorem zeroI_length (n : Nat) : (Builtin.zeroCells (Value.cells (.int .i64 0)) n).toList.length = n := by
  rw [Array.length_toList, size_zeroCells]
  exact Nat.mul_one n

set_option maxRecDepth 100000 in
/-- one more string behind -/
theorem app_i64 (w : World) (B : Nat) (v : Value) (l : List Int) (h : ListI w B v l) (hB : B ≤ w.heap.size) (hl : l.length ≤ 100000000) (nb c : Nat) (s : Int) (hs : w.cell? ⟨nb, 0, none⟩ = some (.int .i64 s)) :
    ∃ v' w', (Builtin.append_ #[47, 47] 47 #[v, .slice (some ⟨nb, 0, none⟩) 1 c]).run Tryz.prog w = .ok v' w' ∧ ListI w' B v' (l ++ [s]) ∧ Below B w w' := by
  obtain ⟨i, hi, hz, hsz, hby⟩ : ∃ i, Tryz.prog.info? 3 = some i ∧ i.zero = some (.int .i64 0) ∧ i.size = 1 ∧ i.bytes = 8 := info_parts info_i64
  have hnews : ∀ j u, [Value.int .i64 s][j]? = some u → w.cell? ((⟨nb, 0, none⟩ : Addr).add j) = some u := by
    intro j u hu
    match j, hu with
    | 0, hu =>
      simp only [List.getElem?_cons_zero, Option.some.injEq] at hu
      subst hu
      rw [add_zeroI]
      exact hs
    | j + 1, hu => simp at hu
  have h1s : ∀ u ∈ [Value.int .i64 s], u.oneCell' = true := by
    intro u hu; rw [List.mem_singleton.1 hu]; rfl
  rcases h with ⟨rfl, rfl⟩ | ⟨g, cap, ex, hg, rfl, hcap, hmx, hb⟩
  · have hr := run_append_nil (P := Tryz.prog) (w := w) 47 47 3 i (.int .i64 0) Tryz.underlying47 hi hz ⟨nb, 0, none⟩ 1 c [.int .i64 s] (by rw [hsz]; rfl) hnews (by omega) (by omega) (by rw [hby]; omega)
    have hge := grownCap_ge w 1 0 3
    have hcm : grownCap w 1 0 3 ≤ Go.maxLen := grownCap_le_maxLen w 1 0 3 (by unfold Go.maxLen; omega)
    refine ⟨_, _, hr, .inr ⟨w.heap.size, _, (Builtin.zeroCells (Value.cells (.int .i64 0)) (grownCap w 1 0 3 - 1)).toList, hB, rfl, ?_, hcm, ?_⟩, ((Below.refl B w).drew).alloc hB _⟩
    · rw [zeroI_length]
      show 1 + (grownCap w 1 0 3 - 1) = _
      omega
    · have := heap_alloc_new w.drew (.cells (([.int .i64 s] : List Value).toArray ++ Builtin.zeroCells (Value.cells (.int .i64 0)) (grownCap w 1 0 3 - 1)) 3)
      unfold SBlk
      refine Eq.trans this ?_
      simp [cellsK]
  · have hxl : (cellsK .i64 l ++ ex).length = cap := by rw [List.length_append, cellsK_length]; exact hcap
    by_cases hroom : l.length + 1 ≤ cap
    · have hr := run_append_room (P := Tryz.prog) w 47 47 3 i Tryz.underlying47 hi g l.length cap (cellsK .i64 l ++ ex).toArray hb ⟨nb, 0, none⟩ 1 c [.int .i64 s] (by rw [hsz]; rfl) hnews h1s hroom (by rw [hsz, List.size_toArray, hxl]; simp; omega)
      refine ⟨_, _, hr, .inr ⟨g, cap, ex.drop 1, hg, by simp, by rw [List.length_append, List.length_drop]; simp; omega, hmx, ?_⟩, ?_⟩
      · have := setRow_heap w g (cellsK .i64 l ++ ex).toArray ((((cellsK .i64 l ++ ex).toArray.toList.take (l.length * i.size)) ++ [Value.int .i64 s] ++ (cellsK .i64 l ++ ex).toArray.toList.drop (l.length * i.size + 1)).toArray) 3 (0, 0) hb
        unfold SBlk
        refine Eq.trans this ?_
        congr 3
        rw [hsz, Nat.mul_one]
        have e1 : (cellsK .i64 l ++ ex).take l.length = cellsK .i64 l := by rw [List.take_append_of_le_length (by rw [cellsK_length]; exact Nat.le_refl _), List.take_of_length_le (by rw [cellsK_length]; exact Nat.le_refl _)]
        have e2 : (cellsK .i64 l ++ ex).drop (l.length + 1) = ex.drop 1 := by
          rw [List.drop_append, List.drop_of_length_le (by rw [cellsK_length]; omega), List.nil_append, cellsK_length]
          congr 1; omega
        rw [e1, e2, cellsK_append]
        rfl
      · exact ⟨rfl, rfl, rfl, by simp, fun k hk => setRow_other w g k _ (by omega)⟩
    · have holds : ∀ j u, (cellsK .i64 l)[j]? = some u → w.cell? ((⟨g, 0, none⟩ : Addr).add j) = some u := by
        intro j u hu
        rw [add_zeroI, Nat.zero_add, hb.cell j]
        rw [List.getElem?_append_left]
        · exact hu
        · rcases Nat.lt_or_ge j (cellsK .i64 l).length with h | h
          · exact h
          · rw [List.getElem?_eq_none h] at hu; cases hu
      have hbytes : (l.length + 1) * i.bytes ≤ 140737488355328 := by rw [hby]; omega
      have hr := run_append_grow (P := Tryz.prog) w 47 47 3 i (.int .i64 0) Tryz.underlying47 hi hz ⟨g, 0, none⟩ l.length cap (cellsK .i64 l) (by rw [cellsK_length, hsz, Nat.mul_one]) holds ⟨nb, 0, none⟩ 1 c [.int .i64 s] (by rw [hsz]; rfl) hnews (by omega) (by omega) (growslice_fits (by omega) hbytes)
      have hge := grownCap_ge w (l.length + 1) cap 3
      have hcm : grownCap w (l.length + 1) cap 3 ≤ Go.maxLen := grownCap_le_maxLen w (l.length + 1) cap 3 (by unfold Go.maxLen; omega)
      refine ⟨_, _, hr, .inr ⟨w.heap.size, _, (Builtin.zeroCells (Value.cells (.int .i64 0)) (grownCap w (l.length + 1) cap 3 - (l.length + 1))).toList, hB, by simp, ?_, hcm, ?_⟩, ((Below.refl B w).drew).alloc hB _⟩
      · rw [zeroI_length, List.length_append]
        show l.length + 1 + (grownCap w (l.length + 1) cap 3 - (l.length + 1)) = _
        omega
      · have := heap_alloc_new w.drew (.cells ((cellsK .i64 l).toArray ++ ([.int .i64 s] : List Value).toArray ++ Builtin.zeroCells (Value.cells (.int .i64 0)) (grownCap w (l.length + 1) cap 3 - (l.length + 1))) 3)
        unfold SBlk
        refine Eq.trans this ?_
        simp [cellsK]
/-- a slice of uint64: nil, or in a block from B on -/
def ListU (w : World) (B : Nat) (v : Value) (l : List Int) : Prop :=
  (l = [] ∧ v = .slice none 0 0) ∨ ∃ g cap ex, B ≤ g ∧ v = .slice (some ⟨g, 0, none⟩) l.length cap ∧ l.length + ex.length = cap ∧ cap ≤ Go.maxLen ∧ SBlk w g 38 (cellsK .u64 l ++ ex)
theorem ListU.below {w w' : World} {B : Nat} {v : Value} {l : List Int} (h : ListU w B v l) (hb : Below w.heap.size w w') : ListU w' B v l := by
  rcases h with h | ⟨g, cap, ex, h1, h2, h3, h4, h5⟩
  · exact .inl h
  · exact .inr ⟨g, cap, ex, h1, h2, h3, h4, h5.below hb h5.lt⟩
theorem ListU.lower {w : World} {B B' : Nat} {v : Value} {l : List Int} (h : ListU w B v l) (hb : B' ≤ B) : ListU w B' v l := by
  rcases h with h | ⟨g, cap, ex, h1, h2⟩
  · exact .inl h
  · exact .inr ⟨g, cap, ex, Nat.le_trans hb h1, h2⟩


theorem zeroU_length (n : Nat) : (Builtin.zeroCells (Value.cells (.int .u64 0)) n).toList.length = n := by
  rw [Array.length_toList, size_zeroCells]
  exact Nat.mul_one n

set_option maxRecDepth 100000 in
/-- one more string behind -/
theorem app_u64 (w : World) (B : Nat) (v : Value) (l : List Int) (h : ListU w B v l) (hB : B ≤ w.heap.size) (hl : l.length ≤ 100000000) (nb c : Nat) (s : Int) (hs : w.cell? ⟨nb, 0, none⟩ = some (.int .u64 s)) :
    ∃ v' w', (Builtin.append_ #[39, 39] 39 #[v, .slice (some ⟨nb, 0, none⟩) 1 c]).run Tryz.prog w = .ok v' w' ∧ ListU w' B v' (l ++ [s]) ∧ Below B w w' := by
  obtain ⟨i, hi, hz, hsz, hby⟩ : ∃ i, Tryz.prog.info? 38 = some i ∧ i.zero = some (.int .u64 0) ∧ i.size = 1 ∧ i.bytes = 8 := info_parts info_u64
  have hnews : ∀ j u, [Value.int .u64 s][j]? = some u → w.cell? ((⟨nb, 0, none⟩ : Addr).add j) = some u := by
    intro j u hu
    match j, hu with
    | 0, hu =>
      simp only [List.getElem?_cons_zero, Option.some.injEq] at hu
      subst hu
      rw [add_zeroI]
      exact hs
    | j + 1, hu => simp at hu
  have h1s : ∀ u ∈ [Value.int .u64 s], u.oneCell' = true := by
    intro u hu; rw [List.mem_singleton.1 hu]; rfl
  rcases h with ⟨rfl, rfl⟩ | ⟨g, cap, ex, hg, rfl, hcap, hmx, hb⟩
  · have hr := run_append_nil (P := Tryz.prog) (w := w) 39 39 38 i (.int .u64 0) Tryz.underlying39 hi hz ⟨nb, 0, none⟩ 1 c [.int .u64 s] (by rw [hsz]; rfl) hnews (by omega) (by omega) (by rw [hby]; omega)
    have hge := grownCap_ge w 1 0 38
    have hcm : grownCap w 1 0 38 ≤ Go.maxLen := grownCap_le_maxLen w 1 0 38 (by unfold Go.maxLen; omega)
    refine ⟨_, _, hr, .inr ⟨w.heap.size, _, (Builtin.zeroCells (Value.cells (.int .u64 0)) (grownCap w 1 0 38 - 1)).toList, hB, rfl, ?_, hcm, ?_⟩, ((Below.refl B w).drew).alloc hB _⟩
    · rw [zeroU_length]
      show 1 + (grownCap w 1 0 38 - 1) = _
      omega
    · have := heap_alloc_new w.drew (.cells (([.int .u64 s] : List Value).toArray ++ Builtin.zeroCells (Value.cells (.int .u64 0)) (grownCap w 1 0 38 - 1)) 38)
      unfold SBlk
      refine Eq.trans this ?_
      simp [cellsK]
  · have hxl : (cellsK .u64 l ++ ex).length = cap := by rw [List.length_append, cellsK_length]; exact hcap
    by_cases hroom : l.length + 1 ≤ cap
    · have hr := run_append_room (P := Tryz.prog) w 39 39 38 i Tryz.underlying39 hi g l.length cap (cellsK .u64 l ++ ex).toArray hb ⟨nb, 0, none⟩ 1 c [.int .u64 s] (by rw [hsz]; rfl) hnews h1s hroom (by rw [hsz, List.size_toArray, hxl]; simp; omega)
      refine ⟨_, _, hr, .inr ⟨g, cap, ex.drop 1, hg, by simp, by rw [List.length_append, List.length_drop]; simp; omega, hmx, ?_⟩, ?_⟩
      · have := setRow_heap w g (cellsK .u64 l ++ ex).toArray ((((cellsK .u64 l ++ ex).toArray.toList.take (l.length * i.size)) ++ [Value.int .u64 s] ++ (cellsK .u64 l ++ ex).toArray.toList.drop (l.length * i.size + 1)).toArray) 38 (0, 0) hb
        unfold SBlk
        refine Eq.trans this ?_
        congr 3
        rw [hsz, Nat.mul_one]
        have e1 : (cellsK .u64 l ++ ex).take l.length = cellsK .u64 l := by rw [List.take_append_of_le_length (by rw [cellsK_length]; exact Nat.le_refl _), List.take_of_length_le (by rw [cellsK_length]; exact Nat.le_refl _)]
        have e2 : (cellsK .u64 l ++ ex).drop (l.length + 1) = ex.drop 1 := by
          rw [List.drop_append, List.drop_of_length_le (by rw [cellsK_length]; omega), List.nil_append, cellsK_length]
          congr 1; omega
        rw [e1, e2, cellsK_append]
        rfl
      · exact ⟨rfl, rfl, rfl, by simp, fun k hk => setRow_other w g k _ (by omega)⟩
    · have holds : ∀ j u, (cellsK .u64 l)[j]? = some u → w.cell? ((⟨g, 0, none⟩ : Addr).add j) = some u := by
        intro j u hu
        rw [add_zeroI, Nat.zero_add, hb.cell j]
        rw [List.getElem?_append_left]
        · exact hu
        · rcases Nat.lt_or_ge j (cellsK .u64 l).length with h | h
          · exact h
          · rw [List.getElem?_eq_none h] at hu; cases hu
      have hbytes : (l.length + 1) * i.bytes ≤ 140737488355328 := by rw [hby]; omega
      have hr := run_append_grow (P := Tryz.prog) w 39 39 38 i (.int .u64 0) Tryz.underlying39 hi hz ⟨g, 0, none⟩ l.length cap (cellsK .u64 l) (by rw [cellsK_length, hsz, Nat.mul_one]) holds ⟨nb, 0, none⟩ 1 c [.int .u64 s] (by rw [hsz]; rfl) hnews (by omega) (by omega) (growslice_fits (by omega) hbytes)
      have hge := grownCap_ge w (l.length + 1) cap 38
      have hcm : grownCap w (l.length + 1) cap 38 ≤ Go.maxLen := grownCap_le_maxLen w (l.length + 1) cap 38 (by unfold Go.maxLen; omega)
      refine ⟨_, _, hr, .inr ⟨w.heap.size, _, (Builtin.zeroCells (Value.cells (.int .u64 0)) (grownCap w (l.length + 1) cap 38 - (l.length + 1))).toList, hB, by simp, ?_, hcm, ?_⟩, ((Below.refl B w).drew).alloc hB _⟩
      · rw [zeroU_length, List.length_append]
        show l.length + 1 + (grownCap w (l.length + 1) cap 38 - (l.length + 1)) = _
        omega
      · have := heap_alloc_new w.drew (.cells ((cellsK .u64 l).toArray ++ ([.int .u64 s] : List Value).toArray ++ Builtin.zeroCells (Value.cells (.int .u64 0)) (grownCap w (l.length + 1) cap 38 - (l.length + 1))) 38)
        unfold SBlk
        refine Eq.trans this ?_
        simp [cellsK]
end Go.Proofs.YtcpeeopdaakbaaaGreat

namespace Go.Proofs.YtcpeeopdaakbaaaGreat
set_option linter.unusedSimpArgs false
open Go.RowKit Go.Shelf Cx Ps

theorem below_dnN {n : Nat} {A B : World} (h : Below n A B) (m : Nat) : Below n A (B.drewN m) := ⟨h.os, h.tape, h.output, h.size, h.block⟩
set_option maxRecDepth 100000 in
set_option maxHeartbeats 1000000 in
theorem Refused_any (a b c n most : Int) (w : World) :
    Calls Tryz.prog 18 #[.agg #[.int .i64 a, .int .i64 b, .int .i64 c], .int .i64 n, .int .i64 most] w fun e w' => e = .returned (.int .i64 (faultT a b c n most)) ∧ Below w.heap.size w w' := by
  have HA := Lib.hid (fun W => Allowed_any a b c W)
  have HB := Lib.hid ((Below.refl w.heap.size w).alloc (Nat.le_refl _) (.cells #[.int .i64 a, .int .i64 b, .int .i64 c] 23))
  unfold faultT
  generalize allowedS a b c = k at *
  by_cases hk : k = 0
  · subst hk
    rw [if_pos rfl]
    by_cases hn : n < 0
    · rw [if_pos hn]
      go_enter Tryz.func18, Tryz.ntmps18
      go_wp2_with fail
      refine (HA.out _).mono ?_
      rintro e w1 ⟨rfl, hb⟩
      have HB1 := Lib.hid (HB.out.trans (hb.mono HB.out.size))
      clear hb
      go_wp2_with fail
      go_ret
      exact ⟨rfl, HB1.out⟩
    · have hn2 : decide (n < 0) = false := decide_eq_false hn
      rw [if_neg hn]
      by_cases hm : most < n
      · rw [if_pos hm]
        go_enter Tryz.func18, Tryz.ntmps18
        go_wp2_with fail
        refine (HA.out _).mono ?_
        rintro e w1 ⟨rfl, hb⟩
        have HB1 := Lib.hid (HB.out.trans (hb.mono HB.out.size))
        clear hb
        go_wp2_with fail
        go_ret
        exact ⟨rfl, HB1.out⟩
      · have hm2 : decide (most < n) = false := decide_eq_false hm
        rw [if_neg hm]
        go_enter Tryz.func18, Tryz.ntmps18
        go_wp2_with fail
        refine (HA.out _).mono ?_
        rintro e w1 ⟨rfl, hb⟩
        have HB1 := Lib.hid (HB.out.trans (hb.mono HB.out.size))
        clear hb
        go_wp2_with fail
        go_ret
        exact ⟨rfl, HB1.out⟩
  · have hk2 : (k != 0) = true := by simpa using hk
    rw [if_neg hk]
    clear hk
    go_enter Tryz.func18, Tryz.ntmps18
    go_wp2_with fail
    refine (HA.out _).mono ?_
    rintro e w1 ⟨rfl, hb⟩
    have HB1 := Lib.hid (HB.out.trans (hb.mono HB.out.size))
    clear hb
    go_wp2_with fail
    go_ret
    exact ⟨rfl, HB1.out⟩

set_option maxRecDepth 100000 in
set_option maxHeartbeats 4000000 in
theorem Times_ref (a b : List Int) (pa oa ca pb ob cb : Nat) (w : World) (ha : RowK .i64 w pa oa a) (hb : RowK .i64 w pb ob b) (la : 0 < a.length) (lb : 0 < b.length) (hla : a.length ≤ 100000) (hlb : b.length ≤ 100000) :
    Calls Tryz.prog 126 #[.slice (some ⟨pa, oa, none⟩) a.length ca, .slice (some ⟨pb, ob, none⟩) b.length cb] w fun e w' => ∃ nb, e = .returned (.slice (some ⟨nb, 0, none⟩) (a.length + b.length - 1) (a.length + b.length - 1)) ∧
      SBlk w' nb 3 (cellsK .i64 (timR wrap64 a b)) ∧ w.heap.size ≤ nb ∧ Below w.heap.size w w' := by
  have hmk := make_i64 (a.length + b.length - 1) (by omega)
  have hc : ((a.length + b.length - 1 : Nat) : Int) = (a.length : Int) + (b.length : Int) - 1 := by omega
  rw [hc] at hmk
  have H := Lib.hid (And.intro ha (And.intro hb (And.intro hla hlb)))
  have hs1 : IntKind.i64.wrap ((a.length : Int) + (b.length : Int)) = (a.length : Int) + (b.length : Int) := IntWalk.i64_in _ (by omega)
  have hs2 : IntKind.i64.wrap ((a.length : Int) + (b.length : Int) - 1) = (a.length : Int) + (b.length : Int) - 1 := IntWalk.i64_in _ (by omega)
  clear ha hb hc
  go_enter Tryz.func126, Tryz.ntmps126
  go_wp2_with fail
  have hst := SBlk.new w 3 (cellsK .i64 (List.replicate (a.length + b.length - 1) 0))
  have hbl := (Below.refl w.heap.size w).alloc (Nat.le_refl _) (.cells (cellsK .i64 (List.replicate (a.length + b.length - 1) 0)).toArray 3)
  have HW := Lib.hid (And.intro hst hbl)
  clear hst hbl hmk hs1 hs2
  go_loopg [6, 7] a.length (fun g i i7 wr => ∃ k : Nat, k ≤ a.length ∧ g = a.length - k ∧ i = .int .i64 (k : Int) ∧ SBlk wr w.heap.size 3 (cellsK .i64 (prodS wrap64 a b k)) ∧ Below w.heap.size w wr)
  case atStart => exact ⟨0, Nat.zero_le _, rfl, rfl, HW.out⟩
  case round =>
    clear HW
    obtain ⟨k, hk, rfl, rfl, hs, hB⟩ := hrel
    by_cases hlt : k < a.length
    · have hlt2 : (k : Int) < (a.length : Int) := by omega
      have hwk : IntKind.i64.wrap ((k : Int) + 1) = (k : Int) + 1 := IntWalk.i64_in _ (by omega)
      have HK := Lib.hid (And.intro hs hB)
      obtain ⟨x, hx⟩ : ∃ x, a.getD k 0 = x := ⟨_, rfl⟩
      have HX := Lib.hid hx
      clear hs hB hx
      go_wp2_with fail
      go_loopg [7] b.length (fun g i wi => ∃ m : Nat, m ≤ b.length ∧ g = b.length - m ∧ i = .int .i64 (m : Int) ∧ SBlk wi w.heap.size 3 (cellsK .i64 (prodRow wrap64 x b k (prodS wrap64 a b k) m)) ∧ Below w.heap.size w wi)
      case atStart => exact ⟨0, Nat.zero_le _, rfl, rfl, HK.out⟩
      case round =>
        obtain ⟨m, hm, rfl, rfl, hs, hB⟩ := hrel
        by_cases hlm : m < b.length
        · have c0 := (H.out.1.below hB).cell k hlt
          rw [HX.out] at c0
          have c1 := (H.out.2.1.below hB).cell m hlm
          have hkm : k + m < (prodRow wrap64 x b k (prodS wrap64 a b k) m).length := by rw [prodRow_length, prodS_length]; omega
          have c2 := hs.cell (k + m)
          rw [cellsK_get .i64 hkm] at c2
          have f2 := hs.frozen (k + m)
          obtain ⟨y, hy⟩ : ∃ y, b.getD m 0 = y := ⟨_, rfl⟩
          rw [hy] at c1
          obtain ⟨z, hz⟩ : ∃ z, (prodRow wrap64 x b k (prodS wrap64 a b k) m).getD (k + m) 0 = z := ⟨_, rfl⟩
          rw [hz] at c2
          have j1 : (m : Int) < (b.length : Int) := by omega
          have j2 : (0 : Int) ≤ (k : Int) + (m : Int) := by omega
          have j3 : (k : Int) + (m : Int) < (a.length : Int) + (b.length : Int) - 1 := by omega
          have j4 : IntKind.i64.wrap ((k : Int) + (m : Int)) = (k : Int) + (m : Int) := IntWalk.i64_in _ (by have := H.out.2.2; omega)
          have j5 : ((k : Int) + (m : Int)).toNat = k + m := by omega
          have hwm : IntKind.i64.wrap ((m : Int) + 1) = (m : Int) + 1 := IntWalk.i64_in _ (by have := H.out.2.2; omega)
          have HM := Lib.hid (And.intro hs (And.intro hB (And.intro hy hz)))
          clear hs hB hy hz hkm
          go_wp2_with fail
          go_region
          go_wp2_with fail
          go_roundg (b.length - (m + 1))
          case measure => omega
          case rel =>
            obtain ⟨hs, hB, hy, hz⟩ := HM.out
            refine ⟨m + 1, by omega, rfl, by simp, ?_, (below_dnN hB _).setCell (p := ⟨w.heap.size, k + m, none⟩) (Nat.le_refl _) _⟩
            have := hs.set (k + m) (.int .i64 (wrap64 (z + wrap64 (x * y))))
            rw [← cellsK_set] at this
            show SBlk _ _ _ (cellsK .i64 (addAt wrap64 _ (k + m) (wrap64 (x * b.getD m 0))))
            unfold addAt
            rw [hy, hz]
            exact this
        · obtain rfl : m = b.length := by omega
          have HM := Lib.hid (And.intro hs hB)
          clear hs hB
          go_wp2_with fail
          go_roundg (a.length - (k + 1))
          case measure => omega
          case rel =>
            refine ⟨k + 1, by omega, rfl, by simp, ?_, HM.out.2⟩
            have := HM.out.1
            rw [← HX.out] at this
            exact this
    · obtain rfl : k = a.length := by omega
      have HM := Lib.hid (And.intro hs hB)
      clear hs hB
      go_wp2_with fail
      go_ret
      exact ⟨w.heap.size, rfl, HM.out.1, Nat.le_refl _, HM.out.2⟩
end Go.Proofs.YtcpeeopdaakbaaaGreat

namespace Go.Proofs.YtcpeeopdaakbaaaGreat
set_option linter.unusedSimpArgs false
open Go.RowKit Go.Shelf Cx Ps

set_option maxRecDepth 100000 in
set_option maxHeartbeats 4000000 in
theorem plus_ref (a b : List Int) (t : Int) (pa oa ca pb ob cb : Nat) (w : World) (ha : RowK .i64 w pa oa a) (hb : RowK .i64 w pb ob b) (hla : a.length ≤ 100000) (hlb : b.length ≤ 100000) :
    Calls Tryz.prog 128 #[.slice (some ⟨pa, oa, none⟩) a.length ca, .slice (some ⟨pb, ob, none⟩) b.length cb, .int .i64 t] w fun e w' => ∃ nb, e = .returned (.slice (some ⟨nb, 0, none⟩) (max a.length b.length) (max a.length b.length)) ∧
      SBlk w' nb 3 (cellsK .i64 (plusR wrap64 a b t)) ∧ w.heap.size ≤ nb ∧ Below w.heap.size w w' := by
  unfold plusR
  have hmx := max2_i64 a.length b.length
  obtain ⟨N, hN⟩ : ∃ N, max a.length b.length = N := ⟨_, rfl⟩
  rw [hN] at hmx ⊢
  have hna : a.length ≤ N := by omega
  have hnb : b.length ≤ N := by omega
  have hmk := make_i64 N (by omega)
  have H := Lib.hid (And.intro ha (And.intro hb (And.intro hla hlb)))
  have hst := SBlk.new w 3 (cellsK .i64 (List.replicate N 0))
  have hbl := (Below.refl w.heap.size w).alloc (Nat.le_refl _) (.cells (cellsK .i64 (List.replicate N 0)).toArray 3)
  have HW := Lib.hid (And.intro hst hbl)
  have HN := Lib.hid (And.intro hna hnb)
  clear ha hb hN hst hbl hna hnb
  go_enter Tryz.func128, Tryz.ntmps128
  go_wp2_with fail
  clear hmx hmk
  go_loopg [8] a.length (fun g i wr => ∃ k : Nat, k ≤ a.length ∧ g = a.length - k ∧ i = .int .i64 (k : Int) ∧ SBlk wr w.heap.size 3 (cellsK .i64 (addL wrap64 a (List.replicate N 0) k)) ∧ Below w.heap.size w wr)
  case atStart => exact ⟨0, Nat.zero_le _, rfl, rfl, HW.out⟩
  case round =>
    clear HW
    obtain ⟨k, hk, rfl, rfl, hs, hB⟩ := hrel
    by_cases hlt : k < a.length
    · have hlt2 : (k : Int) < (a.length : Int) := by omega
      have hlt3 : (k : Int) < (N : Int) := by have := HN.out; omega
      have c0 := (H.out.1.below hB).cell k hlt
      have hkl : k < (addL wrap64 a (List.replicate N 0) k).length := by rw [addL_length, List.length_replicate]; have := HN.out; omega
      have c2 := hs.cell k
      rw [cellsK_get .i64 hkl] at c2
      have f2 := hs.frozen k
      have hwk : IntKind.i64.wrap ((k : Int) + 1) = (k : Int) + 1 := IntWalk.i64_in _ (by have := H.out.2.2; omega)
      obtain ⟨y, hy⟩ : ∃ y, a.getD k 0 = y := ⟨_, rfl⟩
      rw [hy] at c0
      obtain ⟨z, hz⟩ : ∃ z, (addL wrap64 a (List.replicate N 0) k).getD k 0 = z := ⟨_, rfl⟩
      rw [hz] at c2
      have HM := Lib.hid (And.intro hs (And.intro hB (And.intro hy hz)))
      clear hs hB hy hz hkl
      go_wp2_with fail
      go_region
      go_wp2_with fail
      go_roundg (a.length - (k + 1))
      case measure => omega
      case rel =>
        obtain ⟨hs, hB, hy, hz⟩ := HM.out
        refine ⟨k + 1, by omega, rfl, by simp, ?_, (below_dnN hB _).setCell (p := ⟨w.heap.size, k, none⟩) (Nat.le_refl _) _⟩
        have := hs.set k (.int .i64 (wrap64 (z + y)))
        rw [← cellsK_set] at this
        show SBlk _ _ _ (cellsK .i64 (addAt wrap64 _ k (a.getD k 0)))
        unfold addAt
        rw [hy, hz]
        exact this
    · obtain rfl : k = a.length := by omega
      have HW := Lib.hid (And.intro hs hB)
      clear hs hB
      go_wp2_with fail
      have hlS : (addL wrap64 a (List.replicate N 0) a.length).length = N := by rw [addL_length, List.length_replicate]
      obtain ⟨S, hS⟩ : ∃ S, addL wrap64 a (List.replicate N 0) a.length = S := ⟨_, rfl⟩
      rw [hS] at HW hlS
      have HS := Lib.hid (And.intro hS hlS)
      clear hS hlS
      go_loopg [9] b.length (fun g i wi => ∃ m : Nat, m ≤ b.length ∧ g = b.length - m ∧ i = .int .i64 (m : Int) ∧ SBlk wi w.heap.size 3 (cellsK .i64 (prodRow wrap64 t b 0 S m)) ∧ Below w.heap.size w wi)
      case atStart => exact ⟨0, Nat.zero_le _, rfl, rfl, HW.out⟩
      case round =>
        clear HW
        obtain ⟨m, hm, rfl, rfl, hs, hB⟩ := hrel
        by_cases hlt : m < b.length
        · have hlt2 : (m : Int) < (b.length : Int) := by omega
          have hlt3 : (m : Int) < (N : Int) := by have := HN.out; omega
          have c0 := (H.out.2.1.below hB).cell m hlt
          have hkl : m < (prodRow wrap64 t b 0 S m).length := by rw [prodRow_length, HS.out.2]; have := HN.out; omega
          have c2 := hs.cell m
          rw [cellsK_get .i64 hkl] at c2
          have f2 := hs.frozen m
          have hwk : IntKind.i64.wrap ((m : Int) + 1) = (m : Int) + 1 := IntWalk.i64_in _ (by have := H.out.2.2; omega)
          obtain ⟨y, hy⟩ : ∃ y, b.getD m 0 = y := ⟨_, rfl⟩
          rw [hy] at c0
          obtain ⟨z, hz⟩ : ∃ z, (prodRow wrap64 t b 0 S m).getD m 0 = z := ⟨_, rfl⟩
          rw [hz] at c2
          have HM := Lib.hid (And.intro hs (And.intro hB (And.intro hy hz)))
          clear hs hB hy hz hkl
          go_wp2_with fail
          go_region
          go_wp2_with fail
          go_roundg (b.length - (m + 1))
          case measure => omega
          case rel =>
            obtain ⟨hs, hB, hy, hz⟩ := HM.out
            refine ⟨m + 1, by omega, rfl, by simp, ?_, (below_dnN hB _).setCell (p := ⟨w.heap.size, m, none⟩) (Nat.le_refl _) _⟩
            have := hs.set m (.int .i64 (wrap64 (z + wrap64 (t * y))))
            rw [← cellsK_set] at this
            show SBlk _ _ _ (cellsK .i64 (addAt wrap64 _ (0 + m) (wrap64 (t * b.getD m 0))))
            unfold addAt
            rw [Nat.zero_add, hy, hz]
            exact this
        · obtain rfl : m = b.length := by omega
          have HW := Lib.hid (And.intro hs hB)
          clear hs hB
          go_wp2_with fail
          go_ret
          refine ⟨w.heap.size, rfl, ?_, Nat.le_refl _, HW.out.2⟩
          have := HW.out.1
          rw [← HS.out.1] at this
          exact this

set_option maxRecDepth 100000 in
set_option maxHeartbeats 2000000 in
theorem row_ref (n : Nat) (hn : n ≤ 1000) (w : World) :
    Calls Tryz.prog 127 #[.int .i64 n] w fun e w' => ∃ v, e = .returned v ∧ ListI w' w.heap.size v (List.replicate n 1) ∧ Below w.heap.size w w' := by
  have HB := Lib.hid (And.intro (SBlk.new w 3 []) ((Below.refl w.heap.size w).alloc (Nat.le_refl _) (.cells #[] 3)))
  have hst : ListI (w.alloc (.cells #[] 3)) w.heap.size (.slice (some ⟨w.heap.size, 0, none⟩) 0 0) (List.replicate 0 1) := .inr ⟨w.heap.size, 0, [], Nat.le_refl _, rfl, rfl, Nat.zero_le _, HB.out.1⟩
  have HST := Lib.hid hst
  have HL := Lib.hid hn
  clear hst hn
  go_enter Tryz.func127, Tryz.ntmps127
  go_wp2_with fail
  go_loopg [3, 4] n (fun g s3 s4 wr => ∃ k : Nat, k ≤ n ∧ g = n - k ∧ s4 = .int .i64 (k : Int) ∧ Hid (ListI wr w.heap.size s3 (List.replicate k 1) ∧ Below w.heap.size w wr))
  case atStart => exact ⟨0, Nat.zero_le _, rfl, rfl, Lib.hid ⟨HST.out, HB.out.2⟩⟩
  case round =>
    obtain ⟨k, hk, rfl, rfl, HI⟩ := hrel
    clear HB HST
    by_cases hlt : k < n
    · have hki : (k : Int) < (n : Int) := by omega
      have hwk : IntKind.i64.wrap ((k : Int) + 1) = (k : Int) + 1 := IntWalk.i64_in _ (by have := HL.out; omega)
      go_wp2_with (first
        | (at_builtin; ((have hA := HI.out.1.below ((Below.refl wr.heap.size wr).alloc (Nat.le_refl _) (.cells #[.int .i64 1] 3))); (obtain ⟨v', w', hr, h1, h2⟩ := app_i64 _ _ _ _ hA (by have h1 := HI.out.2.size; simp; omega) (by have := HL.out; simp; omega) wr.heap.size 1 1 ((SBlk.new wr 3 [.int .i64 1]).cell 0)); (have HR := Lib.hid (And.intro h1 h2)); (clear hA h1 h2); (refine Lib.wpList_append_run _ rfl (.tmp 11) (.tmp 12) 47 47 rfl _ _ rfl rfl _ _ hr ?_); clear hr)))
      go_roundg (n - (k + 1))
      case measure => omega
      case rel =>
        obtain ⟨h1, h2⟩ := HR.out
        have hb0 := (HI.out.2.alloc HI.out.2.size (.cells #[.int .i64 1] 3)).trans h2
        refine ⟨k + 1, by omega, rfl, by simp, Lib.hid ⟨?_, hb0⟩⟩
        rw [List.replicate_succ']
        exact h1
    · obtain rfl : k = n := by omega
      go_wp2_with fail
      go_ret
      exact ⟨_, rfl, HI.out⟩
end Go.Proofs.YtcpeeopdaakbaaaGreat

namespace Go.Proofs.YtcpeeopdaakbaaaGreat
set_option linter.unusedSimpArgs false
open Go.RowKit Go.Shelf Cx Ps

/-- a slice of int that is not nil, in a block from B on -/
def SomeI (w : World) (B : Nat) (v : Value) (l : List Int) : Prop :=
  ∃ g cap ex, B ≤ g ∧ v = .slice (some ⟨g, 0, none⟩) l.length cap ∧ l.length + ex.length = cap ∧ cap ≤ Go.maxLen ∧ SBlk w g 3 (cellsK .i64 l ++ ex)
theorem ListI.more {w : World} {B : Nat} {v : Value} {l : List Int} {s : Int} (h : ListI w B v (l ++ [s])) : SomeI w B v (l ++ [s]) := by
  rcases h with ⟨h, _⟩ | h
  · simp at h
  · exact h
theorem SomeI.list {w : World} {B : Nat} {v : Value} {l : List Int} (h : SomeI w B v l) : ListI w B v l := .inr h
theorem SomeI.below {w w' : World} {B : Nat} {v : Value} {l : List Int} (h : SomeI w B v l) (hb : Below w.heap.size w w') : SomeI w' B v l := by
  obtain ⟨g, cap, ex, h1, h2, h3, h4, h5⟩ := h
  exact ⟨g, cap, ex, h1, h2, h3, h4, h5.below hb h5.lt⟩
theorem SomeI.lower {w : World} {B B' : Nat} {v : Value} {l : List Int} (h : SomeI w B v l) (hb : B' ≤ B) : SomeI w B' v l := by
  obtain ⟨g, cap, ex, h1, h2⟩ := h
  exact ⟨g, cap, ex, Nat.le_trans hb h1, h2⟩
theorem SomeI.row {w : World} {B : Nat} {v : Value} {l : List Int} (h : SomeI w B v l) : ∃ g cap, B ≤ g ∧ v = .slice (some ⟨g, 0, none⟩) l.length cap ∧ l.length ≤ cap ∧ RowK .i64 w g 0 l := by
  obtain ⟨g, cap, ex, h1, h2, h3, h4, h5⟩ := h
  refine ⟨g, cap, h1, h2, by omega, h5.lt, fun i hi => ?_⟩
  rw [h5.cell, Nat.zero_add, List.getElem?_append_left (by rw [cellsK_length]; exact hi), cellsK_get .i64 hi]

/-- whole numbers as Int -/
def ints (l : List Nat) : List Int := l.map Int.ofNat
theorem ints_length (l : List Nat) : (ints l).length = l.length := by simp [ints]
theorem ints_get (l : List Nat) (i : Nat) : (ints l).getD i 0 = ((l.getD i 0 : Nat) : Int) := by
  unfold ints
  rw [List.getD_eq_getElem?_getD, List.getD_eq_getElem?_getD, List.getElem?_map]
  cases l[i]? <;> rfl
def ordP (a b c k : Nat) : List Nat := ([a, b, c].take k).filter (· ≠ 0)
theorem ordP_len (a b c k : Nat) : (ordP a b c k).length ≤ 3 := by
  unfold ordP
  refine Nat.le_trans (List.length_filter_le _ _) ?_
  rw [List.length_take]
  simp; omega
theorem ordP_zero {a b c k : Nat} (hk : k < 3) (h : [a, b, c].getD k 0 = 0) : ordP a b c (k + 1) = ordP a b c k := by
  unfold ordP
  rcases k with _ | _ | _ | k
  · simp at h; subst h; rfl
  · simp at h; subst h; simp [List.filter]
  · simp at h; subst h; simp [List.filter]
  · omega
theorem ordP_more {a b c k : Nat} (hk : k < 3) (h : [a, b, c].getD k 0 ≠ 0) : ordP a b c (k + 1) = ordP a b c k ++ [[a, b, c].getD k 0] := by
  unfold ordP
  rcases k with _ | _ | _ | k
  · simp at h; simp [h]
  · simp at h; simp [List.filter_append, List.filter, h]; split <;> rfl
  · simp at h; simp [List.filter, h]; repeat (split <;> try rfl)
  · omega

set_option maxRecDepth 100000 in
set_option maxHeartbeats 2000000 in
theorem orders_ref (a b c : Nat) (w : World) :
    Calls Tryz.prog 125 #[.agg #[.int .i64 a, .int .i64 b, .int .i64 c]] w fun e w' => ∃ v, e = .returned v ∧ SomeI w' w.heap.size v (ints (ordL a b c)) ∧ Below w.heap.size w w' := by
  have b1 := (Below.refl w.heap.size w).alloc (Nat.le_refl _) (.cells #[.int .i64 a, .int .i64 b, .int .i64 c] 23)
  have b2 := b1.alloc b1.size (.cells #[.int .i64 a, .int .i64 b, .int .i64 c] 3)
  have b3 := b2.alloc b2.size (.cells #[] 3)
  have q2 := (SBlk.new' (w.alloc (.cells #[.int .i64 a, .int .i64 b, .int .i64 c] 23)) 3 [.int .i64 a, .int .i64 b, .int .i64 c] (w.heap.size + 1) (by simp)).alloc (.cells #[] 3)
  have q3 := SBlk.new' ((w.alloc (.cells #[.int .i64 a, .int .i64 b, .int .i64 c] 23)).alloc (.cells #[.int .i64 a, .int .i64 b, .int .i64 c] 3)) 3 [] (w.heap.size + 2) (by simp)
  have HB := Lib.hid (And.intro q2 (And.intro q3 b3))
  clear b1 b2 b3 q2 q3
  go_enter Tryz.func125, Tryz.ntmps125
  go_wp2_with fail
  go_loopg [4, 5] 3 (fun g s4 s5 wr => ∃ k : Nat, k ≤ 3 ∧ g = 3 - k ∧ s5 = .int .i64 (k : Int) ∧ Hid (SomeI wr (w.heap.size + 2) s4 (ints (ordP a b c k)) ∧ SBlk wr (w.heap.size + 1) 3 [.int .i64 a, .int .i64 b, .int .i64 c] ∧ Below w.heap.size w wr ∧ w.heap.size + 2 ≤ wr.heap.size))
  case atStart => exact ⟨0, by omega, rfl, rfl, Lib.hid ⟨⟨w.heap.size + 2, 0, [], Nat.le_refl _, rfl, rfl, Nat.zero_le _, HB.out.2.1⟩, HB.out.1, HB.out.2.2, by simp⟩⟩
  case round =>
    obtain ⟨k, hk, rfl, rfl, HI⟩ := hrel
    clear HB
    by_cases hlt : k < 3
    · have hki : (k : Int) < 3 := by omega
      have hwk : IntKind.i64.wrap ((k : Int) + 1) = (k : Int) + 1 := IntWalk.i64_in _ (by omega)
      obtain ⟨x, hx⟩ : ∃ x, [a, b, c].getD k 0 = x := ⟨_, rfl⟩
      have c0 := HI.out.2.1.cell k
      have c1 : ([.int .i64 a, .int .i64 b, .int .i64 c] : List Value)[k]? = some (.int .i64 (x : Int)) := by
        subst hx
        rcases k with _ | _ | _ | k
        · rfl
        · rfl
        · rfl
        · omega
      rw [c1] at c0
      have HX := Lib.hid hx
      clear c1 hx
      by_cases h0 : x = 0
      · subst h0
        go_wp2_with fail
        go_roundg (3 - (k + 1))
        case measure => omega
        case rel =>
          refine ⟨k + 1, by omega, rfl, by simp, Lib.hid ⟨?_, HI.out.2⟩⟩
          rw [ordP_zero hlt HX.out]
          exact HI.out.1
      · have hx0 : ((x : Int) != 0) = true := by simp; omega
        have HX0 := Lib.hid h0
        clear h0
        go_wp2_with (first
          | (at_builtin; ((have hA := HI.out.1.list.below ((Below.refl wr.heap.size wr).alloc (Nat.le_refl _) (.cells #[.int .i64 x] 3))); (obtain ⟨v', w', hr, h1, h2⟩ := app_i64 _ _ _ _ hA (by have h1 := HI.out.2.2.2; simp; omega) (by have := ordP_len a b c k; rw [ints_length]; omega) wr.heap.size 1 x ((SBlk.new wr 3 [.int .i64 x]).cell 0)); (have HR := Lib.hid (And.intro h1 h2)); (clear hA h1 h2); (refine Lib.wpList_append_run _ rfl (.tmp 23) (.tmp 28) 47 47 rfl _ _ rfl rfl _ _ hr ?_); clear hr)))
        go_roundg (3 - (k + 1))
        case measure => omega
        case rel =>
          obtain ⟨h1, h2⟩ := HR.out
          have hz := HI.out.2.2.2
          have h3 : Below (w.heap.size + 2) wr w' := ((Below.refl (w.heap.size + 2) wr).alloc hz _).trans h2
          refine ⟨k + 1, by omega, rfl, by simp, Lib.hid ⟨?_, HI.out.2.1.below h3 (by omega), HI.out.2.2.1.trans (h3.mono (by omega)), Nat.le_trans hz h3.size⟩⟩
          have e : ints (ordP a b c (k + 1)) = ints (ordP a b c k) ++ [(x : Int)] := by
            rw [ordP_more hlt (by rw [HX.out]; exact HX0.out), HX.out]
            simp [ints]
          rw [e]
          exact h1.more
    · obtain rfl : k = 3 := by omega
      go_wp2_with fail
      go_ret
      exact ⟨_, rfl, HI.out.1.lower (by omega), HI.out.2.2.1⟩
end Go.Proofs.YtcpeeopdaakbaaaGreat

namespace Go.Proofs.YtcpeeopdaakbaaaGreat
set_option linter.unusedSimpArgs false
open Go.RowKit Go.Shelf Cx Ps

/-- a row of int in a block from B on -/
def RowV (w : World) (B : Nat) (v : Value) (l : List Int) : Prop :=
  ∃ g cap, B ≤ g ∧ v = .slice (some ⟨g, 0, none⟩) l.length cap ∧ l.length ≤ cap ∧ RowK .i64 w g 0 l
theorem RowV.below {w w' : World} {B : Nat} {v : Value} {l : List Int} (h : RowV w B v l) (hb : Below w.heap.size w w') : RowV w' B v l := by
  obtain ⟨g, cap, h1, h2, h3, h4⟩ := h
  exact ⟨g, cap, h1, h2, h3, h4.below hb⟩
theorem RowV.lower {w : World} {B B' : Nat} {v : Value} {l : List Int} (h : RowV w B v l) (hb : B' ≤ B) : RowV w B' v l := by
  obtain ⟨g, cap, h1, h2⟩ := h
  exact ⟨g, cap, Nat.le_trans hb h1, h2⟩
theorem RowV.slice {w : World} {B : Nat} {v : Value} {l : List Int} (h : RowV w B v l) : ∃ p cap, v = .slice p l.length cap := by
  obtain ⟨g, cap, h1, rfl, h3, h4⟩ := h
  exact ⟨_, _, rfl⟩
theorem RowV.of {w : World} {B g : Nat} {l : List Int} {n : Nat} (h : SBlk w g 3 (cellsK .i64 l)) (hg : B ≤ g) (hn : l.length = n) : RowV w B (.slice (some ⟨g, 0, none⟩) n n) l := by
  subst hn
  exact ⟨g, _, hg, rfl, Nat.le_refl _, RowK.of h⟩
theorem RowV.less {w : World} {B : Nat} {v : Value} {l : List Int} (h : RowV w B v l) : B < w.heap.size := by
  obtain ⟨g, cap, h1, rfl, h3, h4⟩ := h
  exact Nat.lt_of_le_of_lt h1 h4.lt

theorem Times_row (a b : List Int) (va vb : Value) (B B' : Nat) (w : World) (ha : RowV w B va a) (hb : RowV w B' vb b) (la : 0 < a.length) (lb : 0 < b.length) (hla : a.length ≤ 100000) (hlb : b.length ≤ 100000) :
    Calls Tryz.prog 126 #[va, vb] w fun e w' => ∃ v, e = .returned v ∧ RowV w' w.heap.size v (timR wrap64 a b) ∧ Below w.heap.size w w' := by
  obtain ⟨g, cap, h1, rfl, h3, h4⟩ := ha
  obtain ⟨g', cap', k1, rfl, k3, k4⟩ := hb
  refine (Times_ref a b g 0 cap g' 0 cap' w h4 k4 la lb hla hlb).mono ?_
  rintro e w' ⟨nb, rfl, q1, q2, q3⟩
  exact ⟨_, rfl, RowV.of q1 q2 (timR_length _ _ _), q3⟩
theorem plus_row (a b : List Int) (t : Int) (va vb : Value) (B B' : Nat) (w : World) (ha : RowV w B va a) (hb : RowV w B' vb b) (hla : a.length ≤ 100000) (hlb : b.length ≤ 100000) :
    Calls Tryz.prog 128 #[va, vb, .int .i64 t] w fun e w' => ∃ v, e = .returned v ∧ RowV w' w.heap.size v (plusR wrap64 a b t) ∧ Below w.heap.size w w' := by
  obtain ⟨g, cap, h1, rfl, h3, h4⟩ := ha
  obtain ⟨g', cap', k1, rfl, k3, k4⟩ := hb
  refine (plus_ref a b t g 0 cap g' 0 cap' w h4 k4 hla hlb).mono ?_
  rintro e w' ⟨nb, rfl, q1, q2, q3⟩
  exact ⟨_, rfl, RowV.of q1 q2 (plusR_length _ _ _ _), q3⟩
theorem SomeI.rowV {w : World} {B : Nat} {v : Value} {l : List Int} (h : SomeI w B v l) : RowV w B v l := by
  obtain ⟨g, cap, h1, h2, h3, h4⟩ := h.row
  exact ⟨g, cap, h1, h2, h3, h4⟩
theorem row_row (n : Nat) (h0 : 0 < n) (hn : n ≤ 1000) (w : World) :
    Calls Tryz.prog 127 #[.int .i64 n] w fun e w' => ∃ v, e = .returned v ∧ RowV w' w.heap.size v (List.replicate n 1) ∧ Below w.heap.size w w' := by
  refine (row_ref n hn w).mono ?_
  rintro e w' ⟨v, rfl, h1, h2⟩
  refine ⟨v, rfl, ?_, h2⟩
  rcases h1 with ⟨h, _⟩ | h
  · rw [List.replicate_eq_nil_iff] at h; omega
  · exact SomeI.rowV h

theorem rowsR_len {l : List Nat} (h1 : ∀ x ∈ l, 1 ≤ x ∧ x ≤ 12) (i : Nat) : ∀ k, k ≤ l.length → 1 ≤ (rowsR wrap64 l i k).length ∧ (rowsR wrap64 l i k).length ≤ 1 + 12 * k
  | 0, _ => by simp [rowsR]
  | k + 1, hk => by
    have ih := rowsR_len h1 i k (by omega)
    have hm : l[k] ∈ l := List.getElem_mem (by omega)
    have h2 := h1 _ hm
    have e : l.getD k 0 = l[k] := by simp [List.getElem?_eq_getElem (show k < l.length by omega)]
    unfold rowsR
    split
    · omega
    · rw [timR_length, List.length_replicate, e]; omega
theorem numR_len {l : List Nat} (h1 : ∀ x ∈ l, 1 ≤ x ∧ x ≤ 12) : 1 ≤ (numR wrap64 l).length ∧ (numR wrap64 l).length ≤ 2 + 12 * l.length := by
  have := rowsR_len h1 l.length l.length (Nat.le_refl _)
  unfold numR
  rw [timR_length]
  simp
  omega
theorem denR_len {l : List Nat} (h1 : ∀ x ∈ l, 1 ≤ x ∧ x ≤ 12) : ∀ k, k ≤ l.length → 1 ≤ (denR wrap64 l k).length ∧ (denR wrap64 l k).length ≤ 2 + 12 * l.length
  | 0, _ => by
    have h2 := numR_len h1
    have h3 := rowsR_len h1 l.length l.length (Nat.le_refl _)
    unfold denR
    rw [plusR_length]; omega
  | k + 1, hk => by
    have ih := denR_len h1 k (by omega)
    have h3 := rowsR_len h1 k l.length (Nat.le_refl _)
    unfold denR
    rw [plusR_length]; omega
theorem ordL_in {a b c : Nat} (hg : Good a b c) : (∀ x ∈ ordL a b c, 1 ≤ x ∧ x ≤ 12) ∧ (ordL a b c).length ≤ 3 := by
  refine ⟨fun x hx => ?_, Nat.le_trans (List.length_filter_le _ _) (by simp)⟩
  unfold ordL at hx
  rw [List.mem_filter] at hx
  obtain ⟨h1, h2⟩ := hx
  have h3 : x ≠ 0 := by simpa using h2
  have h4 : Lim x := by
    simp only [List.mem_cons, List.not_mem_nil, or_false] at h1
    rcases h1 with rfl | rfl | rfl
    · exact hg.la
    · exact hg.lb
    · exact hg.lc
  rcases h4 with h | h <;> omega
end Go.Proofs.YtcpeeopdaakbaaaGreat
