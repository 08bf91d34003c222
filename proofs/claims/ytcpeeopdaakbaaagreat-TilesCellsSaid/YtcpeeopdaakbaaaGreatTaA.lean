/- Polynomials as slices of int: products, sums. Polynomials: the zeros behind the last other coefficient. Polynomials: the quotient and the rest. Polynomials: division by one whose greatest power has 1 ahead. The polynomial whose roots are the primitive roots of 1 of an order. Polynomials as slices of uint64: products, sums. -/
import Derived.Test.YtcpeeopdaakbaaaGreatZf
import Derived.Laws.AppendOwn
import Derived.Lib.AppendZeros
import Derived.StillTailTactics
namespace Go.Proofs.YtcpeeopdaakbaaaGreat
open Go.RowKit Go.Shelf Cx

/-- whole numbers of a kind in cells -/
def cellsK (k : IntKind) (l : List Int) : List Value := l.map (Value.int k)
theorem cellsK_length (k : IntKind) (l : List Int) : (cellsK k l).length = l.length := by simp [cellsK]
theorem cellsK_get (k : IntKind) {l : List Int} {i : Nat} (h : i < l.length) : (cellsK k l)[i]? = some (.int k (l.getD i 0)) := by
  simp [cellsK, List.getElem?_eq_getElem h]
theorem cellsK_set (k : IntKind) (l : List Int) (i : Nat) (v : Int) : cellsK k (l.set i v) = (cellsK k l).set i (.int k v) := by simp [cellsK, List.map_set]

/-- a slice of such numbers that is read -/
structure RowK (k : IntKind) (w : World) (b off : Nat) (l : List Int) : Prop where
  lt : b < w.heap.size
  cell : ∀ i, i < l.length → w.cell? ⟨b, off + i, none⟩ = some (.int k (l.getD i 0))
theorem RowK.below {k : IntKind} {w w' : World} {b off : Nat} {l : List Int} (h : RowK k w b off l) (hb : Below w.heap.size w w') : RowK k w' b off l :=
  ⟨Nat.lt_of_lt_of_le h.lt hb.size, fun i hi => (hb.cell (p := ⟨b, off + i, none⟩) h.lt).trans (h.cell i hi)⟩
theorem RowK.of {k : IntKind} {w : World} {b : Nat} {T : TypeId} {l : List Int} (h : SBlk w b T (cellsK k l)) : RowK k w b 0 l :=
  ⟨h.lt, fun i hi => by rw [h.cell, Nat.zero_add, cellsK_get k hi]⟩

/-- more at a place -/
def addAt (wr : Int → Int) (l : List Int) (i : Nat) (x : Int) : List Int := l.set i (wr (l.getD i 0 + x))
theorem addAt_length (wr : Int → Int) (l : List Int) (i : Nat) (x : Int) : (addAt wr l i x).length = l.length := by simp [addAt]
def prodRow (wr : Int → Int) (c : Int) (b : List Int) (i : Nat) (l : List Int) : Nat → List Int
  | 0 => l
  | m + 1 => addAt wr (prodRow wr c b i l m) (i + m) (wr (c * b.getD m 0))
theorem prodRow_length (wr : Int → Int) (c : Int) (b : List Int) (i : Nat) (l : List Int) : ∀ m, (prodRow wr c b i l m).length = l.length
  | 0 => rfl
  | m + 1 => (addAt_length _ _ _ _).trans (prodRow_length wr c b i l m)
/-- the product, behind k coefficients of a -/
def prodS (wr : Int → Int) (a b : List Int) : Nat → List Int
  | 0 => List.replicate (a.length + b.length - 1) 0
  | k + 1 => prodRow wr (a.getD k 0) b k (prodS wr a b k) b.length
theorem prodS_length (wr : Int → Int) (a b : List Int) : ∀ k, (prodS wr a b k).length = a.length + b.length - 1
  | 0 => by simp [prodS]
  | k + 1 => (prodRow_length _ _ _ _ _ _).trans (prodS_length wr a b k)
/-- the sum, behind k coefficients of b -/
def sumS (wr : Int → Int) (a b : List Int) : Nat → List Int
  | 0 => a ++ List.replicate (max a.length b.length - a.length) 0
  | k + 1 => addAt wr (sumS wr a b k) k (b.getD k 0)
theorem sumS_length (wr : Int → Int) (a b : List Int) : ∀ k, (sumS wr a b k).length = max a.length b.length
  | 0 => by simp [sumS]; omega
  | k + 1 => (addAt_length _ _ _ _).trans (sumS_length wr a b k)

theorem info_i64 : (Tryz.prog.info? 3).map (fun i => (i.zero, i.size, i.bytes)) = some (some (.int .i64 0), 1, 8) := by kernel_rfl

set_option maxRecDepth 100000 in
theorem make_i64 (n : Nat) (h : n ≤ 1000000) (w : World) : (Instr.makeSlice 47 (.int .i64 n) (.int .i64 n)).run Tryz.prog w = .ok (.slice (some ⟨w.heap.size, 0, none⟩) n n) (w.alloc (.cells (cellsK .i64 (List.replicate n 0)).toArray 3)) := by
  have h := run_make_row' (P := Tryz.prog) 47 3 (.int .i64 0) 8 Tryz.underlying47 info_i64 rfl .i64 .i64 n (by omega) (by omega) w
  rw [h]
  congr 3
  congr 1
  apply Array.ext
  · simp [madeCells, cellsK]
  · intro i h1 h2
    simp [madeCells, cellsK, Nat.mod_one]

set_option maxRecDepth 100000 in
set_option maxHeartbeats 4000000 in
theorem product_i64 (a b : List Int) (pa oa ca pb ob cb : Nat) (w : World) (ha : RowK .i64 w pa oa a) (hb : RowK .i64 w pb ob b) (la : 0 < a.length) (lb : 0 < b.length) (hla : a.length ≤ 100000) (hlb : b.length ≤ 100000) :
    Calls Tryz.prog 166 #[.slice (some ⟨pa, oa, none⟩) a.length ca, .slice (some ⟨pb, ob, none⟩) b.length cb] w fun e w' => ∃ nb, e = .returned (.slice (some ⟨nb, 0, none⟩) (a.length + b.length - 1) (a.length + b.length - 1)) ∧
      SBlk w' nb 3 (cellsK .i64 (prodS wrap64 a b a.length)) ∧ w.heap.size ≤ nb ∧ Below w.heap.size w w' := by
  have hmk := make_i64 (a.length + b.length - 1) (by omega)
  have hc : ((a.length + b.length - 1 : Nat) : Int) = (a.length : Int) + (b.length : Int) - 1 := by omega
  rw [hc] at hmk
  have H := Lib.hid (And.intro ha hb)
  clear ha hb hc
  go_enter Tryz.func166, Tryz.ntmps166
  go_wp2_with fail
  have hst := SBlk.new w 3 (cellsK .i64 (List.replicate (a.length + b.length - 1) 0))
  have hbl := (Below.refl w.heap.size w).alloc (Nat.le_refl _) (.cells (cellsK .i64 (List.replicate (a.length + b.length - 1) 0)).toArray 3)
  have HW := Lib.hid (And.intro hst hbl)
  clear hst hbl hmk
  go_loopg [19] a.length (fun g i wr => ∃ k : Nat, k ≤ a.length ∧ g = a.length - k ∧ i = .int .i64 (k : Int) ∧ SBlk wr w.heap.size 3 (cellsK .i64 (prodS wrap64 a b k)) ∧ Below w.heap.size w wr)
  case atStart => exact ⟨0, Nat.zero_le _, rfl, rfl, HW.out⟩
  case round =>
    clear HW
    obtain ⟨k, hk, rfl, rfl, hs, hB⟩ := hrel
    by_cases hlt : k < a.length
    · have c0 := (H.out.1.below hB).cell k hlt
      have hlt2 : (k : Int) < (a.length : Int) := by omega
      have HK := Lib.hid (And.intro hs hB)
      obtain ⟨x, hx⟩ : ∃ x, a.getD k 0 = x := ⟨_, rfl⟩
      rw [hx] at c0
      have HX := Lib.hid hx
      clear hs hB hx
      go_wp2_with fail
      go_loopg [26] b.length (fun g i wi => ∃ m : Nat, m ≤ b.length ∧ g = b.length - m ∧ i = .int .i64 (m : Int) ∧ SBlk wi w.heap.size 3 (cellsK .i64 (prodRow wrap64 x b k (prodS wrap64 a b k) m)) ∧ Below w.heap.size w wi)
      case atStart => exact ⟨0, Nat.zero_le _, rfl, rfl, HK.out⟩
      case round =>
        obtain ⟨m, hm, rfl, rfl, hs, hB⟩ := hrel
        clear c0
        by_cases hlm : m < b.length
        · have c1 := (H.out.2.below hB).cell m hlm
          have hkm : k + m < (prodRow wrap64 x b k (prodS wrap64 a b k) m).length := by rw [prodRow_length, prodS_length]; omega
          have c2 := hs.cell (k + m)
          rw [cellsK_get .i64 hkm] at c2
          have f2 := hs.frozen (k + m)
          obtain ⟨y, hy⟩ : ∃ y, b.getD m 0 = y := ⟨_, rfl⟩
          rw [hy] at c1
          obtain ⟨z, hz⟩ : ∃ z, (prodRow wrap64 x b k (prodS wrap64 a b k) m).getD (k + m) 0 = z := ⟨_, rfl⟩
          rw [hz] at c2
          have j1 : (m : Int) < (b.length : Int) := by omega
          have j2 : (0 : Int) ≤ (k : Int) + (m : Int) := by omega
          have j3 : (k : Int) + (m : Int) < (a.length : Int) + (b.length : Int) - 1 := by omega
          have HM := Lib.hid (And.intro hs (And.intro hB (And.intro hy hz)))
          clear hs hB hy hz hkm
          go_wp2_with fail
          go_roundg (b.length - (m + 1))
          case measure => omega
          case rel =>
            obtain ⟨hs, hB, hy, hz⟩ := HM.out
            refine ⟨m + 1, by omega, rfl, by simp, ?_, hB.setCell (p := ⟨w.heap.size, k + m, none⟩) (Nat.le_refl _) _⟩
            have := hs.set (k + m) (.int .i64 (wrap64 (z + wrap64 (x * y))))
            rw [← cellsK_set] at this
            show SBlk _ _ _ (cellsK .i64 (addAt wrap64 _ (k + m) (wrap64 (x * b.getD m 0))))
            unfold addAt
            rw [hy, hz]
            exact this
        · obtain rfl : m = b.length := by omega
          have HM := Lib.hid (And.intro hs hB)
          clear hs hB
          go_wp2_with fail
          go_roundg (a.length - (k + 1))
          case measure => omega
          case rel =>
            refine ⟨k + 1, by omega, rfl, by simp, ?_, HM.out.2⟩
            have := HM.out.1
            rw [← HX.out] at this
            exact this
    · obtain rfl : k = a.length := by omega
      have HM := Lib.hid (And.intro hs hB)
      clear hs hB
      go_wp2_with fail
      go_ret
      exact ⟨w.heap.size, rfl, HM.out.1, Nat.le_refl _, HM.out.2⟩

set_option maxRecDepth 100000 in
theorem max2_i64 (m n : Nat) (w : World) : (Builtin.max_ #[3, 3] 3 #[.int .i64 m, .int .i64 n]).run Tryz.prog w = .ok (.int .i64 ((max m n : Nat) : Int)) w := by
  simp [Builtin.max_, Builtin.max2]
  split <;> omega

theorem size_i64 : (Tryz.prog.info? 3).map (·.size) = some 1 := by kernel_rfl

theorem sumS_start_i64 (a b : List Int) {N : Nat} (hN : max a.length b.length = N) : splice (cellsK .i64 (List.replicate N 0)) 0 (cellsK .i64 a) = cellsK .i64 (sumS wrap64 a b 0) := by
  unfold splice sumS cellsK
  subst hN
  simp

set_option maxRecDepth 100000 in
set_option maxHeartbeats 4000000 in
theorem sum_i64 (a b : List Int) (pa oa ca pb ob cb : Nat) (w : World) (ha : RowK .i64 w pa oa a) (hb : RowK .i64 w pb ob b) (hla : a.length ≤ 100000) (hlb : b.length ≤ 100000) :
    Calls Tryz.prog 203 #[.slice (some ⟨pa, oa, none⟩) a.length ca, .slice (some ⟨pb, ob, none⟩) b.length cb] w fun e w' => ∃ nb, e = .returned (.slice (some ⟨nb, 0, none⟩) (max a.length b.length) (max a.length b.length)) ∧
      SBlk w' nb 3 (cellsK .i64 (sumS wrap64 a b b.length)) ∧ w.heap.size ≤ nb ∧ Below w.heap.size w w' := by
  have hmx := max2_i64 a.length b.length
  obtain ⟨N, hN⟩ : ∃ N, max a.length b.length = N := ⟨_, rfl⟩
  rw [hN] at hmx ⊢
  have hna : a.length ≤ N := by omega
  have hnb : b.length ≤ N := by omega
  have hmk := make_i64 N (by omega)
  have H := Lib.hid (And.intro ha (And.intro hb hN))
  have hst : (w.alloc (.cells (cellsK .i64 (List.replicate N 0)).toArray 3)).heap[w.heap.size]? = some (.cells (cellsK .i64 (List.replicate N 0)).toArray 3 (0, 0)) := SBlk.new w 3 (cellsK .i64 (List.replicate N 0))
  have hbl := (Below.refl w.heap.size w).alloc (Nat.le_refl _) (.cells (cellsK .i64 (List.replicate N 0)).toArray 3)
  have HW := Lib.hid (And.intro hst hbl)
  clear ha hb hN hst hbl
  go_enter Tryz.func203, Tryz.ntmps203
  go_wp2_with (with_reducible refine wpList_copy_splice rfl (.tmp 14) (.tmp 15) 47 47 rfl 3 Tryz.underlying47 size_i64 (some ⟨w.heap.size, 0, none⟩) (some ⟨pa, oa, none⟩) N N a.length ca rfl rfl w.heap.size 0 (cellsK .i64 (List.replicate N 0)) 3 HW.out.1 (cellsK .i64 a) ?_ ?_ ?_ ?_ w.heap.size w HW.out.2 (Nat.le_refl _) ?_)
  · rw [cellsK_length]; show _ = min _ _; omega
  · intro _ j v hv
    have hj : j < a.length := by
      rcases Nat.lt_or_ge j a.length with h | h
      · exact h
      · rw [List.getElem?_eq_none (by rw [cellsK_length]; exact h)] at hv; cases hv
    have h1 := (H.out.1.below HW.out.2).cell j hj
    rw [cellsK_get .i64 hj] at hv
    rw [← hv]
    exact h1
  · rw [cellsK_length, cellsK_length, List.length_replicate]; omega
  · intro v hv
    unfold cellsK at hv
    obtain ⟨x, _, rfl⟩ := List.mem_map.1 hv
    rfl
  intro w4 hg4 hb4
  have hg5 : SBlk w4 w.heap.size 3 (cellsK .i64 (sumS wrap64 a b 0)) := by
    have := hg4.out
    rw [sumS_start_i64 a b H.out.2.2] at this
    exact this
  have HS := Lib.hid (And.intro hg5 hb4)
  clear hg5 hb4 hg4 hmk hmx
  go_wp2_with fail
  go_loopg [19] b.length (fun g i wr => ∃ k : Nat, k ≤ b.length ∧ g = b.length - k ∧ i = .int .i64 (k : Int) ∧ SBlk wr w.heap.size 3 (cellsK .i64 (sumS wrap64 a b k)) ∧ Below w.heap.size w wr)
  case atStart => exact ⟨0, Nat.zero_le _, rfl, rfl, HS.out⟩
  case round =>
    clear HS HW
    obtain ⟨k, hk, rfl, rfl, hs, hB⟩ := hrel
    by_cases hlt : k < b.length
    · have c1 := (H.out.2.1.below hB).cell k hlt
      have hkm : k < (sumS wrap64 a b k).length := by rw [sumS_length, H.out.2.2]; omega
      have c2 := hs.cell k
      rw [cellsK_get .i64 hkm] at c2
      have f2 := hs.frozen k
      obtain ⟨y, hy⟩ : ∃ y, b.getD k 0 = y := ⟨_, rfl⟩
      rw [hy] at c1
      obtain ⟨z, hz⟩ : ∃ z, (sumS wrap64 a b k).getD k 0 = z := ⟨_, rfl⟩
      rw [hz] at c2
      have j1 : (k : Int) < (b.length : Int) := by omega
      have j2 : (k : Int) < (N : Int) := by omega
      have j3 : (0 : Int) ≤ (k : Int) := by omega
      have HM := Lib.hid (And.intro hs (And.intro hB (And.intro hy hz)))
      clear hs hB hy hz hkm
      go_wp2_with fail
      go_roundg (b.length - (k + 1))
      case measure => omega
      case rel =>
        obtain ⟨hs, hB, hy, hz⟩ := HM.out
        refine ⟨k + 1, by omega, rfl, by simp, ?_, hB.setCell (p := ⟨w.heap.size, k, none⟩) (Nat.le_refl _) _⟩
        have := hs.set k (.int .i64 (wrap64 (z + y)))
        rw [← cellsK_set] at this
        show SBlk _ _ _ (cellsK .i64 (addAt wrap64 _ k (b.getD k 0)))
        unfold addAt
        rw [hy, hz]
        exact this
    · obtain rfl : k = b.length := by omega
      have HM := Lib.hid (And.intro hs hB)
      clear hs hB
      go_wp2_with fail
      go_ret
      exact ⟨w.heap.size, rfl, HM.out.1, Nat.le_refl _, HM.out.2⟩
end Go.Proofs.YtcpeeopdaakbaaaGreat

namespace Go.Proofs.YtcpeeopdaakbaaaGreat
open Go.RowKit Go.Shelf Cx

/-- how many coefficients are left of the first n -/
def trimN (a : List Int) : Nat → Nat
  | 0 => 0
  | n + 1 => if a.getD n 0 = 0 then trimN a n else n + 1
theorem trimN_le (a : List Int) : ∀ n, trimN a n ≤ n
  | 0 => Nat.le_refl _
  | n + 1 => by
    unfold trimN
    split
    · have := trimN_le a n; omega
    · exact Nat.le_refl _

set_option maxRecDepth 100000 in
set_option maxHeartbeats 2000000 in
theorem trim_i64 (a : List Int) (pa oa ca : Nat) (w : World) (ha : RowK .i64 w pa oa a) (hca : a.length ≤ ca) (hla : a.length ≤ 100000) :
    Calls Tryz.prog 117 #[.slice (some ⟨pa, oa, none⟩) a.length ca] w fun e w' => e = .returned (.slice (some ⟨pa, oa, none⟩) (trimN a a.length) ca) ∧ w' = w := by
  have H := Lib.hid ha
  clear ha
  go_enter Tryz.func117, Tryz.ntmps117
  go_wp2_with fail
  go_loopg [0] a.length (fun g v wr => ∃ n : Nat, n ≤ a.length ∧ g = n + 0 ∧ v = .slice (some ⟨pa, oa, none⟩) n ca ∧ wr = w ∧ trimN a a.length = trimN a n)
  case atStart => exact ⟨a.length, Nat.le_refl _, rfl, rfl, rfl, rfl⟩
  case round =>
    obtain ⟨n, hn, hg, rfl, rfl, ht⟩ := hrel
    have HT := Lib.hid (And.intro ht hg)
    clear ht hg
    cases n with
    | zero =>
      go_wp2_with fail
      go_ret
      have := HT.out.1
      rw [this]
      exact ⟨rfl, rfl⟩
    | succ n =>
      have c0 := H.out.cell n (by omega)
      obtain ⟨z, hz⟩ : ∃ z, a.getD n 0 = z := ⟨_, rfl⟩
      rw [hz] at c0
      have j1 : (0 : Int) < (n : Int) + 1 := by omega
      have HZ := Lib.hid hz
      clear hz
      by_cases h0 : z = 0
      · have hz0 : (z == 0) = true := by simp [h0]
        have j2 : (n : Int) ≤ (ca : Int) := by omega
        clear h0
        go_wp2_with fail
        go_roundg n
        case measure => have := HT.out.2; omega
        case rel =>
          refine ⟨n, by omega, rfl, rfl, rfl, ?_⟩
          rw [HT.out.1]
          show (if a.getD n 0 = 0 then trimN a n else n + 1) = _
          rw [HZ.out, if_pos (by simpa using hz0)]
      · have hz0 : (z == 0) = false := by simpa using h0
        clear h0
        go_wp2_with fail
        go_ret
        have h1 := HT.out.1
        have h2 : trimN a (n + 1) = n + 1 := by
          show (if a.getD n 0 = 0 then trimN a n else n + 1) = _
          rw [HZ.out, if_neg (by simpa using hz0)]
        rw [h1, h2]
        exact ⟨rfl, rfl⟩
end Go.Proofs.YtcpeeopdaakbaaaGreat

namespace Go.Proofs.YtcpeeopdaakbaaaGreat
open Go.RowKit Go.Shelf Cx

theorem infoI : (Tryz.prog.info? 3).map (fun i => (i.zero.map (fun z => z.cells.size), i.size, i.bytes)) = some (some 1, 1, 8) := by kernel_rfl

/-- a row of numbers with something behind -/
theorem RowK.pre {k : IntKind} {w : World} {b : Nat} {T : TypeId} {l : List Int} {ex : List Value} (h : SBlk w b T (cellsK k l ++ ex)) : RowK k w b 0 l :=
  ⟨h.lt, fun i hi => by rw [h.cell, Nat.zero_add, List.getElem?_append_left (by rw [cellsK_length]; exact hi), cellsK_get k hi]⟩

set_option maxRecDepth 100000 in
/-- a row behind an empty one -/
theorem append_clone (w : World) (ad0 : Addr) (a : List Int) (pa oa ca : Nat) (ha : RowK .i64 w pa oa a) (hla : 0 < a.length) (hl : a.length ≤ 100000) :
    ∃ rb cap ex w', (Builtin.append_ #[47, 47] 47 #[.slice (some ad0) 0 0, .slice (some ⟨pa, oa, none⟩) a.length ca]).run Tryz.prog w = .ok (.slice (some ⟨rb, 0, none⟩) a.length cap) w' ∧
      SBlk w' rb 3 (cellsK .i64 a ++ ex) ∧ a.length ≤ cap ∧ w.heap.size ≤ rb ∧ Below w.heap.size w w' := by
  obtain ⟨i, hi, hz, hsz, hby⟩ : ∃ i, Tryz.prog.info? 3 = some i ∧ i.zero.map (fun z => z.cells.size) = some 1 ∧ i.size = 1 ∧ i.bytes = 8 := by
    have h := infoI
    cases hq : Tryz.prog.info? 3 with
    | none => rw [hq] at h; simp at h
    | some i => rw [hq] at h; simp at h; exact ⟨i, rfl, by simpa using h.1, h.2.1, h.2.2⟩
  obtain ⟨z, hz1, hz2⟩ : ∃ z, i.zero = some z ∧ z.cells.size = 1 := by
    cases hq : i.zero with
    | none => rw [hq] at hz; simp at hz
    | some z => rw [hq] at hz; exact ⟨z, rfl, by simpa using hz⟩
  have hnews : ∀ j u, (cellsK .i64 a)[j]? = some u → w.cell? ((⟨pa, oa, none⟩ : Addr).add j) = some u := by
    intro j u hu
    have hj : j < a.length := by
      rcases Nat.lt_or_ge j a.length with h | h
      · exact h
      · rw [List.getElem?_eq_none (by rw [cellsK_length]; exact h)] at hu; cases hu
    have hc := ha.cell j hj
    rw [cellsK_get .i64 hj] at hu
    rw [← hu, ← hc]
    simp only [Addr.add]; split <;> simp_all
  have hbytes : (0 + a.length) * i.bytes ≤ 140737488355328 := by rw [hby]; omega
  have hr := run_append_grow (P := Tryz.prog) w 47 47 3 i z Tryz.underlying47 hi hz1 ad0 0 0 [] (by simp) (fun j u hu => by simp at hu) ⟨pa, oa, none⟩ a.length ca (cellsK .i64 a) (by rw [cellsK_length, hsz, Nat.mul_one]) hnews (by omega) (by omega) (growslice_fits (by omega) hbytes)
  have hge := grownCap_ge w (0 + a.length) 0 3
  have hb : Below w.heap.size w (w.drew.alloc (.cells (([] : List Value).toArray ++ (cellsK .i64 a).toArray ++ Builtin.zeroCells z.cells (grownCap w (0 + a.length) 0 3 - (0 + a.length))) 3)) := ((Below.refl _ w).drew).alloc (Nat.le_refl _) _
  rw [Nat.zero_add] at hr hge hb
  refine ⟨w.heap.size, _, (Builtin.zeroCells z.cells (grownCap w a.length 0 3 - a.length)).toList, _, hr, ?_, hge, Nat.le_refl _, hb⟩
  have := heap_alloc_new w.drew (.cells (([] : List Value).toArray ++ (cellsK .i64 a).toArray ++ Builtin.zeroCells z.cells (grownCap w a.length 0 3 - a.length)) 3)
  unfold SBlk
  refine Eq.trans this ?_
  simp

set_option maxRecDepth 100000 in
theorem not_nil_i64 (pa oa n ca : Nat) (w : World) : (binOp .eql 47 (.slice (some ⟨pa, oa, none⟩) n ca) (.slice none 0 0)).run Tryz.prog w = .ok (.bool false) w := by kernel_rfl

set_option maxRecDepth 100000 in
set_option maxHeartbeats 2000000 in
theorem clone_i64 (a : List Int) (pa oa ca : Nat) (w : World) (ha : RowK .i64 w pa oa a) (hla : 0 < a.length) (hl : a.length ≤ 100000) :
    Calls Tryz.prog 202 #[.slice (some ⟨pa, oa, none⟩) a.length ca] w fun e w' => ∃ rb cap ex, e = .returned (.slice (some ⟨rb, 0, none⟩) a.length cap) ∧ SBlk w' rb 3 (cellsK .i64 a ++ ex) ∧ a.length ≤ cap ∧ w.heap.size ≤ rb ∧ Below w.heap.size w w' := by
  have hb0 := (Below.refl w.heap.size w).alloc (Nat.le_refl _) (.cells #[] 3)
  obtain ⟨rb, cap, ex, w', hr, h1, h2, h3, h4⟩ := append_clone (w.alloc (.cells #[] 3)) ⟨w.heap.size, 0, none⟩ a pa oa ca (ha.below hb0) hla hl
  have H := Lib.hid (And.intro h1 (And.intro h2 (And.intro h3 (hb0.trans (h4.mono (by simp))))))
  clear h1 h2 h3 h4 hb0 ha
  have hnn := not_nil_i64 pa oa a.length ca
  go_enter Tryz.func202, Tryz.ntmps202
  go_wp2_with (at_builtin; refine Lib.wpList_append_run _ rfl (.tmp 5) (.tmp 6) 47 47 rfl _ _ rfl rfl _ _ hr ?_)
  go_ret
  obtain ⟨h1, h2, h3, h4⟩ := H.out
  exact ⟨rb, cap, ex, rfl, h1, h2, by simp at h3; omega, h4⟩
end Go.Proofs.YtcpeeopdaakbaaaGreat

namespace Go.Proofs.YtcpeeopdaakbaaaGreat
open Go.RowKit Go.Shelf Cx

/-- less at a place -/
def subAt (l : List Int) (i : Nat) (x : Int) : List Int := l.set i (wrap64 (l.getD i 0 - x))
theorem subAt_length (l : List Int) (i : Nat) (x : Int) : (subAt l i x).length = l.length := by simp [subAt]
def divRow (c : Int) (b : List Int) (i : Nat) (l : List Int) : Nat → List Int
  | 0 => l
  | m + 1 => subAt (divRow c b i l m) (i + m) (wrap64 (c * b.getD m 0))
theorem divRow_length (c : Int) (b : List Int) (i : Nat) (l : List Int) : ∀ m, (divRow c b i l m).length = l.length
  | 0 => rfl
  | m + 1 => (subAt_length _ _ _).trans (divRow_length c b i l m)
/-- how many coefficients the quotient has -/
def quoN (a b : List Int) : Nat := a.length + 1 - b.length
/-- quotient and rest behind k steps -/
def divS (a b : List Int) : Nat → List Int × List Int
  | 0 => (List.replicate (quoN a b) 0, a)
  | k + 1 =>
    let c := (divS a b k).2.getD (quoN a b - 1 - k + b.length - 1) 0
    ((divS a b k).1.set (quoN a b - 1 - k) c, divRow c b (quoN a b - 1 - k) (divS a b k).2 b.length)
theorem divS_length (a b : List Int) : ∀ k, (divS a b k).1.length = quoN a b ∧ (divS a b k).2.length = a.length
  | 0 => ⟨by simp [divS], rfl⟩
  | k + 1 => by
    have ih := divS_length a b k
    exact ⟨by show (List.set _ _ _).length = _; rw [List.length_set]; exact ih.1, (divRow_length _ _ _ _ _).trans ih.2⟩

theorem cellsK_set_app (k : IntKind) (l : List Int) (ex : List Value) {i : Nat} (h : i < l.length) (v : Int) : (cellsK k l ++ ex).set i (.int k v) = cellsK k (l.set i v) ++ ex := by
  rw [List.set_append_left _ _ (by rw [cellsK_length]; exact h), cellsK_set]

theorem max0_run (z : Int) (w : World) : (Builtin.max_ #[3, 3] 3 #[.int .i64 0, .int .i64 z]).run Tryz.prog w = .ok (.int .i64 ((z.toNat : Nat) : Int)) w := by
  simp [Builtin.max_, Builtin.max2]
  split <;> omega

set_option maxRecDepth 100000 in
set_option maxHeartbeats 8000000 in
theorem divide_i64 (a b : List Int) (pa oa ca pb ob cb : Nat) (w : World) (ha : RowK .i64 w pa oa a) (hb : RowK .i64 w pb ob b) (la : 0 < a.length) (lb : 0 < b.length) (hla : a.length ≤ 100000) (hlb : b.length ≤ 100000) :
    Calls Tryz.prog 164 #[.slice (some ⟨pa, oa, none⟩) a.length ca, .slice (some ⟨pb, ob, none⟩) b.length cb] w fun e w' => ∃ qb rb cap ex, e = .returned (.tuple #[.slice (some ⟨qb, 0, none⟩) (quoN a b) (quoN a b), .slice (some ⟨rb, 0, none⟩) a.length cap]) ∧
      SBlk w' qb 3 (cellsK .i64 (divS a b (quoN a b)).1) ∧ SBlk w' rb 3 (cellsK .i64 (divS a b (quoN a b)).2 ++ ex) ∧ a.length ≤ cap ∧ w.heap.size ≤ qb ∧ w.heap.size ≤ rb ∧ qb ≠ rb ∧ Below w.heap.size w w' := by
  have hmx := max0_run ((a.length : Int) - (b.length : Int) + 1)
  have hnat : (((a.length : Int) - (b.length : Int) + 1).toNat : Nat) = quoN a b := by unfold quoN; omega
  rw [hnat] at hmx
  have hql : quoN a b ≤ a.length := by unfold quoN; omega
  have hqb : 0 < quoN a b → quoN a b + b.length = a.length + 1 := by unfold quoN; omega
  have hdl := divS_length a b
  obtain ⟨q, hq⟩ : ∃ q, quoN a b = q := ⟨_, rfl⟩
  rw [hq] at hmx hql hqb ⊢
  have hmk := make_i64 q (by omega)
  have HC := Lib.hid (fun W hW => clone_i64 a pa oa ca W hW la hla)
  have H := Lib.hid (And.intro ha (And.intro hb (And.intro hdl hq)))
  clear ha hb hdl hnat hq
  go_enter Tryz.func164, Tryz.ntmps164
  go_wp2_with fail
  (with_reducible refine (HC.out _ H.out.1).mono ?_)
  rintro e w1 ⟨rb, cap, ex, rfl, hr1, hcap, hrb, hb1⟩
  have HR := Lib.hid (And.intro hr1 (And.intro hrb hb1))
  have hrlt := hr1.lt
  clear hr1 hrb hb1 HC
  go_wp2_with fail
  have hst := SBlk.new w1 3 (cellsK .i64 (List.replicate q 0))
  have hbl : Below w.heap.size w (w1.alloc (.cells (cellsK .i64 (List.replicate q 0)).toArray 3)) := HR.out.2.2.alloc HR.out.2.2.size _
  have hr2 := HR.out.1.alloc (.cells (cellsK .i64 (List.replicate q 0)).toArray 3)
  obtain ⟨qb, hqbe⟩ : ∃ qb, w1.heap.size = qb := ⟨_, rfl⟩
  rw [hqbe] at hst hrlt ⊢
  have hqw : w.heap.size ≤ qb := by have := HR.out.2.2.size; omega
  have hne : qb ≠ rb := by omega
  have HW := Lib.hid (And.intro hst (And.intro hr2 hbl))
  have HN := Lib.hid (And.intro hqw (And.intro HR.out.2.1 hne))
  clear hst hr2 hbl hqw hrlt hqbe hmk hmx HR
  go_loopg [6] q (fun g i wr => ∃ k p : Nat, k + p = q ∧ g = p + 0 ∧ i = .int .i64 ((p : Int) - 1) ∧ SBlk wr qb 3 (cellsK .i64 (divS a b k).1) ∧ SBlk wr rb 3 (cellsK .i64 (divS a b k).2 ++ ex) ∧ Below w.heap.size w wr)
  case atStart =>
    refine ⟨0, q, by omega, rfl, rfl, ?_, HW.out.2.1, HW.out.2.2⟩
    have := HW.out.1
    show SBlk _ _ _ (cellsK .i64 (List.replicate (quoN a b) 0))
    rw [H.out.2.2.2]; exact this
  case round =>
    clear HW
    obtain ⟨k, p, hkp, hg, rfl, hs, hr, hB⟩ := hrel
    have hdl := H.out.2.2.1 k
    rw [H.out.2.2.2] at hdl
    cases p with
    | zero =>
      have HM := Lib.hid (And.intro hs (And.intro hr (And.intro hB hkp)))
      clear hs hr hB hkp hg hdl
      go_wp2_with fail
      go_ret2
      obtain ⟨hs, hr, hB, hkp⟩ := HM.out
      obtain rfl : k = q := by omega
      exact ⟨qb, rb, cap, ex, rfl, hs, hr, hcap, HN.out.1, HN.out.2.1, HN.out.2.2, hB⟩
    | succ p =>
      rw [show (((p + 1 : Nat) : Int) - 1) = (p : Int) by omega]
      have hpl : p + b.length - 1 < (divS a b k).2.length := by rw [hdl.2]; have := hqb (by omega); omega
      have hpq : p < (divS a b k).1.length := by rw [hdl.1]; omega
      have c1 := (RowK.pre hr).cell (p + b.length - 1) hpl
      rw [Nat.zero_add] at c1
      have c2 := hs.cell p
      rw [cellsK_get .i64 hpq] at c2
      have f2 := hs.frozen p
      obtain ⟨c, hc⟩ : ∃ c, (divS a b k).2.getD (p + b.length - 1) 0 = c := ⟨_, rfl⟩
      rw [hc] at c1
      have j1 : (p : Int) < (q : Int) := by omega
      have j2 : (0 : Int) ≤ (p : Int) + (b.length : Int) - 1 := by omega
      have j3 : (p : Int) + (b.length : Int) - 1 < (a.length : Int) := by have := hqb (by omega); omega
      have j4 : (0 : Int) ≤ (p : Int) := by omega
      have HM := Lib.hid (And.intro (And.intro hs (And.intro hr hB)) (And.intro hc (And.intro hkp (And.intro hg (And.intro hpl hpq)))))
      clear hs hr hB hc hkp hg hdl hpl hpq
      go_wp2_with fail
      obtain ⟨⟨hs, hr, hB⟩, hc, hkp, hg, hpl, hpq⟩ := HM.out
      have hs2 := hs.set p (.int .i64 c)
      rw [← cellsK_set] at hs2
      have hr2 := hr.far (p := ⟨qb, p, none⟩) (Ne.symm HN.out.2.2) (.int .i64 c)
      have hB2 := hB.setCell (p := ⟨qb, p, none⟩) HN.out.1 (.int .i64 c)
      obtain ⟨W0, hW0⟩ : ∃ z, wr.setCell ⟨qb, p, none⟩ (.int .i64 c) = z := ⟨_, rfl⟩
      rw [hW0] at hs2 hr2 hB2 ⊢
      have HS := Lib.hid (And.intro hs2 (And.intro hr2 hB2))
      clear hs2 hr2 hB2 hW0 hs hr hB hc hkp hg hpl hpq c1 c2 f2
      go_loopg [39] b.length (fun g i wi => ∃ m : Nat, m ≤ b.length ∧ g = b.length - m ∧ i = .int .i64 (m : Int) ∧ SBlk wi qb 3 (cellsK .i64 ((divS a b k).1.set p c)) ∧ SBlk wi rb 3 (cellsK .i64 (divRow c b p (divS a b k).2 m) ++ ex) ∧ Below w.heap.size w wi)
      case atStart => exact ⟨0, Nat.zero_le _, rfl, rfl, HS.out⟩
      case round =>
        clear HS
        obtain ⟨m, hm, rfl, rfl, hs, hr, hB⟩ := hrel
        by_cases hlm : m < b.length
        · have d1 := (H.out.2.1.below hB).cell m hlm
          have d2 := hs.cell p
          rw [cellsK_get .i64 (by rw [List.length_set]; exact HM.out.2.2.2.2.2), List.getD_eq_getElem?_getD, List.getElem?_set_self HM.out.2.2.2.2.2] at d2
          simp only [Option.getD_some] at d2
          have hpm : p + m < (divRow c b p (divS a b k).2 m).length := by
            rw [divRow_length]; have := HM.out.2.2.2.2.1; omega
          have d3 := (RowK.pre hr).cell (p + m) hpm
          rw [Nat.zero_add] at d3
          have f3 := hr.frozen (p + m)
          obtain ⟨y, hy⟩ : ∃ y, b.getD m 0 = y := ⟨_, rfl⟩
          rw [hy] at d1
          obtain ⟨z, hz⟩ : ∃ z, (divRow c b p (divS a b k).2 m).getD (p + m) 0 = z := ⟨_, rfl⟩
          rw [hz] at d3
          have l1 : (m : Int) < (b.length : Int) := by omega
          have l2 : (0 : Int) ≤ (p : Int) + (m : Int) := by omega
          have l3 : (p : Int) + (m : Int) < (a.length : Int) := by omega
          have hw1 : IntKind.i64.wrap ((p : Int) + (m : Int)) = (p : Int) + (m : Int) := IntWalk.i64_in _ (by omega)
          have hn1 : ((p : Int) + (m : Int)).toNat = p + m := by omega
          have e1 := (show wr.drew.cell? ⟨rb, p + m, none⟩ = some (.int .i64 z) from d3)
          have e2 := (show wr.drew.cell? ⟨qb, p, none⟩ = some (.int .i64 c) from d2)
          have hw2 : wrap64 ((p : Int) + (m : Int)) = (p : Int) + (m : Int) := by unfold wrap64; omega
          have HX := Lib.hid (And.intro (And.intro hs (And.intro hr hB)) (And.intro hy (And.intro hz hpm)))
          clear hs hr hB hy hz hpm
          go_wp2_with fail
          go_still_tail 14, (by kernel_rfl)
          change wpList _ _ _ _ _ wr.drew
          go_wp2_with fail
          go_roundg (b.length - (m + 1))
          case measure => omega
          case rel =>
            obtain ⟨⟨hs, hr, hB⟩, hy, hz, hpm⟩ := HX.out
            refine ⟨m + 1, by omega, rfl, by simp, (hs.drew).far (p := ⟨rb, p + m, none⟩) HN.out.2.2 _, ?_, hB.drew.setCell (p := ⟨rb, p + m, none⟩) HN.out.2.1 _⟩
            have := hr.drew.set (p + m) (.int .i64 (wrap64 (z - wrap64 (c * y))))
            rw [cellsK_set_app .i64 _ _ hpm] at this
            show SBlk _ _ _ (cellsK .i64 (subAt _ (p + m) (wrap64 (c * b.getD m 0))) ++ ex)
            unfold subAt
            rw [hy, hz]
            exact this
        · obtain rfl : m = b.length := by omega
          have HX := Lib.hid (And.intro hs (And.intro hr hB))
          clear hs hr hB
          go_wp2_with fail
          go_roundg p
          case measure => have := HM.out.2.2.2.1; omega
          case rel =>
            obtain ⟨hs, hr, hB⟩ := HX.out
            obtain ⟨_, hc, hkp, hg, hpl, hpq⟩ := HM.out
            have hqe := H.out.2.2.2
            have hp : quoN a b - 1 - k = p := by omega
            refine ⟨k + 1, p, by omega, rfl, by simp, ?_, ?_, hB⟩
            · show SBlk _ _ _ (cellsK .i64 ((divS a b k).1.set (quoN a b - 1 - k) ((divS a b k).2.getD (quoN a b - 1 - k + b.length - 1) 0)))
              rw [hp, hc]; exact hs
            · show SBlk _ _ _ (cellsK .i64 (divRow ((divS a b k).2.getD (quoN a b - 1 - k + b.length - 1) 0) b (quoN a b - 1 - k) (divS a b k).2 b.length) ++ ex)
              rw [hp, hc]; exact hr
end Go.Proofs.YtcpeeopdaakbaaaGreat

namespace Go.Proofs.YtcpeeopdaakbaaaGreat
open Go.RowKit Go.Shelf Cx

def quoS (a b : List Int) : List Int := (divS a b (quoN a b)).1
theorem quoS_length (a b : List Int) : (quoS a b).length = quoN a b := (divS_length a b _).1

/-- behind the numbers below k -/
def rootsS (pr : Nat → List Int) (m : Nat) : Nat → List Int
  | 0 => ((List.replicate (m + 1) 0).set 0 (-1)).set m 1
  | k + 1 => if m % (k + 1) = 0 then quoS (rootsS pr m k) (pr (k + 1)) else rootsS pr m k
/-- with so many turns of recursion -/
def primF : Nat → Nat → List Int
  | 0, _ => []
  | f + 1, m => rootsS (primF f) m (m - 1)
def primS (m : Nat) : List Int := primF 12 m

theorem prim_ok : ∀ m : Fin 13, 1 ≤ m.val → 0 < (primS m.val).length ∧ (primS m.val).length ≤ 13 ∧ primS m.val = rootsS primS m.val (m.val - 1) ∧
    ∀ k : Fin 13, k.val < m.val → 0 < (rootsS primS m.val k.val).length ∧ (rootsS primS m.val k.val).length ≤ 13 := by decide +kernel

set_option maxRecDepth 100000 in
set_option maxHeartbeats 8000000 in
theorem primitive_any : ∀ (n m : Nat), m ≤ n → 1 ≤ m → m ≤ 12 → ∀ w : World,
    Calls Tryz.prog 163 #[.int .i64 m] w fun e w' => ∃ rb, e = .returned (.slice (some ⟨rb, 0, none⟩) (primS m).length (primS m).length) ∧ SBlk w' rb 3 (cellsK .i64 (primS m)) ∧ w.heap.size ≤ rb ∧ Below w.heap.size w w' := by
  intro n
  induction n with
  | zero => intro m h1 h2; omega
  | succ n ih =>
    intro m hmn h1 h12 w
    obtain ⟨hp0, hp13, hpe, hroots⟩ := prim_ok ⟨m, by omega⟩ h1
    simp only at hp0 hp13 hpe hroots
    have hro := fun k (hk : k < m) => hroots ⟨k, by omega⟩ hk
    simp only at hro
    have hmk := make_i64 (m + 1) (by omega)
    have hc : ((m + 1 : Nat) : Int) = (m : Int) + 1 := by omega
    rw [hc] at hmk
    have HI := Lib.hid (And.intro ih (And.intro hpe hro))
    clear ih hpe hro hroots hc hp0 hp13
    have hst := SBlk.new w 3 (cellsK .i64 (List.replicate (m + 1) 0))
    have hbl := (Below.refl w.heap.size w).alloc (Nat.le_refl _) (.cells (cellsK .i64 (List.replicate (m + 1) 0)).toArray 3)
    have c0 := hst.cell 0
    have cm := hst.cell m
    rw [cellsK_get .i64 (by simp)] at c0 cm
    have f0 := hst.frozen 0
    have fm := hst.frozen m
    have hs2 := SBlk.new w 3 (cellsK .i64 (rootsS primS m 0))
    have hb2 := (Below.refl w.heap.size w).alloc (Nat.le_refl _) (.cells (cellsK .i64 (rootsS primS m 0)).toArray 3)
    have hee : (((cellsK .i64 (List.replicate (m + 1) 0)).set 0 (Value.int .i64 (-1))).set m (Value.int .i64 1)) = cellsK .i64 (rootsS primS m 0) := by
      rw [← cellsK_set, ← cellsK_set]; rfl
    have hl0 : (rootsS primS m 0).length = m + 1 := by simp [rootsS]
    have HW := Lib.hid (And.intro hs2 (And.intro hb2 (And.intro hee hl0)))
    have hst1 := SBlk.new w 3 ((cellsK .i64 (List.replicate (m + 1) 0)).set 0 (Value.int .i64 (-1)))
    have cm1 := hst1.cell m
    have fm1 := hst1.frozen m
    have hx : ((cellsK .i64 (List.replicate (m + 1) 0)).set 0 (Value.int .i64 (-1)))[m]? = some (.int .i64 (((List.replicate (m + 1) 0).set 0 (-1)).getD m 0)) := by
      rw [← cellsK_set, cellsK_get .i64 (by simp)]
    rw [hx] at cm1
    clear hst1 hx
    have j1 : (0 : Int) < (m : Int) + 1 := by omega
    have j2 : (m : Int) < (m : Int) + 1 := by omega
    have j3 : (0 : Int) ≤ (m : Int) := by omega
    clear hst hbl hs2 hb2 hee hl0
    go_enter Tryz.func163, Tryz.ntmps163
    go_wp2_with fail
    rw [HW.out.2.2.1]
    go_loopg [3, 4] (m - (0 + 1)) (fun g v i wr => ∃ k rb : Nat, k + 1 ≤ m ∧ g = m - (k + 1) ∧ i = .int .i64 ((k : Int) + 1) ∧ v = .slice (some ⟨rb, 0, none⟩) (rootsS primS m k).length (rootsS primS m k).length ∧ SBlk wr rb 3 (cellsK .i64 (rootsS primS m k)) ∧ w.heap.size ≤ rb ∧ Below w.heap.size w wr)
    case atStart =>
      obtain ⟨h1, h2, h3, h4⟩ := HW.out
      exact ⟨0, w.heap.size, by omega, rfl, rfl, by rw [h4], h1, Nat.le_refl _, h2⟩
    case round =>
      clear HW c0 cm f0 fm hmk cm1 fm1
      obtain ⟨k, rb, hk, rfl, rfl, rfl, hs, hrb, hB⟩ := hrel
      by_cases hlt : k + 1 < m
      · have hlt2 : (k : Int) + 1 < (m : Int) := by omega
        have hz : ((k : Int) + 1 == 0) = false := by simp; omega
        have HM := Lib.hid (And.intro hs (And.intro hrb hB))
        by_cases hd : m % (k + 1) = 0
        · have hd2 : (((m : Int) % ((k : Int) + 1)) == 0) = true := by
            have : ((m : Int) % ((k : Int) + 1)) = ((m % (k + 1) : Nat) : Int) := by rw [Int.natCast_emod]; rfl
            rw [this, hd]; rfl
          have hpk := fun W => HI.out.1 (k + 1) (by omega) (by omega) (by omega) W
          rw [show ((k + 1 : Nat) : Int) = (k : Int) + 1 by omega] at hpk
          have HP := Lib.hid hpk
          clear hs hrb hB hpk
          go_wp2_with fail
          (with_reducible refine (HP.out _).mono ?_)
          rintro e w1 ⟨pb, rfl, hp, hpb, hb1⟩
          obtain ⟨hs, hrb, hB⟩ := HM.out
          have hs1 := hs.below hb1 hs.lt
          have hB1 := hB.trans (hb1.mono hB.size)
          have hpl := prim_ok ⟨k + 1, by omega⟩ (by simp)
          simp only at hpl
          have hdv := divide_i64 (rootsS primS m k) (primS (k + 1)) rb 0 (rootsS primS m k).length pb 0 (primS (k + 1)).length w1 (RowK.of hs1) (RowK.of hp) (HI.out.2.2 k (by omega)).1 hpl.1 (by have := (HI.out.2.2 k (by omega)).2; omega) (by omega)
          have HV := Lib.hid (And.intro hdv hB1)
          clear hs hrb hB hs1 hB1 hp hpb hb1 hpl hdv
          go_wp2_with fail
          (with_reducible refine HV.out.1.mono ?_)
          rintro e w2 ⟨qb, rb2, cap, ex, rfl, h1', h2', h3', h4', h5', h6', hb2⟩
          have HV2 := Lib.hid (And.intro h1' (And.intro h4' (HV.out.2.trans (hb2.mono HV.out.2.size))))
          have hw1s := HV.out.2.size
          clear h1' h2' h3' h5' h6' hb2
          go_wp2_with fail
          go_roundg (m - (k + 1 + 1))
          case measure => omega
          case rel =>
            obtain ⟨h1', h4', hB⟩ := HV2.out
            have e : rootsS primS m (k + 1) = quoS (rootsS primS m k) (primS (k + 1)) := by
              show (if m % (k + 1) = 0 then _ else _) = _
              rw [if_pos hd]
            refine ⟨k + 1, qb, by omega, rfl, by simp, by rw [e, quoS_length], by rw [e]; exact h1', by omega, hB⟩
        · have hd2 : (((m : Int) % ((k : Int) + 1)) == 0) = false := by
            have : ((m : Int) % ((k : Int) + 1)) = ((m % (k + 1) : Nat) : Int) := by rw [Int.natCast_emod]; rfl
            rw [this]
            simp
            omega
          clear hs hrb hB
          go_wp2_with fail
          go_roundg (m - (k + 1 + 1))
          case measure => omega
          case rel =>
            obtain ⟨hs, hrb, hB⟩ := HM.out
            have e : rootsS primS m (k + 1) = rootsS primS m k := by
              show (if m % (k + 1) = 0 then _ else _) = _
              rw [if_neg hd]
            exact ⟨k + 1, rb, by omega, rfl, by simp, by rw [e], by rw [e]; exact hs, hrb, hB⟩
      · have hmk1 : m = k + 1 := by omega
        have hneg : decide ((k : Int) + 1 < (m : Int)) = false := decide_eq_false (by omega)
        have HM := Lib.hid (And.intro hs (And.intro hrb (And.intro hB hmk1)))
        clear hs hrb hB hmk1
        go_wp2_with fail
        go_ret
        obtain ⟨hs, hrb, hB, hmk1⟩ := HM.out
        have e := HI.out.2.1
        rw [show m - 1 = k by omega] at e
        rw [← e] at hs
        exact ⟨rb, by rw [e]; rfl, hs, hrb, hB⟩
end Go.Proofs.YtcpeeopdaakbaaaGreat

namespace Go.Proofs.YtcpeeopdaakbaaaGreat
open Go.RowKit Go.Shelf Cx

theorem info_u64 : (Tryz.prog.info? 38).map (fun i => (i.zero, i.size, i.bytes)) = some (some (.int .u64 0), 1, 8) := by kernel_rfl

set_option maxRecDepth 100000 in
theorem make_u64 (n : Nat) (h : n ≤ 1000000) (w : World) : (Instr.makeSlice 39 (.int .i64 n) (.int .i64 n)).run Tryz.prog w = .ok (.slice (some ⟨w.heap.size, 0, none⟩) n n) (w.alloc (.cells (cellsK .u64 (List.replicate n 0)).toArray 38)) := by
  have h := run_make_row' (P := Tryz.prog) 39 38 (.int .u64 0) 8 Tryz.underlying39 info_u64 rfl .i64 .i64 n (by omega) (by omega) w
  rw [h]
  congr 3
  congr 1
  apply Array.ext
  · simp [madeCells, cellsK]
  · intro i h1 h2
    simp [madeCells, cellsK, Nat.mod_one]

set_option maxRecDepth 100000 in
set_option maxHeartbeats 4000000 in
theorem product_u64 (a b : List Int) (pa oa ca pb ob cb : Nat) (w : World) (ha : RowK .u64 w pa oa a) (hb : RowK .u64 w pb ob b) (la : 0 < a.length) (lb : 0 < b.length) (hla : a.length ≤ 100000) (hlb : b.length ≤ 100000) :
    Calls Tryz.prog 170 #[.slice (some ⟨pa, oa, none⟩) a.length ca, .slice (some ⟨pb, ob, none⟩) b.length cb] w fun e w' => ∃ nb, e = .returned (.slice (some ⟨nb, 0, none⟩) (a.length + b.length - 1) (a.length + b.length - 1)) ∧
      SBlk w' nb 38 (cellsK .u64 (prodS (IntKind.wrap .u64) a b a.length)) ∧ w.heap.size ≤ nb ∧ Below w.heap.size w w' := by
  have hmk := make_u64 (a.length + b.length - 1) (by omega)
  have hc : ((a.length + b.length - 1 : Nat) : Int) = (a.length : Int) + (b.length : Int) - 1 := by omega
  rw [hc] at hmk
  have H := Lib.hid (And.intro ha hb)
  clear ha hb hc
  go_enter Tryz.func170, Tryz.ntmps170
  go_wp2_with fail
  have hst := SBlk.new w 38 (cellsK .u64 (List.replicate (a.length + b.length - 1) 0))
  have hbl := (Below.refl w.heap.size w).alloc (Nat.le_refl _) (.cells (cellsK .u64 (List.replicate (a.length + b.length - 1) 0)).toArray 38)
  have HW := Lib.hid (And.intro hst hbl)
  clear hst hbl hmk
  go_loopg [19] a.length (fun g i wr => ∃ k : Nat, k ≤ a.length ∧ g = a.length - k ∧ i = .int .i64 (k : Int) ∧ SBlk wr w.heap.size 38 (cellsK .u64 (prodS (IntKind.wrap .u64) a b k)) ∧ Below w.heap.size w wr)
  case atStart => exact ⟨0, Nat.zero_le _, rfl, rfl, HW.out⟩
  case round =>
    clear HW
    obtain ⟨k, hk, rfl, rfl, hs, hB⟩ := hrel
    by_cases hlt : k < a.length
    · have c0 := (H.out.1.below hB).cell k hlt
      have hlt2 : (k : Int) < (a.length : Int) := by omega
      have HK := Lib.hid (And.intro hs hB)
      obtain ⟨x, hx⟩ : ∃ x, a.getD k 0 = x := ⟨_, rfl⟩
      rw [hx] at c0
      have HX := Lib.hid hx
      clear hs hB hx
      go_wp2_with fail
      go_loopg [26] b.length (fun g i wi => ∃ m : Nat, m ≤ b.length ∧ g = b.length - m ∧ i = .int .i64 (m : Int) ∧ SBlk wi w.heap.size 38 (cellsK .u64 (prodRow (IntKind.wrap .u64) x b k (prodS (IntKind.wrap .u64) a b k) m)) ∧ Below w.heap.size w wi)
      case atStart => exact ⟨0, Nat.zero_le _, rfl, rfl, HK.out⟩
      case round =>
        obtain ⟨m, hm, rfl, rfl, hs, hB⟩ := hrel
        clear c0
        by_cases hlm : m < b.length
        · have c1 := (H.out.2.below hB).cell m hlm
          have hkm : k + m < (prodRow (IntKind.wrap .u64) x b k (prodS (IntKind.wrap .u64) a b k) m).length := by rw [prodRow_length, prodS_length]; omega
          have c2 := hs.cell (k + m)
          rw [cellsK_get .u64 hkm] at c2
          have f2 := hs.frozen (k + m)
          obtain ⟨y, hy⟩ : ∃ y, b.getD m 0 = y := ⟨_, rfl⟩
          rw [hy] at c1
          obtain ⟨z, hz⟩ : ∃ z, (prodRow (IntKind.wrap .u64) x b k (prodS (IntKind.wrap .u64) a b k) m).getD (k + m) 0 = z := ⟨_, rfl⟩
          rw [hz] at c2
          have j1 : (m : Int) < (b.length : Int) := by omega
          have j2 : (0 : Int) ≤ (k : Int) + (m : Int) := by omega
          have j3 : (k : Int) + (m : Int) < (a.length : Int) + (b.length : Int) - 1 := by omega
          have HM := Lib.hid (And.intro hs (And.intro hB (And.intro hy hz)))
          clear hs hB hy hz hkm
          go_wp2_with fail
          go_roundg (b.length - (m + 1))
          case measure => omega
          case rel =>
            obtain ⟨hs, hB, hy, hz⟩ := HM.out
            refine ⟨m + 1, by omega, rfl, by simp, ?_, hB.setCell (p := ⟨w.heap.size, k + m, none⟩) (Nat.le_refl _) _⟩
            have := hs.set (k + m) (.int .u64 ((IntKind.wrap .u64) (z + (IntKind.wrap .u64) (x * y))))
            rw [← cellsK_set] at this
            show SBlk _ _ _ (cellsK .u64 (addAt (IntKind.wrap .u64) _ (k + m) ((IntKind.wrap .u64) (x * b.getD m 0))))
            unfold addAt
            rw [hy, hz]
            exact this
        · obtain rfl : m = b.length := by omega
          have HM := Lib.hid (And.intro hs hB)
          clear hs hB
          go_wp2_with fail
          go_roundg (a.length - (k + 1))
          case measure => omega
          case rel =>
            refine ⟨k + 1, by omega, rfl, by simp, ?_, HM.out.2⟩
            have := HM.out.1
            rw [← HX.out] at this
            exact this
    · obtain rfl : k = a.length := by omega
      have HM := Lib.hid (And.intro hs hB)
      clear hs hB
      go_wp2_with fail
      go_ret
      exact ⟨w.heap.size, rfl, HM.out.1, Nat.le_refl _, HM.out.2⟩

set_option maxRecDepth 100000 in
theorem max2_u64 (m n : Nat) (w : World) : (Builtin.max_ #[3, 3] 3 #[.int .i64 m, .int .i64 n]).run Tryz.prog w = .ok (.int .i64 ((max m n : Nat) : Int)) w := by
  simp [Builtin.max_, Builtin.max2]
  split <;> omega

theorem size_u64 : (Tryz.prog.info? 38).map (·.size) = some 1 := by kernel_rfl

theorem sumS_start_u64 (a b : List Int) {N : Nat} (hN : max a.length b.length = N) : splice (cellsK .u64 (List.replicate N 0)) 0 (cellsK .u64 a) = cellsK .u64 (sumS (IntKind.wrap .u64) a b 0) := by
  unfold splice sumS cellsK
  subst hN
  simp

set_option maxRecDepth 100000 in
set_option maxHeartbeats 4000000 in
theorem sum_u64 (a b : List Int) (pa oa ca pb ob cb : Nat) (w : World) (ha : RowK .u64 w pa oa a) (hb : RowK .u64 w pb ob b) (hla : a.length ≤ 100000) (hlb : b.length ≤ 100000) :
    Calls Tryz.prog 204 #[.slice (some ⟨pa, oa, none⟩) a.length ca, .slice (some ⟨pb, ob, none⟩) b.length cb] w fun e w' => ∃ nb, e = .returned (.slice (some ⟨nb, 0, none⟩) (max a.length b.length) (max a.length b.length)) ∧
      SBlk w' nb 38 (cellsK .u64 (sumS (IntKind.wrap .u64) a b b.length)) ∧ w.heap.size ≤ nb ∧ Below w.heap.size w w' := by
  have hmx := max2_u64 a.length b.length
  obtain ⟨N, hN⟩ : ∃ N, max a.length b.length = N := ⟨_, rfl⟩
  rw [hN] at hmx ⊢
  have hna : a.length ≤ N := by omega
  have hnb : b.length ≤ N := by omega
  have hmk := make_u64 N (by omega)
  have H := Lib.hid (And.intro ha (And.intro hb hN))
  have hst : (w.alloc (.cells (cellsK .u64 (List.replicate N 0)).toArray 38)).heap[w.heap.size]? = some (.cells (cellsK .u64 (List.replicate N 0)).toArray 38 (0, 0)) := SBlk.new w 38 (cellsK .u64 (List.replicate N 0))
  have hbl := (Below.refl w.heap.size w).alloc (Nat.le_refl _) (.cells (cellsK .u64 (List.replicate N 0)).toArray 38)
  have HW := Lib.hid (And.intro hst hbl)
  clear ha hb hN hst hbl
  go_enter Tryz.func204, Tryz.ntmps204
  go_wp2_with (with_reducible refine wpList_copy_splice rfl (.tmp 14) (.tmp 15) 39 39 rfl 38 Tryz.underlying39 size_u64 (some ⟨w.heap.size, 0, none⟩) (some ⟨pa, oa, none⟩) N N a.length ca rfl rfl w.heap.size 0 (cellsK .u64 (List.replicate N 0)) 38 HW.out.1 (cellsK .u64 a) ?_ ?_ ?_ ?_ w.heap.size w HW.out.2 (Nat.le_refl _) ?_)
  · rw [cellsK_length]; show _ = min _ _; omega
  · intro _ j v hv
    have hj : j < a.length := by
      rcases Nat.lt_or_ge j a.length with h | h
      · exact h
      · rw [List.getElem?_eq_none (by rw [cellsK_length]; exact h)] at hv; cases hv
    have h1 := (H.out.1.below HW.out.2).cell j hj
    rw [cellsK_get .u64 hj] at hv
    rw [← hv]
    exact h1
  · rw [cellsK_length, cellsK_length, List.length_replicate]; omega
  · intro v hv
    unfold cellsK at hv
    obtain ⟨x, _, rfl⟩ := List.mem_map.1 hv
    rfl
  intro w4 hg4 hb4
  have hg5 : SBlk w4 w.heap.size 38 (cellsK .u64 (sumS (IntKind.wrap .u64) a b 0)) := by
    have := hg4.out
    rw [sumS_start_u64 a b H.out.2.2] at this
    exact this
  have HS := Lib.hid (And.intro hg5 hb4)
  clear hg5 hb4 hg4 hmk hmx
  go_wp2_with fail
  go_loopg [19] b.length (fun g i wr => ∃ k : Nat, k ≤ b.length ∧ g = b.length - k ∧ i = .int .i64 (k : Int) ∧ SBlk wr w.heap.size 38 (cellsK .u64 (sumS (IntKind.wrap .u64) a b k)) ∧ Below w.heap.size w wr)
  case atStart => exact ⟨0, Nat.zero_le _, rfl, rfl, HS.out⟩
  case round =>
    clear HS HW
    obtain ⟨k, hk, rfl, rfl, hs, hB⟩ := hrel
    by_cases hlt : k < b.length
    · have c1 := (H.out.2.1.below hB).cell k hlt
      have hkm : k < (sumS (IntKind.wrap .u64) a b k).length := by rw [sumS_length, H.out.2.2]; omega
      have c2 := hs.cell k
      rw [cellsK_get .u64 hkm] at c2
      have f2 := hs.frozen k
      obtain ⟨y, hy⟩ : ∃ y, b.getD k 0 = y := ⟨_, rfl⟩
      rw [hy] at c1
      obtain ⟨z, hz⟩ : ∃ z, (sumS (IntKind.wrap .u64) a b k).getD k 0 = z := ⟨_, rfl⟩
      rw [hz] at c2
      have j1 : (k : Int) < (b.length : Int) := by omega
      have j2 : (k : Int) < (N : Int) := by omega
      have j3 : (0 : Int) ≤ (k : Int) := by omega
      have HM := Lib.hid (And.intro hs (And.intro hB (And.intro hy hz)))
      clear hs hB hy hz hkm
      go_wp2_with fail
      go_roundg (b.length - (k + 1))
      case measure => omega
      case rel =>
        obtain ⟨hs, hB, hy, hz⟩ := HM.out
        refine ⟨k + 1, by omega, rfl, by simp, ?_, hB.setCell (p := ⟨w.heap.size, k, none⟩) (Nat.le_refl _) _⟩
        have := hs.set k (.int .u64 ((IntKind.wrap .u64) (z + y)))
        rw [← cellsK_set] at this
        show SBlk _ _ _ (cellsK .u64 (addAt (IntKind.wrap .u64) _ k (b.getD k 0)))
        unfold addAt
        rw [hy, hz]
        exact this
    · obtain rfl : k = b.length := by omega
      have HM := Lib.hid (And.intro hs hB)
      clear hs hB
      go_wp2_with fail
      go_ret
      exact ⟨w.heap.size, rfl, HM.out.1, Nat.le_refl _, HM.out.2⟩
end Go.Proofs.YtcpeeopdaakbaaaGreat
