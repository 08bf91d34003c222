/- What memory holds: letters, orders, words that are made. bring: a letter is made the first one of a shortest word. A range over an iterator whose rounds may panic: the law that is used here. bring of any word; words that are made: room, letters. In a round: a region whose order is open, that reads, and then does one thing more. -/
import Derived.Test.YtcpeeopdaakbaaaGreatChecked
import Derived.Test.YtcpeeopdaakbaaaGreatCoxA
import Derived.WalkKit
import Derived.WalkSpells
import Derived.WalkLawsBesides
import Derived.Deep.Draws
import Derived.Laws.Rows
import Derived.Deep.OwnRows
import Derived.Deep.QuietTactic
import Derived.BigQuiet
import Derived.BigRegion
import Derived.Outline
import Derived.Lib.Hide
import Derived.RegionTactic
import Derived.Deep.RegionHeld3
import Derived.Deep.RegionLaw
import Derived.Deep.RegionWith
import Derived.Deep.LoopGhost
import Derived.Deep.Cut
import Derived.Deep.CutRange
import Derived.Recover
import Derived.OwnWalk
import Derived.Laws.CopyOwn
import Derived.Lib.BufferWrite
import Derived.Lib.SlBuf
import Derived.RangeFuncNested
import Derived.RangeFuncBound
import Derived.RangeFuncCalls
import Derived.RangeFuncLeaves
import Derived.Shelf.Abstract
import Derived.Shelf.RegionOpen
import Derived.OwnWalkIn
import Derived.TacticsInMore
import Derived.LoopNIn
import Derived.LoopIn
import Derived.Sort.LoopGhostIn
import Derived.StillTailTactics
namespace Go.Proofs.YtcpeeopdaakbaaaGreat
open Go.RowKit Cx

/-- block b is just these cells, none of them frozen -/
def SBlk (w : World) (b : Nat) (T : TypeId) (cs : List Value) : Prop := w.heap[b]? = some (.cells cs.toArray T (0, 0))

section
variable {w w' : World} {b : Nat} {T : TypeId} {cs : List Value}
theorem SBlk.lt (h : SBlk w b T cs) : b < w.heap.size := by
  rcases Nat.lt_or_ge b w.heap.size with hlt | hge
  · exact hlt
  · unfold SBlk at h; rw [Array.getElem?_eq_none hge] at h; cases h
theorem SBlk.cell (h : SBlk w b T cs) (i : Nat) : w.cell? ⟨b, i, none⟩ = cs[i]? := by
  unfold SBlk at h
  simp [World.cell?, h]
theorem SBlk.frozen (h : SBlk w b T cs) (i : Nat) : w.frozen? ⟨b, i, none⟩ = false := by
  unfold SBlk at h
  simp [World.frozen?, h]
theorem SBlk.set (h : SBlk w b T cs) (i : Nat) (v : Value) : SBlk (w.setCell ⟨b, i, none⟩ v) b T (cs.set i v) := by
  unfold SBlk at h ⊢
  simp [World.setCell, Array.getElem?_modify, h]
theorem SBlk.far (h : SBlk w b T cs) {p : Addr} (hp : b ≠ p.block) (v : Value) : SBlk (w.setCell p v) b T cs := (Below.heap_setCell w p v b hp).trans h
theorem SBlk.below {B : Nat} (h : SBlk w b T cs) (hb : Below B w w') (hB : b < B) : SBlk w' b T cs := (hb.block b hB).trans h
theorem SBlk.alloc (h : SBlk w b T cs) (o : Obj) : SBlk (w.alloc o) b T cs := (Below.heap_alloc w o b h.lt).trans h
theorem SBlk.drewN (h : SBlk w b T cs) (n : Nat) : SBlk (w.drewN n) b T cs := h
theorem SBlk.drew (h : SBlk w b T cs) : SBlk w.drew b T cs := h
theorem SBlk.new (w : World) (T : TypeId) (cs : List Value) : SBlk (w.alloc (.cells cs.toArray T)) w.heap.size T cs := heap_alloc_new w _
theorem SBlk.new' (w : World) (T : TypeId) (cs : List Value) (k : Nat) (hk : w.heap.size = k) : SBlk (w.alloc (.cells cs.toArray T)) k T cs := by subst hk; exact SBlk.new w T cs
theorem SBlk.grown {r : Option Nat} (h : SBlk w b T cs) (hg : w.grownBy w' r) (hne : some b ≠ r) : SBlk w' b T cs := (hg.block b h.lt hne).trans h
end

/-! the frame of a call that writes to one block alone -/
theorem only_refl (w : World) (r : Option Nat) : w.grownBy w r := World.grownBy.refl w r
theorem only_drewN {a w : World} {r : Option Nat} (h : a.grownBy w r) (n : Nat) : a.grownBy (w.drewN n) r := ⟨h.os, h.tape, h.output, h.size, h.block⟩
theorem only_drew {a w : World} {r : Option Nat} (h : a.grownBy w r) : a.grownBy w.drew r := ⟨h.os, h.tape, h.output, h.size, h.block⟩
theorem only_setCell {a w : World} {g : Nat} (h : a.grownBy w (some g)) (o : Nat) (u : Value) : a.grownBy (w.setCell ⟨g, o, none⟩ u) (some g) :=
  ⟨h.os, h.tape, h.output, by simpa [World.setCell] using h.size, fun i hi hne => (Below.heap_setCell w ⟨g, o, none⟩ u i (by rintro rfl; exact hne rfl)).trans (h.block i hi hne)⟩
theorem only_below {a w w' : World} {r : Option Nat} (h : a.grownBy w r) (hb : Below w.heap.size w w') : a.grownBy w' r :=
  ⟨hb.os.trans h.os, hb.tape.trans h.tape, hb.output.trans h.output, Nat.le_trans h.size hb.size, fun i hi hne => (hb.block i (Nat.lt_of_lt_of_le hi h.size)).trans (h.block i hi hne)⟩
theorem only_trans {a w w' : World} {r : Option Nat} (h : a.grownBy w r) (k : w.grownBy w' r) : a.grownBy w' r :=
  ⟨k.os.trans h.os, k.tape.trans h.tape, k.output.trans h.output, Nat.le_trans h.size k.size, fun i hi hne => (k.block i (Nat.lt_of_lt_of_le hi h.size) hne).trans (h.block i hi hne)⟩
theorem below_only {B : Nat} {a w w' : World} {g : Nat} (h : Below B a w) (k : w.grownBy w' (some g)) (hg : B ≤ g) (hB : B ≤ w.heap.size) : Below B a w' :=
  ⟨k.os.trans h.os, k.tape.trans h.tape, k.output.trans h.output, Nat.le_trans h.size k.size, fun i hi => (k.block i (Nat.lt_of_lt_of_le hi hB) (by intro e; cases e; omega)).trans (h.block i hi)⟩

/-! letters -/
def cellsB (l : List Nat) : List Value := l.map (fun (x : Nat) => .int .u8 (x : Int))
theorem cellsB_length (l : List Nat) : (cellsB l).length = l.length := by simp [cellsB]
theorem cellsB_append (l k : List Nat) : cellsB (l ++ k) = cellsB l ++ cellsB k := by simp [cellsB]
theorem cellsB_set (l : List Nat) (i x : Nat) : cellsB (l.set i x) = (cellsB l).set i (.int .u8 (x : Int)) := by simp [cellsB, List.map_set]
theorem cellsB_get {l : List Nat} {i x : Nat} (h : l[i]? = some x) : (cellsB l)[i]? = some (.int .u8 (x : Int)) := by simp [cellsB, h]

/-- a word as bytes -/
def str (l : List Nat) : ByteArray := ⟨(l.map UInt8.ofNat).toArray⟩
theorem str_size (l : List Nat) : (str l).size = l.length := by simp [str, ByteArray.size]

/-- the orders of a triangle by its three -/
def Mo (a b c : Nat) : Nat → Nat → Nat
  | 0, 1 => a
  | 1, 0 => a
  | 1, 2 => b
  | 2, 1 => b
  | 0, 2 => c
  | 2, 0 => c
  | _, _ => 0

theorem Mo_symm (a b c i j : Nat) : Mo a b c i j = Mo a b c j i := by
  rcases i with _ | _ | _ | i <;> rcases j with _ | _ | _ | j <;> rfl

/-- an order that is allowed -/
def Lim (m : Nat) : Prop := m = 0 ∨ (2 ≤ m ∧ m ≤ 12)

theorem Mo_lim {a b c : Nat} (ha : Lim a) (hb : Lim b) (hc : Lim c) (i j : Nat) : Lim (Mo a b c i j) := by
  rcases i with _ | _ | _ | i <;> rcases j with _ | _ | _ | j <;> first | assumption | exact .inl rfl

theorem Mo_ords {a b c : Nat} (ha : Lim a) (hb : Lim b) (hc : Lim c) : Ords (Mo a b c) := ⟨Mo_symm a b c, fun i j _ => Mo_lim ha hb hc i j⟩

/-- the row of two letters -/
def rowS (a b c i j : Nat) : Value := .string (str (alt i j (Mo a b c i j)))

/-- orders in memory -/
def ordCells (a b c : Nat) : List Value :=
  [.int .i64 a, .int .i64 b, .int .i64 c, rowS a b c 0 0, rowS a b c 0 1, rowS a b c 0 2, rowS a b c 1 0, rowS a b c 1 1, rowS a b c 1 2, rowS a b c 2 0, rowS a b c 2 1, rowS a b c 2 2]

theorem ordCells_row (a b c : Nat) {i j : Nat} (hi : i < 3) (hj : j < 3) : (ordCells a b c)[3 + i * 3 + j]? = some (rowS a b c i j) := by
  rcases i with _ | _ | _ | i
  all_goals (try omega)
  all_goals rcases j with _ | _ | _ | j
  all_goals (try omega)
  all_goals rfl

end Go.Proofs.YtcpeeopdaakbaaaGreat

namespace Go.Proofs.YtcpeeopdaakbaaaGreat
open Go.RowKit Cx

/-- what bring leaves -/
def RBring (M : Nat → Nat → Nat) (x : Nat) (l pre : List Nat) (rb : Nat) (w : World) (e : Ending) (w' : World) : Prop :=
  ∃ b y, e = .returned (.bool b) ∧ Brought M x l b y ∧ SBlk w' rb 5 (cellsB (pre ++ y)) ∧ w.grownBy w' (some rb)

set_option maxRecDepth 100000 in
set_option maxHeartbeats 1000000 in
theorem bring_nil (x : Nat) (A : Option Addr) (V : Value) (w : World) :
    Calls Tryz.prog 216 #[V, .int .u8 x, .slice A 0 0] w fun e w' => e = .returned (.bool false) ∧ w = w' := by
  go_enter Tryz.func216, Tryz.ntmps216
  go_wp2_with fail
  go_ret
  exact ⟨rfl, rfl⟩

set_option maxRecDepth 100000 in
set_option maxHeartbeats 1000000 in
theorem bring_head (M : Nat → Nat → Nat) (x rb cap : Nat) (pre l : List Nat) (V : Value) (w : World) (hr : SBlk w rb 5 (cellsB (pre ++ x :: l))) :
    Calls Tryz.prog 216 #[V, .int .u8 x, .slice (some ⟨rb, pre.length, none⟩) (l.length + 1) cap] w (RBring M x (x :: l) pre rb w) := by
  have c0 := hr.cell pre.length
  rw [cellsB_get (x := x) (by simp)] at c0
  have HR := Lib.hid hr
  clear hr
  go_enter Tryz.func216, Tryz.ntmps216
  go_wp2_with fail
  go_ret
  exact ⟨true, _, rfl, brought_head x l, HR.out, only_refl _ _⟩

set_option maxRecDepth 100000 in
set_option maxHeartbeats 1000000 in
theorem bring_zero {M : Nat → Nat → Nat} (hM : Ords M) (ob x f rb cap a b c : Nat) (hMe : M = Mo a b c) (pre l : List Nat) (w : World) (ho : SBlk w ob 272 (ordCells a b c))
    (hr : SBlk w rb 5 (cellsB (pre ++ f :: l))) (hx : x < 3) (hf : f < 3) (hne : f ≠ x) (h0 : M f x = 0) (hred : Red M (f :: l)) :
    Calls Tryz.prog 216 #[.pointer (some ⟨ob, 0, none⟩), .int .u8 x, .slice (some ⟨rb, pre.length, none⟩) (l.length + 1) cap] w (RBring M x (f :: l) pre rb w) := by
  have c0 := hr.cell pre.length
  rw [cellsB_get (x := f) (by simp)] at c0
  have c1 := ho.cell (3 + f * 3 + x)
  rw [ordCells_row a b c hf hx] at c1
  unfold rowS at c1
  rw [← hMe, h0, show str (alt f x 0) = ⟨#[]⟩ from rfl] at c1
  have hq : ((l.length : Int) + 1 == 0) = false := by simp; omega
  have hb : ((f : Int) == (x : Int)) = false := by simp; omega
  have HR := Lib.hid (And.intro hr (brought_zero hM hne h0 hred))
  have i1 : (0 : Int) ≤ (f : Int) := by omega
  have i2 : (f : Int) < 3 := by omega
  have i3 : (0 : Int) ≤ (x : Int) := by omega
  have i4 : (x : Int) < 3 := by omega
  clear hr ho hMe h0 hred hM hne
  go_enter Tryz.func216, Tryz.ntmps216
  go_wp2_with fail
  go_ret
  exact ⟨false, _, rfl, HR.out.2, HR.out.1, only_refl _ _⟩

theorem str_get {l : List Nat} {i x : Nat} (h : l[i]? = some x) (hx : x < 256) (hi : i < (str l).size) : ((str l)[i]).toNat = x := by
  have hl : i < l.length := by rw [str_size] at hi; exact hi
  have e : (str l)[i] = UInt8.ofNat l[i] := by simp [str, ByteArray.getElem_eq_getElem_data]
  rw [List.getElem?_eq_getElem hl] at h
  injection h with h
  rw [e, h]
  simp; omega

/-- the loop's state in bring -/
def BrLoop (M : Nat → Nat → Nat) (f x : Nat) (l pre : List Nat) (rb m : Nat) (w : World) (i : Value) (wr : World) : Prop :=
  ∃ t v, t ≤ m ∧ i = .int .i64 ((t : Nat) : Int) ∧ Rowed M f x (f :: l) t v ∧ (t = 0 → v = f :: l) ∧ SBlk wr rb 5 (cellsB (pre ++ (alt f x t ++ v))) ∧ w.grownBy wr (some rb)

set_option maxRecDepth 100000 in
set_option maxHeartbeats 2000000 in
theorem bring_row {M : Nat → Nat → Nat} (hM : Ords M) (ob x f rb a b c n : Nat) (hMe : M = Mo a b c) (pre l : List Nat) (w : World) (ho : SBlk w ob 272 (ordCells a b c))
    (hor : ob ≠ rb) (hr : SBlk w rb 5 (cellsB (pre ++ f :: l))) (hx : x < 3) (hf : f < 3) (hne : f ≠ x) (h0 : M f x ≠ 0) (h12 : M f x ≤ 12) (hred : Red M (f :: l)) (hlow : ∀ y ∈ f :: l, y < 3)
    (hlen : l.length ≤ n) (hml : pre.length + l.length + 1 ≤ 140737488355328)
    (ih : ∀ (x' : Nat) (pre' v : List Nat) (W : World), v.length ≤ n → 0 < v.length → x' < 3 → (∀ y ∈ v, y < 3) → pre'.length + v.length ≤ 140737488355328 → Red M v → SBlk W ob 272 (ordCells a b c) → SBlk W rb 5 (cellsB (pre' ++ v)) →
      Calls Tryz.prog 216 #[.pointer (some ⟨ob, 0, none⟩), .int .u8 x', .slice (some ⟨rb, pre'.length, none⟩) v.length v.length] W (RBring M x' v pre' rb W)) :
    Calls Tryz.prog 216 #[.pointer (some ⟨ob, 0, none⟩), .int .u8 x, .slice (some ⟨rb, pre.length, none⟩) (l.length + 1) (l.length + 1)] w (RBring M x (f :: l) pre rb w) := by
  have c0 := hr.cell pre.length
  rw [cellsB_get (x := f) (by simp)] at c0
  have c1 := ho.cell (3 + f * 3 + x)
  rw [ordCells_row a b c hf hx] at c1
  unfold rowS at c1
  rw [← hMe] at c1
  have hq : ((l.length : Int) + 1 == 0) = false := by simp; omega
  have hb : ((f : Int) == (x : Int)) = false := by simp; omega
  have i1 : (0 : Int) ≤ (f : Int) := by omega
  have i2 : (f : Int) < 3 := by omega
  have i3 : (0 : Int) ≤ (x : Int) := by omega
  have i4 : (x : Int) < 3 := by omega
  have HR := Lib.hid (And.intro (And.intro hr hred) (And.intro ho hMe))
  have hsz : (str (alt f x (M f x))).size = M f x := by rw [str_size, alt_length]
  have hget : ∀ k (h : k < (str (alt f x (M f x))).size), ((str (alt f x (M f x)))[k]).toNat = turn f x k := by
    intro k h
    have h2 : k < (alt f x (M f x)).length := by rw [alt_length]; rw [hsz] at h; exact h
    refine str_get ?_ ?_ h
    · rw [List.getElem?_eq_getElem h2, alt_get]
    · unfold turn; split <;> omega
  have HG := Lib.hid (And.intro hsz hget)
  clear hr ho hMe hred hsz hget
  generalize str (alt f x (M f x)) = R at *
  have hRe : R.toList.isEmpty = false := by
    rw [ByteArray.toList_eq]
    cases h : R.data.toList with
    | nil =>
      exfalso
      have : R.size = 0 := by show R.data.size = 0; rw [← Array.length_toList, h]; rfl
      have := HG.out.1
      omega
    | cons _ _ => rfl
  go_enter Tryz.func216, Tryz.ntmps216
  go_wp2_with fail
  go_loopw [31] (fun i wr => BrLoop M f x l pre rb (M f x) w i wr) (fun i _ => M f x - (intOf i).toNat)
  case atStart => exact ⟨0, f :: l, Nat.zero_le _, rfl, rowed_start _ _ _, fun _ => rfl, HR.out.1.1, only_refl _ _⟩
  case round =>
    obtain ⟨t, v, ht, rfl, hrow, hv0, hwr, hgr⟩ := hrel
    have H := Lib.hid (And.intro (And.intro hrow hv0) (And.intro hwr hgr))
    have hvl : t + v.length = l.length + 1 := by have := hrow.len; simpa using this
    clear hrow hv0 hwr hgr
    by_cases hlt : t < M f x
    · have hlt2 : t < R.size := by rw [HG.out.1]; exact hlt
      have j1 : (0 : Int) ≤ (t : Int) := by omega
      have j2 : (t : Int) < (R.size : Int) := by omega
      have j3 : (t : Int) ≤ (l.length : Int) + 1 := by omega
      obtain ⟨y, hy⟩ : ∃ y, turn f x t = y := ⟨_, rfl⟩
      have hy3 : y < 3 := by rw [← hy]; unfold turn; split <;> assumption
      have hg1 : (R[t]).toNat = y := by rw [HG.out.2 t hlt2, hy]
      have HY := Lib.hid hy
      have hoW : SBlk wr ob 272 (ordCells a b c) := HR.out.2.1.grown H.out.2.2 (by simpa using hor)
      rcases Nat.eq_zero_or_pos v.length with hv | hv
      · -- the word has ended
        have e1 : l.length + 1 = t := by omega
        have hwr : SBlk wr rb 5 (cellsB (pre ++ (alt f x t ++ []))) := by
          have := H.out.2.1
          rwa [List.length_eq_zero_iff.1 hv] at this
        have hfin : Brought M x (f :: l) false (alt f x t ++ []) := by
          have hv2 := List.length_eq_zero_iff.1 hv
          have h1 := H.out.1.1
          rw [hv2] at h1
          exact h1.fails hM hne HR.out.1.2 hlt (brought_nil _) (by omega) hx
        have HW := Lib.hid (And.intro hwr hfin)
        clear hwr hy hoW hfin
        go_wp2_with fail
        go_region_with (go_at_call 216; refine (bring_nil y _ _ _).mono ?_; rintro e w' ⟨rfl, rfl⟩)
        all_goals
          go_wp2_with fail
          go_ret
          exact ⟨false, _, rfl, HW.out.2, HW.out.1, only_drew H.out.2.2⟩
      · have e1 : l.length + 1 - t = v.length := by omega
        have hnx : t < l.length + 1 := by omega
        have hj : (t : Int) < (l.length : Int) + 1 := by omega
        have hnt : (l.length + 1 = t) = False := by simp; omega
        have hc : ∀ W, SBlk W ob 272 (ordCells a b c) → SBlk W rb 5 (cellsB (pre ++ (alt f x t ++ v))) →
            Calls Tryz.prog 216 #[.pointer (some ⟨ob, 0, none⟩), .int .u8 y, .slice (some ⟨rb, pre.length + t, none⟩) (l.length + 1 - t) (l.length + 1 - t)] W (RBring M y v (pre ++ alt f x t) rb W) := by
          intro W h1 h2
          rw [← List.append_assoc] at h2
          have e2 : (pre ++ alt f x t).length = pre.length + t := by simp [alt_length]
          have hvr : Red M v := H.out.1.1.red HR.out.1.2
          rw [← e2, e1]
          rcases Nat.eq_zero_or_pos t with h | h
          · subst h
            have hvv := H.out.1.2 rfl
            subst hvv
            have hyf : y = f := by rw [← hy]; rfl
            subst hyf
            exact bring_head M y rb _ _ l _ W h2
          · exact ih y _ v W (by omega) hv hy3 (H.out.1.1.low hlow) (by rw [e2]; omega) hvr h1 h2
        have HC := Lib.hid hc
        have hwo : SBlk wr ob 272 (ordCells a b c) ∧ SBlk wr rb 5 (cellsB (pre ++ (alt f x t ++ v))) := ⟨hoW, H.out.2.1⟩
        have HW := Lib.hid hwo
        clear hc hwo hy hoW e1
        go_wp2_with fail
        go_region_with (go_at_call 216; (with_reducible refine (HC.out _ HW.out.1.drew HW.out.2.drew).mono ?_); rintro e w' ⟨b, z, rfl, hbr, hsb, hgr⟩; have HB := Lib.hid (And.intro hbr (And.intro hsb hgr)); clear hbr hsb hgr)
        all_goals
          rcases b
          · go_wp2_with fail
            go_ret
            obtain ⟨hbr, hsb, hgr⟩ := HB.out
            have ht0 : 0 < t := by
              rcases Nat.eq_zero_or_pos t with h | h
              · exfalso
                subst h
                have hvv := H.out.1.2 rfl
                subst hvv
                have hyf : y = f := by rw [← HY.out]; rfl
                subst hyf
                exact (hbr.no rfl).1 (ds_of_head HR.out.1.2)
              · exact h
            rw [List.append_assoc] at hsb
            rw [← HY.out] at hbr
            exact ⟨false, _, rfl, H.out.1.1.fails hM hne HR.out.1.2 hlt hbr ht0 hx, hsb, only_trans (only_drew H.out.2.2) hgr⟩
          · go_wp2_with fail
            go_roundw
            case measure => simp [intOf]; omega
            case rel =>
              obtain ⟨hbr, hsb, hgr⟩ := HB.out
              rw [← HY.out] at hbr
              obtain ⟨z', rfl, hnext⟩ := H.out.1.1.next hbr
              refine ⟨t + 1, z', by omega, by simp, hnext, fun h => by omega, ?_, only_trans (only_drew H.out.2.2) hgr⟩
              rw [List.append_assoc] at hsb
              rw [alt_snoc, List.append_assoc]
              exact hsb
    · obtain rfl : t = M f x := by omega
      have hoW : SBlk wr ob 272 (ordCells a b c) := HR.out.2.1.grown H.out.2.2 (by simpa using hor)
      have c2 := hoW.cell (3 + x * 3 + f)
      rw [ordCells_row a b c hx hf] at c2
      unfold rowS at c2
      rw [← HR.out.2.2, hM.symm x f] at c2
      have hlt3 : ¬ M f x < R.size := by rw [HG.out.1]; omega
      have hcp : ∀ ty, (Builtin.copy_ #[220, 9] ty #[.slice (some ⟨rb, pre.length, none⟩) (l.length + 1) (l.length + 1), .string (str (alt x f (M f x)))]).run Tryz.prog wr =
          .ok (goInt (str (alt x f (M f x))).size) (wr.setRow rb ((cellsB (pre ++ (alt f x (M f x) ++ v))).toArray.toList.take pre.length ++ Lib.byteCells (str (alt x f (M f x))).data.toList ++ (cellsB (pre ++ (alt f x (M f x) ++ v))).toArray.toList.drop (pre.length + (str (alt x f (M f x))).size)).toArray) :=
        fun ty => Lib.run_copy_row_string wr 220 9 ty 5 rb pre.length _ _ _ _ _ Tryz.underlying220 (by kernel_rfl) H.out.2.1 (by rw [str_size, alt_length]; omega) (by simp [cellsB_length, str_size, alt_length])
      have HCP := Lib.hid hcp
      clear hcp hoW
      generalize hRR : str (alt x f (M f x)) = R2 at *
      have HRR := Lib.hid hRR
      clear hRR
      go_wp2_with (refine Lib.wpList_copy_run _ rfl _ _ 220 9 rfl _ _ rfl rfl (HCP.out _) ?_)
      go_ret
      have hM0 : M f x = M x f := hM.symm f x
      have hs2 : R2.size = M f x := by rw [← HRR.out, str_size, alt_length]
      have hbytes : Lib.byteCells R2.data.toList = cellsB (alt x f (M f x)) := by
        rw [← HRR.out]
        unfold Lib.byteCells str cellsB
        simp only [List.map_map]
        refine List.map_congr_left fun y hy => ?_
        have hy3 := alt_low hx hf _ y hy
        simp; omega
      refine ⟨true, _, rfl, H.out.1.1.done h0 hx hf, ?_, only_trans H.out.2.2 ?_⟩
      · have e1 : List.take pre.length (cellsB (pre ++ (alt f x (M f x) ++ v))) ++ (Lib.byteCells R2.data.toList ++ List.drop (pre.length + R2.size) (cellsB (pre ++ (alt f x (M f x) ++ v)))) = cellsB (pre ++ (alt x f (M f x) ++ v)) := by
          rw [hbytes, hs2]
          simp only [cellsB_append]
          have e2 : cellsB pre ++ (cellsB (alt f x (M f x)) ++ cellsB v) = (cellsB pre ++ cellsB (alt f x (M f x))) ++ cellsB v := by rw [List.append_assoc]
          rw [List.take_left' (cellsB_length _), e2, List.drop_left' (by simp [cellsB_length, alt_length])]
        rw [e1]
        exact setRow_heap wr rb _ _ _ _ H.out.2.1
      · exact ⟨rfl, rfl, rfl, by simp [World.setRow], fun k hk hn => setRow_other wr rb k _ (by rintro rfl; exact hn rfl)⟩
end Go.Proofs.YtcpeeopdaakbaaaGreat

namespace Go.Proofs.YtcpeeopdaakbaaaGreat
open Go.RowKit

/-- B is A but for new blocks, and for the blocks of S -/
structure But (S : Nat → Prop) (A B : World) : Prop where
  os : B.os = A.os
  tape : B.tape = A.tape
  output : B.output = A.output
  size : A.heap.size ≤ B.heap.size
  block : ∀ k, k < A.heap.size → ¬ S k → B.heap[k]? = A.heap[k]?

section
variable {S T : Nat → Prop} {A B C : World}
theorem But.refl (S : Nat → Prop) (A : World) : But S A A := ⟨rfl, rfl, rfl, Nat.le_refl _, fun _ _ _ => rfl⟩
theorem But.trans (h : But S A B) (k : But S B C) : But S A C :=
  ⟨k.os.trans h.os, k.tape.trans h.tape, k.output.trans h.output, Nat.le_trans h.size k.size, fun i hi hb => (k.block i (Nat.lt_of_lt_of_le hi h.size) hb).trans (h.block i hi hb)⟩
theorem But.mono (h : But S A B) (hs : ∀ k, k < A.heap.size → S k → T k) : But T A B := ⟨h.os, h.tape, h.output, h.size, fun k hk hn => h.block k hk (fun hS => hn (hs k hk hS))⟩
theorem But.of_below {n : Nat} (h : Below n A B) (hn : ∀ k, k < A.heap.size → n ≤ k → S k) : But S A B := ⟨h.os, h.tape, h.output, h.size, fun k hk hnS => h.block k (by
  rcases Nat.lt_or_ge k n with h1 | h1
  · exact h1
  · exact absurd (hn k hk h1) hnS)⟩
theorem But.below {n : Nat} (h : But S A B) (hn : n ≤ A.heap.size) (hs : ∀ k, S k → n ≤ k) : Below n A B := ⟨h.os, h.tape, h.output, h.size, fun k hk => h.block k (by omega) (fun hS => by have := hs k hS; omega)⟩
theorem But.of_grown {g : Nat} (h : A.grownBy B (some g)) (hg : S g) : But S A B := ⟨h.os, h.tape, h.output, h.size, fun k hk hn => h.block k hk (by intro e; injection e with e; subst e; exact hn hg)⟩
theorem But.put {l : Nat} (o : Obj) (hl : S l) : But S A (A.putObj l o) := by
  have hg := grownBy_putObj' A l o
  exact ⟨hg.os, hg.tape, hg.output, hg.size, fun k _ hb => World.putObj_heap_other (by rintro rfl; exact hb hl)⟩
theorem But.setCell (h : But S A B) {p : Addr} (hp : S p.block) (v : Value) : But S A (B.setCell p v) :=
  ⟨h.os, h.tape, h.output, by simpa [World.setCell] using h.size, fun k hk hb => (Below.heap_setCell B p v k (by rintro rfl; exact hb hp)).trans (h.block k hk hb)⟩
theorem But.drew (h : But S A B) : But S A B.drew := ⟨h.os, h.tape, h.output, h.size, h.block⟩
theorem But.drewN (h : But S A B) (n : Nat) : But S A (B.drewN n) := ⟨h.os, h.tape, h.output, h.size, h.block⟩
theorem But.alloc (h : But S A B) (o : Obj) : But S A (B.alloc o) := ⟨h.os, h.tape, h.output, by simpa using Nat.le_succ_of_le h.size, fun k hk hb => (Below.heap_alloc B o k (Nat.lt_of_lt_of_le hk h.size)).trans (h.block k hk hb)⟩
theorem SBlk.but {b : Nat} {Ty : TypeId} {cs : List Value} (h : SBlk A b Ty cs) (hb : But S A B) (hn : ¬ S b) : SBlk B b Ty cs := (hb.block b h.lt hn).trans h
end

/-- B is A but for new blocks, and for blocks from D on that hold no cells -/
structure Soft (D : Nat) (A B : World) : Prop where
  os : B.os = A.os
  tape : B.tape = A.tape
  output : B.output = A.output
  size : A.heap.size ≤ B.heap.size
  keep : ∀ (k : Nat) (o : Obj), A.heap[k]? = some o → (k < D ∨ o.isCells = true) → B.heap[k]? = some o

theorem Soft.of_below {D : Nat} {A B : World} (h : Below A.heap.size A B) : Soft D A B :=
  ⟨h.os, h.tape, h.output, h.size, fun k _ hk _ => (h.block k (Array.getElem?_eq_some_iff.1 hk).1).trans hk⟩

theorem Soft.put {D l : Nat} {A : World} {o : Obj} (o' : Obj) (hl : A.heap[l]? = some o) (ho : o.isCells = false) (hD : D ≤ l) : Soft D A (A.putObj l o') := by
  have hg := grownBy_putObj' A l o'
  refine ⟨hg.os, hg.tape, hg.output, hg.size, fun k q hk hq => ?_⟩
  have hne : k ≠ l := by
    rintro rfl
    rw [hl] at hk
    cases hk
    rcases hq with h | h
    · omega
    · rw [ho] at h; cases h
  exact (World.putObj_heap_other hne).trans hk
theorem Soft.sblk {D : Nat} {A B : World} {b : Nat} {T : TypeId} {cs : List Value} (h : Soft D A B) (hs : SBlk A b T cs) : SBlk B b T cs := h.keep b _ hs (.inr rfl)
theorem Soft.below {D n : Nat} {w A B : World} (h : Soft D A B) (hb : Below n w A) (hn : n ≤ w.heap.size) (hD : n ≤ D) : Below n w B := by
  refine ⟨h.os.trans hb.os, h.tape.trans hb.tape, h.output.trans hb.output, Nat.le_trans hb.size h.size, fun k hk => ?_⟩
  have hk2 : k < A.heap.size := Nat.lt_of_lt_of_le (Nat.lt_of_lt_of_le hk hn) hb.size
  rw [h.keep k A.heap[k] (Array.getElem?_eq_getElem hk2) (.inl (by omega)), ← Array.getElem?_eq_getElem hk2]
  exact hb.block k hk
theorem Soft.but {D : Nat} {S : Nat → Prop} {w A B : World} (h : Soft D A B) (hb : But S w A) (hD : w.heap.size ≤ D) : But S w B := by
  refine ⟨h.os.trans hb.os, h.tape.trans hb.tape, h.output.trans hb.output, Nat.le_trans hb.size h.size, fun k hk hn => ?_⟩
  have hk2 : k < A.heap.size := Nat.lt_of_lt_of_le hk hb.size
  rw [h.keep k A.heap[k] (Array.getElem?_eq_getElem hk2) (.inl (by omega)), ← Array.getElem?_eq_getElem hk2]
  exact hb.block k hk hn

theorem KeepsOthers.of_below {A B : World} (h : Below A.heap.size A B) : KeepsOthers A B := ⟨h.size, fun k _ hk _ => (h.block k (Array.getElem?_eq_some_iff.1 hk).1).trans hk⟩
theorem KeepsOthers.of_only {A B : World} {g : Nat} {T : TypeId} {cs : List Value} (h : A.grownBy B (some g)) (hs : SBlk A g T cs) : KeepsOthers A B :=
  ⟨h.size, fun k o hk hc => (h.block k (Array.getElem?_eq_some_iff.1 hk).1 (by
    intro e; injection e with e; subst e
    rw [hs] at hk; injection hk with hk; subst hk; cases hc)).trans hk⟩

/-- what is asked at a round's end, a panic let in -/
def roundPostP (P : Program) (l : Nat) (R : Ending → World → Prop) : Exit → Act → World → Prop
  | .panic ch, a, w => a.defers = [] ∧ R (.panicked ch) w
  | e, a, w => roundPost P l R e a w

theorem roundIn_p {F : Fence} {n : Nat} {P : Program} {l : Nat} {f : FuncId} {fd : Func} {tmps : Array Value} {assign body : Code} {w : World} {R : Ending → World → Prop} (hF : F.fn f) (hfd : P.funcs[f]? = some fd)
    (h : assign.wpIn (F.inRound l) n P (Exit.then (fun a₁ w₁ => ∃ w₂, (Instr.beginRound l).run P w₁ = .ok () w₂ ∧ body.wpIn (F.inRound l) n P (roundPostP P l R) a₁ w₂) (fun _ _ _ => False))
      { tmps := tmps, defers := [] } w) :
    RoundIn F n P l f tmps assign body w R := by
  refine ⟨hF, fun c cs hr => ?_⟩
  let b : Frame := { (default : Frame) with fn := f, kind := .normal, roundOf := some l }
  have hb0 : Frame.round l f tmps assign body .normal = b.atR { tmps := tmps, defers := [] } [.code assign, .beginRound, .code body] := by
    simp [Frame.round, Frame.atR, b]
  have hr' : (F.inRound l).room ((c :: cs).length + 1 + n) := hr
  have hF' : (F.inRound l).fn b.fn := hF
  obtain ⟨e, a₁, w₁, hq, harr⟩ := h b [.beginRound, .code body] (c :: cs) rfl hF' hr'
  rw [← hb0] at harr
  cases e with
  | normal =>
    obtain ⟨w₂, hbr, hbody⟩ := hq
    have s1 : StepsIn (Machine.fenced P (F.inRound l)) P (lone (b.atR a₁ [.beginRound, .code body]) (c :: cs) w₁) (lone (b.atR a₁ [.code body]) (c :: cs) w₂) :=
      .one (fenced_calm (fr := b.atR a₁ [.beginRound, .code body]) hF' hr' rfl) (stepR_beginRound rfl hbr)
    obtain ⟨e₂, a₂, w₃, hq₂, harr₂⟩ := hbody b [] (c :: cs) rfl hF' hr'
    cases e₂ with
    | normal =>
      obtain ⟨v, w₄, hend, hR⟩ := hq₂
      exact ⟨.returned v, w₄, hR, (StepsIn.trans harr s1).trans (StepsIn.trans harr₂ (.one (fenced_calm (fr := b.atR a₂ []) hF' hr' rfl) (stepR_round_end rfl rfl hend)))⟩
    | ret =>
      obtain ⟨v, w₄, hend, hR⟩ := hq₂
      obtain ⟨k₁, hs⟩ := harr₂.2 rfl
      exact ⟨.returned v, w₄, hR, (StepsIn.trans harr s1).trans (StepsIn.trans hs (.one (fenced_calm (fr := b.atR a₂ (.code .ret :: k₁)) hF' hr' rfl) (stepR_round_ret rfl rfl hend)))⟩
    | exit id =>
      obtain ⟨v, w₄, hend, hR⟩ := hq₂
      obtain ⟨k₁, hk, hs⟩ := harr₂.2 rfl rfl
      exact ⟨.returned v, w₄, hR, (StepsIn.trans harr s1).trans (StepsIn.trans hs (.one (fenced_calm (fr := b.atR a₂ (.code (.exit id) :: k₁)) hF' hr' rfl) (stepR_round_exit rfl rfl hk hend)))⟩
    | goto t =>
      obtain ⟨v, w₄, hend, hR⟩ := hq₂
      obtain ⟨k₁, hk, hs⟩ := harr₂.2 rfl rfl
      exact ⟨.returned v, w₄, hR, (StepsIn.trans harr s1).trans (StepsIn.trans hs (.one (fenced_calm (fr := b.atR a₂ (.code (.goto t) :: k₁)) hF' hr' rfl) (stepR_round_goto rfl rfl hk hend)))⟩
    | panic chain =>
      obtain ⟨hd, hR⟩ := hq₂
      obtain ⟨todo, hs⟩ := harr₂
      have hlv : Frame.leaving P { b.atR a₂ todo with mode := .panicking chain } w₃ (.panicked chain) := ⟨rfl, hd, fd, hfd⟩
      exact ⟨.panicked chain, w₃, hR, (StepsIn.trans harr s1).trans (StepsIn.trans hs (.one (fenced_leaving (n := n) hF' hr' hlv) (step_leave_panicked hlv)))⟩
    | outgrown => exact hq₂.elim
  | exit id => exact hq.elim
  | goto t => exact hq.elim
  | ret => exact hq.elim
  | panic chain => exact hq.elim
  | outgrown => exact hq.elim

/-- the contract of an iterator over a list: a round keeps all but the blocks of S -/
def IterL {α : Type} (F : Fence) (P : Program) (gf : Nat) (cap : Array Value) (encs : α → Array Value) (S : Nat → Prop) (xs : List α) (w : World) : Prop :=
  ∀ (l : Nat) (J : List α → World → Prop) (Jx : World → Prop) (Jp : List PanicEntry → World → Prop) (W : World), But S w W →
    (∀ pre A B, J pre A → Below A.heap.size A B → J pre B) →
    (∀ pre x rest A, xs = pre ++ x :: rest → J pre A → YieldAt F 0 P l (encs x) A fun e B => (e = .returned (.bool true) ∧ J (pre ++ [x]) B ∧ But S A B) ∨ (e = .returned (.bool false) ∧ Jx B) ∨ (∃ ch, e = .panicked ch ∧ Jp ch B)) →
    J [] W →
    CallsIn F 0 P gf (#[.func (.yield l) #[] #[]] ++ cap) W fun e B => (∃ v, e = .returned v ∧ (J xs B ∨ Jx B)) ∨ (∃ ch, e = .panicked ch ∧ Jp ch B)

/-- how a round may be left -/
def postN {α : Type} (F : Fence) (P : Program) (S : Nat → Prop) (I : List α → World → Prop) (Ix : Code → World → Prop) (Ip : List PanicEntry → World → Prop) (pre : List α) (x : α) (A : World) : Exit → Act → World → Prop
  | .normal, _, B => KeepsOthers A B ∧ But S A B ∧ I (pre ++ [x]) B
  | .ret, _, B => KeepsOthers A B ∧ Ix .ret B
  | .exit id, _, B => KeepsOthers A B ∧ Ix (.exit id) B
  | .goto _, _, _ => False
  | .panic ch, a, B => KeepsOthers A B ∧ a.defers = [] ∧ (∀ fn, F.fn fn → ∃ fd, P.funcs[fn]? = some fd) ∧ Ip ch B
  | .outgrown, _, _ => False

theorem rangeN {α : Type} {F : Fence} {P : Program} {g : Operand} {ps : Array Tmp} {assign body : Code} {Q : Exit → Act → World → Prop} {a : Act} {w : World} {gf : Nat} {cap : Array Value}
    (hro : F.round = none) (hF : F.fn gf)
    (hg : a.eval g = .func (.func gf) #[] cap) (eg : ∀ args w, (callFunc gf args).run P w = .ok (.enter gf args) w)
    {encs : α → Array Value} (hps : ∀ x, (encs x).size = ps.size) {S : Nat → Prop} {xs : List α} (hit : IterL F P gf cap encs (fun k => S k ∨ w.heap.size ≤ k) xs w)
    (I : List α → World → Prop) (Ix : Code → World → Prop) (Ip : List PanicEntry → World → Prop) (hI : ∀ k A B, I k A → Soft w.heap.size A B → I k B) (hIx : ∀ c A B, Ix c A → Soft w.heap.size A B → Ix c B) (h0 : I [] w)
    (Ax : List α → α → Act → World → Prop) (hAx : ∀ k x a' A B, Ax k x a' A → Soft w.heap.size A B → Ax k x a' B)
    (hassign : ∀ (l : Nat) (pre : List α) (x : α) (rest : List α) (A : World) (K : Act → World → Prop), xs = pre ++ x :: rest → I pre A → (∀ a' B, KeepsOthers A B → But (fun k => S k ∨ w.heap.size ≤ k) A B → Ax pre x a' B → K a' B) →
      assign.wpIn (F.inRound l) 0 P (Exit.then K (fun _ _ _ => False)) { tmps := (ps.zip (encs x)).foldl (fun t (p, v) => t.setIfInBounds p v) a.tmps, defers := [] } A)
    (hbody : ∀ (l : Nat) (pre : List α) (x : α) (rest : List α) (a' : Act) (A : World), xs = pre ++ x :: rest → Ax pre x a' A → body.wpIn (F.inRound l) 0 P (postN F P (fun k => S k ∨ w.heap.size ≤ k) I Ix Ip pre x A) a' A)
    (hdone : ∀ (B : World), I xs B → B.heap[w.heap.size]? = some (.deferred (some [])) → Q .normal { a with defers := { target := .collected w.heap.size, args := #[] } :: a.defers } B)
    (hstop : ∀ (c : Code) (B : World), Ix c B → B.heap[w.heap.size]? = some (.deferred (some [])) → c.wpIn F 1 P Q { a with defers := { target := .collected w.heap.size, args := #[] } :: a.defers } B)
    (hpanic : ∀ (ch : List PanicEntry) (B : World), Ip ch B → B.heap[w.heap.size]? = some (.deferred (some [])) → Q (.panic ch) { a with defers := { target := .collected w.heap.size, args := #[] } :: a.defers } B) :
    (Code.rangeFunc g ps assign body).wpIn F 1 P Q a w := by
  refine wpIn_rangeFunc ?_
  intro fn hfn
  rw [hro]
  obtain ⟨rec, hrec⟩ : ∃ rec : LoopState → Option Code → Loop, rec = fun st pe => { state := st, pending := pe, fn, tmps := a.tmps, params := ps, assign, body, defers := w.heap.size } := ⟨_, rfl⟩
  obtain ⟨W1, hW1⟩ : ∃ W1, (w.alloc (.deferred (some []))).alloc (.loop (rec .ready none)) = W1 := ⟨_, rfl⟩
  have hbel : Below w.heap.size w W1 := by rw [← hW1]; exact ((Below.refl _ w).alloc (Nat.le_refl _) _).alloc (by simp) _
  have hL1 : W1.heap[w.heap.size + 1]? = some (.loop (rec .ready none)) := by
    rw [← hW1]; have := World.alloc_heap_new (w.alloc (.deferred (some []))) (.loop (rec .ready none)); rwa [World.size_alloc] at this
  have hK1 : W1.heap[w.heap.size]? = some (.deferred (some [])) := by
    rw [← hW1]; exact (Below.heap_alloc _ _ _ (by simp)).trans (World.alloc_heap_new w _)
  have hbut : But (fun k => S k ∨ w.heap.size ≤ k) w W1 := But.of_below hbel (fun k hk h => .inr h)
  refine ⟨w.heap.size + 1, [{ target := .collected w.heap.size, args := #[] }], W1, { target := .fn (.func gf) cap, args := #[.func (.yield (w.heap.size + 1)) #[] #[]] }, W1, gf,
    #[.func (.yield (w.heap.size + 1)) #[] #[]] ++ cap, W1, ?_, ?_, ?_, ?_, fun _ => Nat.le_refl _, ?_⟩
  · rw [← hW1, hrec]; exact run_enterLoop_outer _ _ _ _ _
  · simp only [resolve, hg]
    simp [go_sem]
  · intro f' hf'; simp [Target.leads] at hf'; subst hf'; exact hF
  · simp [invoke, go_sem, eg]
  · have hl : w.heap.size ≤ w.heap.size + 1 := Nat.le_succ _
    refine (hit (w.heap.size + 1)
      (fun k W => I k W ∧ W.heap[w.heap.size + 1]? = some (.loop (rec .ready none)) ∧ W.heap[w.heap.size]? = some (.deferred (some [])))
      (fun W => ∃ c, Ix c W ∧ W.heap[w.heap.size + 1]? = some (.loop (rec .done (some c))) ∧ W.heap[w.heap.size]? = some (.deferred (some [])))
      (fun ch W => Ip ch W ∧ W.heap[w.heap.size]? = some (.deferred (some [])))
      W1 hbut (fun k A B hs hb => ⟨hI _ _ _ hs.1 (Soft.of_below hb), (hb.block _ (Array.getElem?_eq_some_iff.1 hs.2.1).1).trans hs.2.1, (hb.block _ (Array.getElem?_eq_some_iff.1 hs.2.2).1).trans hs.2.2⟩)
      ?_ ⟨hI _ _ _ h0 (Soft.of_below hbel), hL1, hK1⟩).mono ?_
    · rintro pre x rest A hxs ⟨hi, hlr, hdr⟩
      have hy := run_yield (P := P) (args := encs x) hlr (by rw [hrec]; exact hps x)
      rw [hrec] at hy
      refine ⟨fn, _, assign, body, hy, ?_⟩
      have main : ∀ RP : Exit → Act → World → Prop, (∀ (e : Exit) (a3 : Act) (W3 Wa : World), But (fun k => S k ∨ w.heap.size ≤ k) A Wa → Wa.heap[w.heap.size + 1]? = some (.loop (rec .ready none)) → Wa.heap[w.heap.size]? = some (.deferred (some [])) →
          postN F P (fun k => S k ∨ w.heap.size ≤ k) I Ix Ip pre x (Wa.putObj (w.heap.size + 1) (.loop { rec .ready none with state := .busy })) e a3 W3 → RP e a3 W3) →
          assign.wpIn (F.inRound (w.heap.size + 1)) 0 P (Exit.then (fun a₁ w₁ => ∃ w₂, (Instr.beginRound (w.heap.size + 1)).run P w₁ = .ok () w₂ ∧ body.wpIn (F.inRound (w.heap.size + 1)) 0 P RP a₁ w₂) (fun _ _ _ => False))
            { tmps := (ps.zip (encs x)).foldl (fun t (p, v) => t.setIfInBounds p v) a.tmps, defers := [] } A := by
        intro RP hRP
        refine hassign _ pre x rest A _ hxs hi ?_
        intro a' Wa hko hke hax
        have hla := hko.same _ _ hlr rfl
        have hda := hko.same _ _ hdr rfl
        refine ⟨_, run_beginRound hla (by rw [hrec]), ?_⟩
        exact wpIn_mono (hbody _ pre x rest a' _ hxs (hAx _ _ _ _ _ hax (Soft.put _ hla rfl hl))) (fun e a3 W3 hp => hRP e a3 W3 Wa hke hla hda hp)
      have fin : ∀ (jump : Option Code) (W3 Wa : World), Wa.heap[w.heap.size + 1]? = some (.loop (rec .ready none)) → Wa.heap[w.heap.size]? = some (.deferred (some [])) → KeepsOthers (Wa.putObj (w.heap.size + 1) (.loop { rec .ready none with state := .busy })) W3 →
          (Instr.endRound (w.heap.size + 1) jump).run P W3 = .ok (.bool jump.isNone) (W3.putObj (w.heap.size + 1) (.loop (rec (if jump.isNone then .ready else .done) jump))) ∧
          W3.heap[w.heap.size + 1]? = some (.loop { rec .ready none with state := .busy }) ∧
          (W3.putObj (w.heap.size + 1) (.loop (rec (if jump.isNone then .ready else .done) jump))).heap[w.heap.size + 1]? = some (.loop (rec (if jump.isNone then .ready else .done) jump)) ∧
          (W3.putObj (w.heap.size + 1) (.loop (rec (if jump.isNone then .ready else .done) jump))).heap[w.heap.size]? = some (.deferred (some [])) ∧ W3.heap[w.heap.size]? = some (.deferred (some [])) := fun jump W3 Wa hla hda hk3 => by
        have hlt : w.heap.size + 1 < Wa.heap.size := (Array.getElem?_eq_some_iff.1 hla).1
        have hl2 : (Wa.putObj (w.heap.size + 1) (.loop { rec .ready none with state := .busy })).heap[w.heap.size + 1]? = some (.loop { rec .ready none with state := .busy }) := World.putObj_heap_same hlt
        have hd2 : (Wa.putObj (w.heap.size + 1) (.loop { rec .ready none with state := .busy })).heap[w.heap.size]? = some (.deferred (some [])) := (World.putObj_heap_other (by omega)).trans hda
        have hl3 := hk3.same _ _ hl2 rfl
        have := run_endRound (P := P) jump hl3
        rw [hrec] at this ⊢
        exact ⟨this, by rw [hrec] at hl3; exact hl3, World.putObj_heap_same (Array.getElem?_eq_some_iff.1 hl3).1, (World.putObj_heap_other (by omega)).trans (hk3.same _ _ hd2 rfl), hk3.same _ _ hd2 rfl⟩
      have hSl : (fun k => S k ∨ w.heap.size ≤ k) (w.heap.size + 1) := .inr (by omega)
      have rest' : ∀ (e : Exit) (a3 : Act) (W3 Wa : World), But (fun k => S k ∨ w.heap.size ≤ k) A Wa → Wa.heap[w.heap.size + 1]? = some (.loop (rec .ready none)) → Wa.heap[w.heap.size]? = some (.deferred (some [])) →
          postN F P (fun k => S k ∨ w.heap.size ≤ k) I Ix Ip pre x (Wa.putObj (w.heap.size + 1) (.loop { rec .ready none with state := .busy })) e a3 W3 → (∀ ch, e ≠ .panic ch) →
          roundPost P (w.heap.size + 1) (fun e B => (e = .returned (.bool true) ∧ (I (pre ++ [x]) B ∧ B.heap[w.heap.size + 1]? = some (.loop (rec .ready none)) ∧ B.heap[w.heap.size]? = some (.deferred (some []))) ∧ But (fun k => S k ∨ w.heap.size ≤ k) A B) ∨
            (e = .returned (.bool false) ∧ ∃ c, Ix c B ∧ B.heap[w.heap.size + 1]? = some (.loop (rec .done (some c))) ∧ B.heap[w.heap.size]? = some (.deferred (some []))) ∨ (∃ ch, e = .panicked ch ∧ Ip ch B ∧ B.heap[w.heap.size]? = some (.deferred (some [])))) e a3 W3 := by
        rintro e a3 W3 Wa hke hla hda hp hnp
        cases e with
        | normal =>
          obtain ⟨hk3, hkp3, hi3⟩ := hp
          obtain ⟨hr, hl3, hl4, hk4, _⟩ := fin none W3 Wa hla hda hk3
          exact ⟨_, _, hr, .inl ⟨rfl, ⟨hI _ _ _ hi3 (Soft.put _ hl3 rfl hl), hl4, hk4⟩, (hke.trans (But.put _ hSl)).trans (hkp3.trans (But.put _ hSl))⟩⟩
        | ret =>
          obtain ⟨hk3, hi3⟩ := hp
          obtain ⟨hr, hl3, hl4, hk4, _⟩ := fin (some .ret) W3 Wa hla hda hk3
          exact ⟨_, _, hr, .inr (.inl ⟨rfl, .ret, hIx _ _ _ hi3 (Soft.put _ hl3 rfl hl), hl4, hk4⟩)⟩
        | exit id =>
          obtain ⟨hk3, hi3⟩ := hp
          obtain ⟨hr, hl3, hl4, hk4, _⟩ := fin (some (.exit id)) W3 Wa hla hda hk3
          exact ⟨_, _, hr, .inr (.inl ⟨rfl, .exit id, hIx _ _ _ hi3 (Soft.put _ hl3 rfl hl), hl4, hk4⟩)⟩
        | goto t => exact hp.elim
        | panic ch => exact (hnp ch rfl).elim
        | outgrown => exact hp.elim
      by_cases hfd : ∃ fd, P.funcs[fn]? = some fd
      · obtain ⟨fd, hfd⟩ := hfd
        refine roundIn_p hfn hfd (main _ ?_)
        rintro e a3 W3 Wa hke hla hda hp
        cases e with
        | panic ch =>
          obtain ⟨hk3, hd3, _, hi3⟩ := hp
          exact ⟨hd3, .inr (.inr ⟨ch, rfl, hi3, (fin none W3 Wa hla hda hk3).2.2.2.2⟩)⟩
        | normal => exact rest' _ a3 W3 Wa hke hla hda hp (fun _ h => by cases h)
        | ret => exact rest' _ a3 W3 Wa hke hla hda hp (fun _ h => by cases h)
        | exit id => exact rest' _ a3 W3 Wa hke hla hda hp (fun _ h => by cases h)
        | goto t => exact rest' _ a3 W3 Wa hke hla hda hp (fun _ h => by cases h)
        | outgrown => exact rest' _ a3 W3 Wa hke hla hda hp (fun _ h => by cases h)
      · refine roundIn_of_wpIn hfn (main _ ?_)
        rintro e a3 W3 Wa hke hla hda hp
        cases e with
        | panic ch => exact (hfd (hp.2.2.1 fn hfn)).elim
        | normal => exact rest' _ a3 W3 Wa hke hla hda hp (fun _ h => by cases h)
        | ret => exact rest' _ a3 W3 Wa hke hla hda hp (fun _ h => by cases h)
        | exit id => exact rest' _ a3 W3 Wa hke hla hda hp (fun _ h => by cases h)
        | goto t => exact rest' _ a3 W3 Wa hke hla hda hp (fun _ h => by cases h)
        | outgrown => exact rest' _ a3 W3 Wa hke hla hda hp (fun _ h => by cases h)
    · rintro e W2 (⟨v, rfl, (⟨hi, hlr, hdr⟩ | ⟨c, hi, hlr, hdr⟩)⟩ | ⟨ch, rfl, hi, hdr⟩)
      · exact ⟨none, _, by have := run_endLoop (P := P) hlr (by rw [hrec]; simp); rw [hrec] at this; exact this, hdone _ (hI _ _ _ hi (Soft.put _ hlr rfl hl)) ((World.putObj_heap_other (by omega)).trans hdr)⟩
      · exact ⟨some c, _, by have := run_endLoop (P := P) hlr (by rw [hrec]; simp); rw [hrec] at this; exact this, hstop c _ (hIx _ _ _ hi (Soft.put _ hlr rfl hl)) ((World.putObj_heap_other (by omega)).trans hdr)⟩
      · exact hpanic ch _ hi hdr

end Go.Proofs.YtcpeeopdaakbaaaGreat

namespace Go.Proofs.YtcpeeopdaakbaaaGreat
open Go.RowKit Cx

theorem bring_any {M : Nat → Nat → Nat} {a b c : Nat} (hMe : M = Mo a b c) (ha : Lim a) (hb : Lim b) (hc : Lim c) (ob rb : Nat) (hor : ob ≠ rb) : ∀ (n x : Nat) (pre l : List Nat) (w : World),
    l.length ≤ n → 0 < l.length → x < 3 → (∀ y ∈ l, y < 3) → pre.length + l.length ≤ 140737488355328 → Red M l → SBlk w ob 272 (ordCells a b c) → SBlk w rb 5 (cellsB (pre ++ l)) →
    Calls Tryz.prog 216 #[.pointer (some ⟨ob, 0, none⟩), .int .u8 x, .slice (some ⟨rb, pre.length, none⟩) l.length l.length] w (RBring M x l pre rb w) := by
  have hM : Ords M := by rw [hMe]; exact Mo_ords ha hb hc
  intro n
  induction n with
  | zero => intro x pre l w h1 h2; omega
  | succ n ih =>
    intro x pre l w h1 h2 hx hlow hml hred ho hr
    cases l with
    | nil => simp at h2
    | cons f l =>
      have hf : f < 3 := hlow f (List.mem_cons_self)
      by_cases hne : f = x
      · subst hne
        exact bring_head M f rb _ pre l _ w hr
      · by_cases h0 : M f x = 0
        · exact bring_zero hM ob x f rb _ a b c hMe pre l w ho hr hx hf hne h0 hred
        · have h12 : M f x ≤ 12 := by
            have := Mo_lim ha hb hc f x
            rw [← hMe] at this
            rcases this with h | h <;> omega
          exact bring_row hM ob x f rb a b c n hMe pre l w ho hor hr hx hf hne h0 h12 hred hlow (by simpa using h1) (by simpa [Nat.add_assoc] using hml)
            (fun x' pre' v W hv hv0 hx' hlv hmv hrv hoW hrW => ih x' pre' v W hv hv0 hx' hlv hmv hrv hoW hrW)

/-- a word that is made: the letters l at the end of the room -/
structure MadeAt (w : World) (mb ob rb : Nat) (pre l : List Nat) : Prop where
  m : SBlk w mb 274 [.pointer (some ⟨ob, 0, none⟩), .slice (some ⟨rb, 0, none⟩) (pre.length + l.length) (pre.length + l.length), .int .i64 ((pre.length : Nat) : Int)]
  r : SBlk w rb 5 (cellsB (pre ++ l))

/-- where the letters begin -/
def ladr (rb : Nat) (pre l : List Nat) : Option Addr := if l.length = 0 then some ⟨rb, 0, none⟩ else some ⟨rb, pre.length, none⟩

set_option maxRecDepth 100000 in
set_option maxHeartbeats 1000000 in
theorem letters_any (mb ob rb : Nat) (pre l : List Nat) (w : World) (h : MadeAt w mb ob rb pre l) (_ : pre.length + l.length ≤ 140737488355328) :
    Calls Tryz.prog 192 #[.pointer (some ⟨mb, 0, none⟩)] w fun e w' => e = .returned (.slice (ladr rb pre l) l.length l.length) ∧ ∃ n, w' = w.drewN n := by
  have c1 := h.m.cell 1
  have c2 := h.m.cell 2
  simp only [List.getElem?_cons_succ, List.getElem?_cons_zero] at c1 c2
  have hfin : (if pre.length + l.length = pre.length then some (⟨rb, 0, none⟩ : Addr) else some ⟨rb, pre.length, none⟩) = ladr rb pre l := by
    unfold ladr
    by_cases e : l.length = 0
    · rw [if_pos e, if_pos (by omega)]
    · rw [if_neg e, if_neg (by omega)]
  have HF := Lib.hid hfin
  clear hfin h
  have j1 : (0 : Int) ≤ (pre.length : Int) := by omega
  have j2 : (pre.length : Int) ≤ (pre.length : Int) + (l.length : Int) := by omega
  go_enter Tryz.func192, Tryz.ntmps192
  go_wp2_with fail
  go_quiet (fail)
  go_wp2_with fail
  · go_ret
    exact ⟨rfl, _, rfl⟩
  · go_ret
    have hl : ¬ l = [] := by assumption
    have hl2 : ¬ pre.length + l.length = pre.length := by have := List.length_pos_iff.2 hl; omega
    refine ⟨?_, _, rfl⟩
    rw [← HF.out, if_neg hl2]
    rfl

/-- the bytes of a string -/
def bytesN (s : ByteArray) : List Nat := s.data.toList.map UInt8.toNat
theorem bytesN_length (s : ByteArray) : (bytesN s).length = s.size := by unfold bytesN; rw [List.length_map, Array.length_toList]; rfl
theorem bytesN_get (s : ByteArray) {k : Nat} (h : k < s.size) : (bytesN s)[k]? = some (s[k]).toNat := by
  have : k < s.data.toList.length := by simpa using h
  simp [bytesN, List.getElem?_eq_getElem this]
  rfl
theorem bytesN_lt (s : ByteArray) : ∀ x ∈ bytesN s, x < 256 := by
  intro x hx
  simp only [bytesN, List.mem_map] at hx
  obtain ⟨y, _, rfl⟩ := hx
  exact y.toNat_lt

/-- a letter as yield is handed it -/
def encB (x : Nat) : Array Value := #[.int .u8 x]

theorem yields {F : Fence} {m : Nat} {P : Program} {l : Nat} {args : Array Value} {W : World} {R : Ending → World → Prop} (h : YieldAt F m P l args W R) :
    ∃ fn tmps assign body, (Instr.yield l args).run P W = .ok (.round l fn tmps assign body) W ∧ RoundIn F m P l fn tmps assign body W R := h

/-- the place ahead of the k-th -/
def posI : Nat → Int
  | 0 => -1
  | k + 1 => (k : Int)
theorem posI_zero : posI 0 = -1 := rfl
theorem posI_succ (k : Nat) : posI (k + 1) = (k : Int) := rfl
theorem posI_sub (k : Nat) : (k : Int) - 1 = posI k := by
  cases k with
  | zero => rfl
  | succ k => simp [posI]

theorem rev_split (s : ByteArray) {k : Nat} (h : k < s.size) : (bytesN s).reverse = (bytesN s).reverse.take (s.size - (k + 1)) ++ (s[k]).toNat :: (bytesN s).reverse.drop (s.size - k) := by
  have hl := bytesN_length s
  have h1 : s.size - (k + 1) < (bytesN s).reverse.length := by simp [hl]; omega
  have h2 : (bytesN s).reverse[s.size - (k + 1)] = (s[k]).toNat := by
    have := bytesN_get s h
    rw [List.getElem?_eq_getElem (by omega)] at this
    injection this with this
    rw [List.getElem_reverse, ← this]
    congr 1
    omega
  have h3 := List.take_append_drop (s.size - (k + 1)) (bytesN s).reverse
  rw [List.drop_eq_getElem_cons h1, h2, show s.size - (k + 1) + 1 = s.size - k by omega] at h3
  exact h3.symm
theorem rev_take (s : ByteArray) {k : Nat} (h : k < s.size) : (bytesN s).reverse.take (s.size - k) = (bytesN s).reverse.take (s.size - (k + 1)) ++ [(s[k]).toNat] := by
  have h1 := rev_split s h
  have h2 : (bytesN s).reverse.take (s.size - k) = ((bytesN s).reverse.take (s.size - (k + 1)) ++ (s[k]).toNat :: (bytesN s).reverse.drop (s.size - k)).take (s.size - k) := by rw [← h1]
  have h4 : ((bytesN s).reverse.take (s.size - (k + 1))).length = s.size - (k + 1) := by simp [bytesN_length]
  rw [h2, List.take_append, h4, show s.size - k - (s.size - (k + 1)) = 1 by omega, List.take_of_length_le (by omega), List.take_succ_cons, List.take_zero]

set_option maxRecDepth 100000 in
set_option maxHeartbeats 2000000 in
theorem backward_iter (F : Fence) (hF : F.fn 217) (hro : F.round = none) (hdep : F.depth = none) (cb : Nat) (s : ByteArray) (hs : s.size ≤ 140737488355328) (S : Nat → Prop) (hS : ¬ S cb) (w : World) (hw : SBlk w cb 9 [.string s]) :
    IterL F Tryz.prog 217 #[.pointer (some ⟨cb, 0, none⟩)] encB S (bytesN s).reverse w := by
  intro l J Jx Jp W hW hJ hY hj0
  have hb := (hw.but hW hS)
  have c0 := hb.cell 0
  simp only [List.getElem?_cons_zero] at c0
  have hlen := bytesN_length s
  have hps := posI_sub s.size
  have HB := Lib.hid (And.intro hb (And.intro hlen hps))
  clear hb hw hW hlen hps
  refine callsIn_of_wp Tryz.func217 rfl hF ?_ hro
  simp only [Tryz.ntmps217, List.size_toArray, List.length_cons, List.length_nil, Nat.reduceAdd, Nat.reduceSub, Array.replicate_succ, Array.replicate_zero, List.push_toArray, List.append_toArray, List.nil_append, List.cons_append]
  gi_wp2_with fail
  rw [HB.out.2.2]
  gi_loopg [3] s.size (fun g i wr => ∃ k, k ≤ s.size ∧ g = k + 0 ∧ i = .int .i64 (posI k) ∧ SBlk wr cb 9 [.string s] ∧ J ((bytesN s).reverse.take (s.size - k)) wr)
  case atStart => exact ⟨s.size, Nat.le_refl _, rfl, rfl, HB.out.1, by simpa using hj0⟩
  case round =>
    obtain ⟨k, hk, hg, rfl, hbw, hj⟩ := hrel
    have HG := Lib.hid hg
    clear hg
    cases k with
    | zero =>
      have hj2 : J (bytesN s).reverse wr := by
        rw [Nat.sub_zero, List.take_of_length_le (by simp [bytesN_length])] at hj
        exact hj
      have HJ := Lib.hid hj2
      clear hj hj2 hbw
      simp only [posI_zero]
      gi_wp2_with fail
      go_end0
      exact .inl ⟨_, rfl, .inl HJ.out⟩
    | succ k =>
      have hk2 : k < s.size := by omega
      have c1 := hbw.cell 0
      simp only [List.getElem?_cons_zero] at c1
      obtain ⟨fn, tmps, assign, body, hy, hR⟩ := yields (hY _ _ _ wr (rev_split s hk2) hj)
      have HX := Lib.hid (And.intro hbw (rev_take s hk2))
      clear hj hbw
      have j1 : (0 : Int) ≤ (k : Int) := by omega
      have j2 : (k : Int) < (s.size : Int) := by omega
      simp only [posI_succ]
      unfold encB at hy
      gi_wp2_with fail
      refine hR.mono ?_
      rintro e W4 (⟨rfl, hj2, hk2⟩ | ⟨rfl, hj2⟩ | ⟨ch, rfl, hj2⟩)
      · have HK := Lib.hid (And.intro hj2 hk2)
        clear hj2 hk2
        have hps := posI_sub k
        gi_wp2_with fail
        gi_roundg (k + 0)
        case measure => have := HG.out; omega
        case rel =>
          obtain ⟨hj2, hk2⟩ := HK.out
          exact ⟨k, by omega, rfl, rfl, HX.out.1.but hk2 hS, by rw [HX.out.2]; exact hj2⟩
      · gi_wp2_with fail
        refine bodyPost_ret (results_none rfl _ _ _) rfl ?_
        exact .inl ⟨_, rfl, .inr hj2⟩
      · dsimp only
        exact And.intro rfl (Or.inr ⟨ch, rfl, hj2⟩)

theorem fwd_split (s : ByteArray) {k : Nat} (h : k < s.size) : bytesN s = (bytesN s).take k ++ (s[k]).toNat :: (bytesN s).drop (k + 1) := by
  have hl := bytesN_length s
  have h1 : k < (bytesN s).length := by omega
  have h2 : (bytesN s)[k] = (s[k]).toNat := by
    have := bytesN_get s h
    rw [List.getElem?_eq_getElem h1] at this
    injection this
  have h3 := List.take_append_drop k (bytesN s)
  rw [List.drop_eq_getElem_cons h1, h2] at h3
  exact h3.symm
theorem fwd_take (s : ByteArray) {k : Nat} (h : k < s.size) : (bytesN s).take (k + 1) = (bytesN s).take k ++ [(s[k]).toNat] := by
  rw [List.take_add_one, bytesN_get s h]; rfl

set_option maxRecDepth 100000 in
set_option maxHeartbeats 2000000 in
theorem forward_iter (F : Fence) (hF : F.fn 222) (hro : F.round = none) (hdep : F.depth = none) (cb : Nat) (s : ByteArray) (hs : s.size ≤ 9223372036854775807) (S : Nat → Prop) (hS : ¬ S cb) (w : World) (hw : SBlk w cb 9 [.string s]) :
    IterL F Tryz.prog 222 #[.pointer (some ⟨cb, 0, none⟩)] encB S (bytesN s) w := by
  intro l J Jx Jp W hW hJ hY hj0
  have hb := (hw.but hW hS)
  have c0 := hb.cell 0
  simp only [List.getElem?_cons_zero] at c0
  have hlen := bytesN_length s
  have HB := Lib.hid (And.intro hb hlen)
  clear hb hw hW hlen
  refine callsIn_of_wp Tryz.func222 rfl hF ?_ hro
  simp only [Tryz.ntmps222, List.size_toArray, List.length_cons, List.length_nil, Nat.reduceAdd, Nat.reduceSub, Array.replicate_succ, Array.replicate_zero, List.push_toArray, List.append_toArray, List.nil_append, List.cons_append]
  gi_wp2_with fail
  gi_loopg [6] s.size (fun g i wr => ∃ k : Nat, k ≤ s.size ∧ g = s.size - k ∧ i = .int .i64 (k : Int) ∧ SBlk wr cb 9 [.string s] ∧ J ((bytesN s).take k) wr)
  case atStart => exact ⟨0, Nat.zero_le _, rfl, rfl, HB.out.1, by simpa using hj0⟩
  case round =>
    obtain ⟨k, hk, hg, rfl, hbw, hj⟩ := hrel
    have HG := Lib.hid hg
    clear hg
    by_cases hk2 : k < s.size
    · have c1 := hbw.cell 0
      simp only [List.getElem?_cons_zero] at c1
      obtain ⟨fn, tmps, assign, body, hy, hR⟩ := yields (hY _ _ _ wr (fwd_split s hk2) hj)
      have HX := Lib.hid (And.intro hbw (fwd_take s hk2))
      clear hj hbw
      have j1 : (0 : Int) ≤ (k : Int) := by omega
      have j2 : (k : Int) < (s.size : Int) := by omega
      unfold encB at hy
      gi_wp2_with fail
      refine hR.mono ?_
      rintro e W4 (⟨rfl, hj2, hk2⟩ | ⟨rfl, hj2⟩ | ⟨ch, rfl, hj2⟩)
      · have HK := Lib.hid (And.intro hj2 hk2)
        clear hj2 hk2
        gi_wp2_with fail
        gi_roundg (s.size - (k + 1))
        case measure => have := HG.out; omega
        case rel =>
          obtain ⟨hj2, hk2⟩ := HK.out
          exact ⟨k + 1, by omega, rfl, by simp, HX.out.1.but hk2 hS, by rw [HX.out.2]; exact hj2⟩
      · gi_wp2_with fail
        refine bodyPost_ret (results_none rfl _ _ _) rfl ?_
        exact .inl ⟨_, rfl, .inr hj2⟩
      · dsimp only
        exact And.intro rfl (Or.inr ⟨ch, rfl, hj2⟩)
    · have hj2 : J (bytesN s) wr := by
        rw [List.take_of_length_le (by rw [bytesN_length]; omega)] at hj
        exact hj
      have HJ := Lib.hid hj2
      clear hj hj2 hbw
      gi_wp2_with fail
      go_end0
      exact .inl ⟨_, rfl, .inl HJ.out⟩

theorem makeFunc_run (fn : Fn) (first cap : Array Value) (w : World) : (Instr.makeFunc fn first cap).run Tryz.prog w = .ok (.func fn first cap) w := rfl

set_option maxRecDepth 100000 in
theorem backward_in (F : Fence) (hF : F.fn 191) (hro : F.round = none) (s : ByteArray) (w : World) :
    CallsIn F 0 Tryz.prog 191 #[.string s] w fun e w' => e = .returned (.func (.func 217) #[] #[.pointer (some ⟨w.heap.size, 0, none⟩)]) ∧ w' = w.alloc (.cells #[.string s] 9) := by
  have hmf := makeFunc_run
  refine callsIn_of_wp Tryz.func191 rfl hF ?_ hro
  simp only [Tryz.ntmps191, List.size_toArray, List.length_cons, List.length_nil, Nat.reduceAdd, Nat.reduceSub, Array.replicate_succ, Array.replicate_zero, List.push_toArray, List.append_toArray, List.nil_append, List.cons_append]
  gi_wp2_with fail
  go_ret
  exact ⟨rfl, rfl⟩

set_option maxRecDepth 100000 in
theorem forward_in (F : Fence) (hF : F.fn 205) (hro : F.round = none) (s : ByteArray) (w : World) :
    CallsIn F 0 Tryz.prog 205 #[.string s] w fun e w' => e = .returned (.func (.func 222) #[] #[.pointer (some ⟨w.heap.size, 0, none⟩)]) ∧ w' = w.alloc (.cells #[.string s] 9) := by
  have hmf := makeFunc_run
  refine callsIn_of_wp Tryz.func205 rfl hF ?_ hro
  simp only [Tryz.ntmps205, List.size_toArray, List.length_cons, List.length_nil, Nat.reduceAdd, Nat.reduceSub, Array.replicate_succ, Array.replicate_zero, List.push_toArray, List.append_toArray, List.nil_append, List.cons_append]
  gi_wp2_with fail
  go_ret
  exact ⟨rfl, rfl⟩
end Go.Proofs.YtcpeeopdaakbaaaGreat

namespace Go.Proofs.YtcpeeopdaakbaaaGreat
open Go.RowKit

/-- no deferring statement -/
def NoDefer (ops : Array Oper) : Prop := ∀ (i : Nat) (o : Oper), ops[i]? = some o → ∀ c, o.op ≠ .defer c

/-- the same, to be reckoned -/
def noDeferB (ops : List Oper) : Bool := ops.all fun o => match o.op with | .defer _ => false | _ => true
theorem noDefer_of {ops : List Oper} (h : noDeferB ops = true) : NoDefer ops.toArray := by
  intro i o hi c hc
  have hm : o ∈ ops := by
    rw [List.getElem?_toArray] at hi
    exact List.mem_of_getElem? hi
  have := List.all_eq_true.1 h o hm
  rw [hc] at this
  cases this

theorem opIn_round {P : Program} {l n : Nat} {o : Oper} {a : Act} {w : World} {K : Act → World → Prop} {Q : Exit → Act → World → Prop} (hnd : ∀ c, o.op ≠ .defer c)
    (h : o.wp P a w K Q) : o.wpIn (Fence.wide.inRound l) n P a w K Q := by
  refine ⟨fun _ _ => trivial, ?_⟩
  have e : o.semAt (Fence.wide.inRound l).round a.eval = execOp a.eval o := Oper.semAt_eq _ _ _ hnd
  rw [e]
  unfold Oper.wp at h
  generalize (execOp a.eval o).run P w = r at *
  cases r with
  | ok x w' =>
    cases x with
    | value v => exact h
    | skip => exact h
    | defer d => exact h
    | enter f args => exact ⟨fun h => (by cases h), CallsIn.inRound l (callsIn_wide.2 h)⟩
    | row row args =>
      refine ⟨fun h => (by cases h), fun c cs _ => ?_⟩
      obtain ⟨v, w'', hr, hs⟩ := h c cs
      exact ⟨v, w'', hr, stepsIn_wide.2 hs⟩
    | _ => exact h.elim
  | halt x w' =>
    cases x with
    | panic v => exact h
    | _ => exact h.elim

theorem anyIn_round {P : Program} {md : Region.Mode} {l n : Nat} {ops : Array Oper} {Q : Exit → Act → World → Prop} (hnd : NoDefer ops) (hQ : ¬ LetsOut Q) : ∀ (fuel : Nat) (listed : Array Bool) (a : Act) (w : World),
    wpAny P md ops Q fuel listed a w → wpAnyIn (Fence.wide.inRound l) n P md ops Q fuel listed a w := by
  intro fuel
  induction fuel with
  | zero => intro listed a w h; exact h
  | succ fuel ih =>
    intro listed a w h
    refine ⟨h.1, fun i hi => ?_⟩
    have h2 := h.2 i hi
    unfold wpOp at h2
    unfold wpOpIn
    cases ho : ops[i]? with
    | none => rw [ho] at h2; exact ih _ _ _ h2
    | some o =>
      rw [ho] at h2
      simp only at h2 ⊢
      by_cases hw : Region.wanted o (yielded ops a.tmps) = true
      · rw [if_pos hw] at h2 ⊢
        rcases h2 with h2 | h2
        · exact Oper.wpIn_mono (fun a w h => ih _ _ _ h) (opIn_round (hnd i o ho) h2)
        · exact absurd h2.2 hQ
      · rw [if_neg hw] at h2 ⊢
        exact ⟨fun _ _ => trivial, ih _ _ _ h2⟩

theorem tail_round {P : Program} {id l m : Nat} {Q : Exit → Act → World → Prop} {a : Act} {w : World} {ops : List Oper} (n : Nat) (hm : P.follows .mixedOrders = true) (hB : Region.lexTailB .any ops.toArray n = true)
    (hnd : NoDefer ops.toArray) (hQ : ¬ LetsOut Q)
    (h : wpStill P ops.toArray w.drew (fun a' => wpList P ops.toArray Q (ops.drop n) a' w.drew) (ops.take n) a) : (Code.region id ops.toArray true).wpIn (Fence.wide.inRound l) m P Q a w := by
  simp only [Region.lexTailB, Bool.and_eq_true, decide_eq_true_eq] at hB
  obtain ⟨⟨⟨⟨b1, b2⟩, b3⟩, b4⟩, b5⟩ := hB
  have c1 : (ops.take n).length = n := by have : n < ops.length := by simpa using b2
                                          simp; omega
  have c2 : (ops.drop n).length = ops.toArray.size - n := by simp
  have head := wpAnyL_lex (md := .any) (g := ops.toArray.size - n) b1 b3 b4 b2 (ops.take n) 0 (Array.replicate ops.toArray.size false) a
    (fun j hj => by
      have : j < n := by rw [c1] at hj; exact hj
      simp [this])
    (by simpa using c1)
    ⟨by simp, fun j oj _ hl => (by rw [getD_replicate_false] at hl; cases hl), fun t _ ht => getD_in (by simpa using ht) (getD_replicate_false _ _)⟩
    (by rw [c1]; exact b5) h
  have all := wpAny_of_head (Q' := Q) (g := ops.toArray.size - n) (fun listed a' hL => by
    have t := wpAny_of_seq (md := .any) (Q' := Q) (ops.drop n) n listed a' w.drew (fun j => by simp [List.getElem?_drop]) (by rw [c2]; exact hL.1) hL.2
    rwa [c2] at t) _ _ _ head
  rw [c1, show n + (ops.toArray.size - n) = ops.toArray.size by omega] at all
  exact wpIn_region_any hm (anyIn_round hnd hQ _ _ _ _ all)

end Go.Proofs.YtcpeeopdaakbaaaGreat
