/- What memory holds: letters, orders, words that are made. -/
import Derived.Test.YtogchohpnbeldaaChecked
import Derived.Test.YtogchohpnbeldaaCox3
import Derived.WalkKit
import Derived.WalkSpells
import Derived.WalkLawsBesides
import Derived.Deep.Draws
import Derived.Laws.Rows
import Derived.Deep.OwnRows
import Derived.Deep.QuietTactic
import Derived.BigQuiet
import Derived.BigRegion
import Derived.Outline
import Derived.Lib.Hide
import Derived.RegionTactic
import Derived.Deep.RegionHeld3
import Derived.Deep.RegionLaw
import Derived.Deep.RegionWith
import Derived.Deep.LoopGhost
import Derived.Deep.Cut
import Derived.Deep.CutRange
import Derived.Recover
import Derived.OwnWalk
import Derived.Laws.CopyOwn
namespace Go.Proofs.Ytogchohpnbeldaa
open Go.RowKit Cx

/-- block b is just these cells, none of them frozen -/
def SBlk (w : World) (b : Nat) (T : TypeId) (cs : List Value) : Prop := w.heap[b]? = some (.cells cs.toArray T (0, 0))

section
variable {w w' : World} {b : Nat} {T : TypeId} {cs : List Value}
theorem SBlk.lt (h : SBlk w b T cs) : b < w.heap.size := by
  rcases Nat.lt_or_ge b w.heap.size with hlt | hge
  · exact hlt
  · unfold SBlk at h; rw [Array.getElem?_eq_none hge] at h; cases h
theorem SBlk.cell (h : SBlk w b T cs) (i : Nat) : w.cell? ⟨b, i, none⟩ = cs[i]? := by
  unfold SBlk at h
  simp [World.cell?, h]
theorem SBlk.frozen (h : SBlk w b T cs) (i : Nat) : w.frozen? ⟨b, i, none⟩ = false := by
  unfold SBlk at h
  simp [World.frozen?, h]
theorem SBlk.set (h : SBlk w b T cs) (i : Nat) (v : Value) : SBlk (w.setCell ⟨b, i, none⟩ v) b T (cs.set i v) := by
  unfold SBlk at h ⊢
  simp [World.setCell, Array.getElem?_modify, h]
theorem SBlk.far (h : SBlk w b T cs) {p : Addr} (hp : b ≠ p.block) (v : Value) : SBlk (w.setCell p v) b T cs := (Below.heap_setCell w p v b hp).trans h
theorem SBlk.below {B : Nat} (h : SBlk w b T cs) (hb : Below B w w') (hB : b < B) : SBlk w' b T cs := (hb.block b hB).trans h
theorem SBlk.alloc (h : SBlk w b T cs) (o : Obj) : SBlk (w.alloc o) b T cs := (Below.heap_alloc w o b h.lt).trans h
theorem SBlk.drewN (h : SBlk w b T cs) (n : Nat) : SBlk (w.drewN n) b T cs := h
theorem SBlk.drew (h : SBlk w b T cs) : SBlk w.drew b T cs := h
theorem SBlk.new (w : World) (T : TypeId) (cs : List Value) : SBlk (w.alloc (.cells cs.toArray T)) w.heap.size T cs := heap_alloc_new w _
theorem SBlk.new' (w : World) (T : TypeId) (cs : List Value) (k : Nat) (hk : w.heap.size = k) : SBlk (w.alloc (.cells cs.toArray T)) k T cs := by subst hk; exact SBlk.new w T cs
theorem SBlk.grown {r : Option Nat} (h : SBlk w b T cs) (hg : w.grownBy w' r) (hne : some b ≠ r) : SBlk w' b T cs := (hg.block b h.lt hne).trans h
end

/-! the frame of a call that writes to one block alone -/
theorem only_refl (w : World) (r : Option Nat) : w.grownBy w r := World.grownBy.refl w r
theorem only_drewN {a w : World} {r : Option Nat} (h : a.grownBy w r) (n : Nat) : a.grownBy (w.drewN n) r := ⟨h.os, h.tape, h.output, h.size, h.block⟩
theorem only_drew {a w : World} {r : Option Nat} (h : a.grownBy w r) : a.grownBy w.drew r := ⟨h.os, h.tape, h.output, h.size, h.block⟩
theorem only_setCell {a w : World} {g : Nat} (h : a.grownBy w (some g)) (o : Nat) (u : Value) : a.grownBy (w.setCell ⟨g, o, none⟩ u) (some g) :=
  ⟨h.os, h.tape, h.output, by simpa [World.setCell] using h.size, fun i hi hne => (Below.heap_setCell w ⟨g, o, none⟩ u i (by rintro rfl; exact hne rfl)).trans (h.block i hi hne)⟩
theorem only_below {a w w' : World} {r : Option Nat} (h : a.grownBy w r) (hb : Below w.heap.size w w') : a.grownBy w' r :=
  ⟨hb.os.trans h.os, hb.tape.trans h.tape, hb.output.trans h.output, Nat.le_trans h.size hb.size, fun i hi hne => (hb.block i (Nat.lt_of_lt_of_le hi h.size)).trans (h.block i hi hne)⟩
theorem only_trans {a w w' : World} {r : Option Nat} (h : a.grownBy w r) (k : w.grownBy w' r) : a.grownBy w' r :=
  ⟨k.os.trans h.os, k.tape.trans h.tape, k.output.trans h.output, Nat.le_trans h.size k.size, fun i hi hne => (k.block i (Nat.lt_of_lt_of_le hi h.size) hne).trans (h.block i hi hne)⟩
theorem below_only {B : Nat} {a w w' : World} {g : Nat} (h : Below B a w) (k : w.grownBy w' (some g)) (hg : B ≤ g) (hB : B ≤ w.heap.size) : Below B a w' :=
  ⟨k.os.trans h.os, k.tape.trans h.tape, k.output.trans h.output, Nat.le_trans h.size k.size, fun i hi => (k.block i (Nat.lt_of_lt_of_le hi hB) (by intro e; cases e; omega)).trans (h.block i hi)⟩

/-! letters -/
def cellsB (l : List Nat) : List Value := l.map (fun (x : Nat) => .int .u8 (x : Int))
theorem cellsB_length (l : List Nat) : (cellsB l).length = l.length := by simp [cellsB]
theorem cellsB_append (l k : List Nat) : cellsB (l ++ k) = cellsB l ++ cellsB k := by simp [cellsB]
theorem cellsB_set (l : List Nat) (i x : Nat) : cellsB (l.set i x) = (cellsB l).set i (.int .u8 (x : Int)) := by simp [cellsB, List.map_set]
theorem cellsB_get {l : List Nat} {i x : Nat} (h : l[i]? = some x) : (cellsB l)[i]? = some (.int .u8 (x : Int)) := by simp [cellsB, h]

/-- a word as bytes -/
def str (l : List Nat) : ByteArray := ⟨(l.map UInt8.ofNat).toArray⟩
theorem str_size (l : List Nat) : (str l).size = l.length := by simp [str, ByteArray.size]

/-- the orders of a triangle by its three -/
def Mo (a b c : Nat) : Nat → Nat → Nat
  | 0, 1 => a
  | 1, 0 => a
  | 1, 2 => b
  | 2, 1 => b
  | 0, 2 => c
  | 2, 0 => c
  | _, _ => 0

theorem Mo_symm (a b c i j : Nat) : Mo a b c i j = Mo a b c j i := by
  rcases i with _ | _ | _ | i <;> rcases j with _ | _ | _ | j <;> rfl

/-- an order that is allowed -/
def Lim (m : Nat) : Prop := m = 0 ∨ (2 ≤ m ∧ m ≤ 12)

theorem Mo_lim {a b c : Nat} (ha : Lim a) (hb : Lim b) (hc : Lim c) (i j : Nat) : Lim (Mo a b c i j) := by
  rcases i with _ | _ | _ | i <;> rcases j with _ | _ | _ | j <;> first | assumption | exact .inl rfl

theorem Mo_ords {a b c : Nat} (ha : Lim a) (hb : Lim b) (hc : Lim c) : Ords (Mo a b c) := ⟨Mo_symm a b c, fun i j _ => Mo_lim ha hb hc i j⟩

/-- the row of two letters -/
def rowS (a b c i j : Nat) : Value := .string (str (alt i j (Mo a b c i j)))

/-- orders in memory -/
def ordCells (a b c : Nat) : List Value :=
  [.int .i64 a, .int .i64 b, .int .i64 c, rowS a b c 0 0, rowS a b c 0 1, rowS a b c 0 2, rowS a b c 1 0, rowS a b c 1 1, rowS a b c 1 2, rowS a b c 2 0, rowS a b c 2 1, rowS a b c 2 2]

theorem ordCells_row (a b c : Nat) {i j : Nat} (hi : i < 3) (hj : j < 3) : (ordCells a b c)[3 + i * 3 + j]? = some (rowS a b c i j) := by
  rcases i with _ | _ | _ | i
  all_goals (try omega)
  all_goals rcases j with _ | _ | _ | j
  all_goals (try omega)
  all_goals rfl

end Go.Proofs.Ytogchohpnbeldaa
