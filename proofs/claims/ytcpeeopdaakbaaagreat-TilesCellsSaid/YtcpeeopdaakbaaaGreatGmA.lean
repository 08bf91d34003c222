/- The graph of tiles in memory. The tile over a side: the walk. -/
import Derived.Test.YtcpeeopdaakbaaaGreatVG
import Derived.Test.YtcpeeopdaakbaaaGreatZf
import Derived.Laws.AppendOwn
import Derived.Lib.AppendZeros
import Derived.Test.YtcpeeopdaakbaaaGreatTorY
namespace Go.Proofs.YtcpeeopdaakbaaaGreat
open Go.RowKit Go.Shelf Cx

theorem str_join (l k : List Nat) : str l ++ str k = str (l ++ k) := by
  apply ByteArray.ext
  simp [str, ByteArray.data_append]

theorem step_append_run {P : Program} {w : World} {ops : Array Oper} {o : Oper} {a : Act} {K : Act → World → Prop} {Q : Exit → Act → World → Prop} {E : Prop} (hgd : o.guard = none) (s x : Operand) (t tn : TypeId)
    (ho : o.op = .call { callee := .builtin .append, args := #[s, x], argTypes := #[t, tn] }) (vs vx : Value) (hs : a.eval s = vs) (hx : a.eval x = vx)
    (v' : Value) (w' : World) (hr : (Builtin.append_ #[t, tn] o.type #[vs, vx]).run P w = .ok v' w') (h : K (a.put o.dst v') w') :
    if Region.wanted o (yielded ops a.tmps) = true then Oper.wp P o a w K Q else E := by
  have hw : Region.wanted o (yielded ops a.tmps) = true := by simp [Region.wanted, hgd]
  rw [if_pos hw]
  exact Lib.wp_append_run w s x t tn ho vs vx hs hx v' w' hr h

/-- a node's cells -/
def nodeC (a : Nd) : List Value := .int .i64 a.len :: (a.to.map (Value.int .i64) ++ (a.down.map Value.bool ++ [.string (str a.word)]))
def cellsG (ns : List Nd) : List Value := ns.flatMap nodeC

def Shp (ns : List Nd) : Prop := ∀ i, i < ns.length → (nd ns i).to.length = 3 ∧ (nd ns i).down.length = 3

theorem nodeC_length {a : Nd} (h : a.to.length = 3 ∧ a.down.length = 3) : (nodeC a).length = 8 := by simp [nodeC, h.1, h.2]

theorem Shp.tail {a : Nd} {ns : List Nd} (h : Shp (a :: ns)) : (a.to.length = 3 ∧ a.down.length = 3) ∧ Shp ns := by
  refine ⟨?_, fun i hi => ?_⟩
  · have := h 0 (by simp)
    exact this
  · have := h (i + 1) (by simp; omega)
    exact this

theorem cellsG_length {ns : List Nd} : Shp ns → (cellsG ns).length = ns.length * 8 := by
  induction ns with
  | nil => intro _; rfl
  | cons a ns ih =>
    intro h
    have h2 := h.tail
    show (nodeC a ++ cellsG ns).length = _
    rw [List.length_append, nodeC_length h2.1, ih h2.2, List.length_cons]
    omega

theorem cellsG_get {ns : List Nd} : Shp ns → ∀ {i j : Nat}, i < ns.length → j < 8 → (cellsG ns)[i * 8 + j]? = (nodeC (nd ns i))[j]? := by
  induction ns with
  | nil => intro _ i j h; simp at h
  | cons a ns ih =>
    intro h i j hi hj
    have h2 := h.tail
    show (nodeC a ++ cellsG ns)[i * 8 + j]? = _
    cases i with
    | zero =>
      rw [List.getElem?_append_left (by rw [nodeC_length h2.1]; omega), Nat.zero_mul, Nat.zero_add]; rfl
    | succ i =>
      rw [List.getElem?_append_right (by rw [nodeC_length h2.1]; omega), nodeC_length h2.1, show (i + 1) * 8 + j - 8 = i * 8 + j by omega]
      exact ih h2.2 (by simpa using hi) hj

theorem cellsG_set {ns : List Nd} : Shp ns → ∀ {i j : Nat} {a' : Nd} {v : Value}, i < ns.length → j < 8 → nodeC a' = (nodeC (nd ns i)).set j v → (cellsG ns).set (i * 8 + j) v = cellsG (ns.set i a') := by
  induction ns with
  | nil => intro _ i j a' v h; simp at h
  | cons a ns ih =>
    intro h i j a' v hi hj he
    have h2 := h.tail
    show (nodeC a ++ cellsG ns).set (i * 8 + j) v = _
    cases i with
    | zero =>
      rw [List.set_append_left _ _ (by rw [nodeC_length h2.1]; omega), Nat.zero_mul, Nat.zero_add]
      show _ = nodeC a' ++ cellsG ns
      rw [he]; rfl
    | succ i =>
      rw [List.set_append_right _ _ (by rw [nodeC_length h2.1]; omega), nodeC_length h2.1, show (i + 1) * 8 + j - 8 = i * 8 + j by omega, ih h2.2 (by simpa using hi) hj he]
      rfl

theorem nodeC_len (a : Nd) : (nodeC a)[0]? = some (.int .i64 a.len) := rfl
theorem nodeC_to {a : Nd} (h : a.to.length = 3 ∧ a.down.length = 3) {s : Nat} (hs : s < 3) : (nodeC a)[1 + s]? = some (.int .i64 (tb a s)) := by
  unfold nodeC tb
  rw [Nat.add_comm 1 s, List.getElem?_cons_succ, List.getElem?_append_left (by simp [h.1]; exact hs), List.getElem?_map, List.getD_eq_getElem?_getD, List.getElem?_eq_getElem (by rw [h.1]; exact hs)]
  rfl
theorem nodeC_down {a : Nd} (h : a.to.length = 3 ∧ a.down.length = 3) {s : Nat} (hs : s < 3) : (nodeC a)[4 + s]? = some (.bool (db a s)) := by
  unfold nodeC db
  rw [show 4 + s = (3 + s) + 1 by omega, List.getElem?_cons_succ, List.getElem?_append_right (by simp [h.1]), List.getElem?_append_left (by simp [h.1, h.2]; exact hs), List.length_map, h.1, Nat.add_sub_cancel_left, List.getElem?_map, List.getD_eq_getElem?_getD, List.getElem?_eq_getElem (by rw [h.2]; exact hs)]
  rfl
theorem nodeC_word {a : Nd} (h : a.to.length = 3 ∧ a.down.length = 3) : (nodeC a)[7]? = some (.string (str a.word)) := by
  unfold nodeC
  rw [List.getElem?_cons_succ, List.getElem?_append_right (by simp [h.1]), List.getElem?_append_right (by simp [h.1, h.2])]
  simp [h.1, h.2]

theorem nodeC_setTo {a : Nd} (h : a.to.length = 3 ∧ a.down.length = 3) {s : Nat} (hs : s < 3) (v : Int) : nodeC { a with «to» := a.to.set s v } = (nodeC a).set (1 + s) (.int .i64 v) := by
  unfold nodeC
  rw [Nat.add_comm 1 s, List.set_cons_succ, List.set_append_left _ _ (by simp [h.1]; exact hs), List.map_set]
theorem nodeC_setDown {a : Nd} (h : a.to.length = 3 ∧ a.down.length = 3) {s : Nat} (hs : s < 3) (v : Bool) : nodeC { a with down := a.down.set s v } = (nodeC a).set (4 + s) (.bool v) := by
  unfold nodeC
  rw [show 4 + s = (3 + s) + 1 by omega, List.set_cons_succ, List.set_append_right _ _ (by simp [h.1]), List.set_append_left _ _ (by simp [h.1, h.2]; exact hs), List.length_map, h.1, Nat.add_sub_cancel_left, List.map_set]
theorem nodeC_setWord {a : Nd} (h : a.to.length = 3 ∧ a.down.length = 3) (l : List Nat) : nodeC { a with word := l } = (nodeC a).set 7 (.string (str l)) := by
  unfold nodeC
  rw [List.set_cons_succ, List.set_append_right _ _ (by simp [h.1]), List.set_append_right _ _ (by simp [h.1, h.2])]
  simp [h.1, h.2]

/-- the graph in memory -/
structure GAt (w : World) (gb nb cap : Nat) (a b c : Nat) (ns : List Nd) (rest : List Value) : Prop where
  g : SBlk w gb 122 [.int .i64 a, .int .i64 b, .int .i64 c, .slice (some ⟨nb, 0, none⟩) ns.length cap]
  n : SBlk w nb 126 (cellsG ns ++ rest)
  shp : Shp ns
  le : ns.length ≤ cap
  room : rest.length = (cap - ns.length) * 8
  cm : cap ≤ Go.maxLen
  ne : gb ≠ nb

section
variable {w w' : World} {gb nb cap a b c : Nat} {ns : List Nd} {rest : List Value}

theorem GAt.cell (h : GAt w gb nb cap a b c ns rest) {i j : Nat} (hi : i < ns.length) (hj : j < 8) : w.cell? ⟨nb, i * 8 + j, none⟩ = (nodeC (nd ns i))[j]? := by
  rw [h.n.cell, List.getElem?_append_left (by rw [cellsG_length h.shp]; omega)]
  exact cellsG_get h.shp hi hj
theorem GAt.rlen (h : GAt w gb nb cap a b c ns rest) {i : Nat} (hi : i < ns.length) : w.cell? ⟨nb, i * 8, none⟩ = some (.int .i64 (nd ns i).len) := h.cell (j := 0) hi (by omega)
theorem GAt.rto (h : GAt w gb nb cap a b c ns rest) {i s : Nat} (hi : i < ns.length) (hs : s < 3) : w.cell? ⟨nb, i * 8 + 1 + s, none⟩ = some (.int .i64 (tb (nd ns i) s)) := by
  rw [Nat.add_assoc, h.cell hi (by omega), nodeC_to (h.shp i hi) hs]
theorem GAt.rdown (h : GAt w gb nb cap a b c ns rest) {i s : Nat} (hi : i < ns.length) (hs : s < 3) : w.cell? ⟨nb, i * 8 + 4 + s, none⟩ = some (.bool (db (nd ns i) s)) := by
  rw [Nat.add_assoc, h.cell hi (by omega), nodeC_down (h.shp i hi) hs]
theorem GAt.rword (h : GAt w gb nb cap a b c ns rest) {i : Nat} (hi : i < ns.length) : w.cell? ⟨nb, i * 8 + 7, none⟩ = some (.string (str (nd ns i).word)) := by
  rw [h.cell hi (by omega), nodeC_word (h.shp i hi)]

theorem shp_set {ns : List Nd} (h : Shp ns) {i : Nat} (hi : i < ns.length) {x : Nd} (hx : x.to.length = 3 ∧ x.down.length = 3) : Shp (ns.set i x) := by
  intro j hj
  rw [List.length_set] at hj
  rw [nd_set hi]
  split
  · exact hx
  · exact h j hj

theorem GAt.set (h : GAt w gb nb cap a b c ns rest) {i j : Nat} {x : Nd} {v : Value} (hi : i < ns.length) (hj : j < 8) (hx : x.to.length = 3 ∧ x.down.length = 3) (he : nodeC x = (nodeC (nd ns i)).set j v) :
    GAt (w.setCell ⟨nb, i * 8 + j, none⟩ v) gb nb cap a b c (ns.set i x) rest := by
  refine ⟨?_, ?_, shp_set h.shp hi hx, by rw [List.length_set]; exact h.le, by rw [List.length_set]; exact h.room, h.cm, h.ne⟩
  · rw [List.length_set]; exact h.g.far (p := ⟨nb, i * 8 + j, none⟩) h.ne v
  · have := h.n.set (i * 8 + j) v
    rw [List.set_append_left _ _ (by rw [cellsG_length h.shp]; omega), cellsG_set h.shp hi hj he] at this
    exact this
theorem GAt.setTo (h : GAt w gb nb cap a b c ns rest) {i s : Nat} (hi : i < ns.length) (hs : s < 3) (v : Int) :
    GAt (w.setCell ⟨nb, i * 8 + 1 + s, none⟩ (.int .i64 v)) gb nb cap a b c (ns.set i { nd ns i with «to» := (nd ns i).to.set s v }) rest := by
  rw [Nat.add_assoc]
  exact h.set hi (by omega) ⟨by rw [List.length_set]; exact (h.shp i hi).1, (h.shp i hi).2⟩ (nodeC_setTo (h.shp i hi) hs v)
theorem GAt.setDown (h : GAt w gb nb cap a b c ns rest) {i s : Nat} (hi : i < ns.length) (hs : s < 3) (v : Bool) :
    GAt (w.setCell ⟨nb, i * 8 + 4 + s, none⟩ (.bool v)) gb nb cap a b c (ns.set i { nd ns i with down := (nd ns i).down.set s v }) rest := by
  rw [Nat.add_assoc]
  exact h.set hi (by omega) ⟨(h.shp i hi).1, by rw [List.length_set]; exact (h.shp i hi).2⟩ (nodeC_setDown (h.shp i hi) hs v)
theorem GAt.setWord (h : GAt w gb nb cap a b c ns rest) {i : Nat} (hi : i < ns.length) (l : List Nat) :
    GAt (w.setCell ⟨nb, i * 8 + 7, none⟩ (.string (str l))) gb nb cap a b c (ns.set i { nd ns i with word := l }) rest :=
  h.set hi (by omega) (h.shp i hi) (nodeC_setWord (h.shp i hi) l)

theorem GAt.below {B : Nat} (h : GAt w gb nb cap a b c ns rest) (hb : Below B w w') (h1 : gb < B) (h2 : nb < B) : GAt w' gb nb cap a b c ns rest :=
  ⟨h.g.below hb h1, h.n.below hb h2, h.shp, h.le, h.room, h.cm, h.ne⟩
theorem GAt.drew (h : GAt w gb nb cap a b c ns rest) : GAt w.drew gb nb cap a b c ns rest := ⟨h.g.drew, h.n.drew, h.shp, h.le, h.room, h.cm, h.ne⟩
theorem GAt.alloc (h : GAt w gb nb cap a b c ns rest) (o : Obj) : GAt (w.alloc o) gb nb cap a b c ns rest := ⟨h.g.alloc o, h.n.alloc o, h.shp, h.le, h.room, h.cm, h.ne⟩
theorem GAt.far (h : GAt w gb nb cap a b c ns rest) {p : Addr} (h1 : gb ≠ p.block) (h2 : nb ≠ p.block) (v : Value) : GAt (w.setCell p v) gb nb cap a b c ns rest :=
  ⟨h.g.far h1 v, h.n.far h2 v, h.shp, h.le, h.room, h.cm, h.ne⟩
end

theorem infoN : (Tryz.prog.info? 126).map (fun i => (i.zero.map (fun z => z.cells.size), i.size, i.bytes)) = some (some 8, 8, 56) := by kernel_rfl

set_option maxRecDepth 100000 in
/-- one more node behind the nodes -/
theorem append_node (w : World) (nb cap : Nat) (ns : List Nd) (rest : List Value) (hn : SBlk w nb 126 (cellsG ns ++ rest)) (hs : Shp ns) (hle : ns.length ≤ cap) (hroom : rest.length = (cap - ns.length) * 8) (hcm : cap ≤ Go.maxLen)
    (ad : Addr) (c : Nat) (x : Nd) (hx : x.to.length = 3 ∧ x.down.length = 3) (hnews : ∀ j u, (nodeC x)[j]? = some u → w.cell? (ad.add j) = some u) (hbd : ns.length + 1 ≤ 2000000000000) :
    ∃ nb' cap' rest' w', (Builtin.append_ #[120, 120] 120 #[.slice (some ⟨nb, 0, none⟩) ns.length cap, .slice (some ad) 1 c]).run Tryz.prog w = .ok (.slice (some ⟨nb', 0, none⟩) (ns.length + 1) cap') w' ∧
      SBlk w' nb' 126 (cellsG (ns ++ [x]) ++ rest') ∧ ns.length + 1 ≤ cap' ∧ rest'.length = (cap' - (ns.length + 1)) * 8 ∧ cap' ≤ Go.maxLen ∧ (nb' = nb ∨ nb' = w.heap.size) ∧ w.grownBy w' (some nb) := by
  obtain ⟨i, hi, hz, hsz, hby⟩ : ∃ i, Tryz.prog.info? 126 = some i ∧ i.zero.map (fun z => z.cells.size) = some 8 ∧ i.size = 8 ∧ i.bytes = 56 := by
    have h := infoN
    cases hq : Tryz.prog.info? 126 with
    | none => rw [hq] at h; simp at h
    | some i => rw [hq] at h; simp at h; exact ⟨i, rfl, by simpa using h.1, h.2.1, h.2.2⟩
  obtain ⟨z, hz1, hz2⟩ : ∃ z, i.zero = some z ∧ z.cells.size = 8 := by
    cases hq : i.zero with
    | none => rw [hq] at hz; simp at hz
    | some z => rw [hq] at hz; exact ⟨z, rfl, by simpa using hz⟩
  have hl := nodeC_length hx
  have hG := cellsG_length hs
  have happ : cellsG (ns ++ [x]) = cellsG ns ++ nodeC x := by unfold cellsG; simp
  have h1 : ∀ u ∈ nodeC x, u.oneCell' = true := by
    intro u hu
    unfold nodeC at hu
    simp only [List.mem_cons, List.mem_append, List.mem_map, List.not_mem_nil, or_false] at hu
    rcases hu with rfl | ⟨_, _, rfl⟩ | ⟨_, _, rfl⟩ | rfl <;> rfl
  have hbytes : (ns.length + 1) * i.bytes ≤ 140737488355328 := by rw [hby]; omega
  have hcur : (cellsG ns ++ rest).toArray.size = cap * i.size := by
    rw [hsz]; simp only [List.size_toArray, List.length_append, hG, hroom]
    rw [← Nat.add_mul]; congr 1; omega
  by_cases hfit : ns.length + 1 ≤ cap
  · have hr := run_append_room (P := Tryz.prog) w 120 120 126 i Tryz.underlying120 hi nb ns.length cap (cellsG ns ++ rest).toArray hn ad 1 c (nodeC x) (by rw [hl, hsz]) hnews h1 hfit
      (by rw [hsz, hl, List.size_toArray, List.length_append, hG, hroom]; omega)
    have htk : (cellsG ns ++ rest).toArray.toList.take (ns.length * i.size) = cellsG ns := by
      rw [hsz, List.toList_toArray, List.take_append_of_le_length (by omega), List.take_of_length_le (by omega)]
    have hdr : (cellsG ns ++ rest).toArray.toList.drop (ns.length * i.size + (nodeC x).length) = rest.drop 8 := by
      rw [hsz, hl, List.toList_toArray, List.drop_append, List.drop_of_length_le (by omega), List.nil_append]
      congr 1; omega
    have hg : w.grownBy (w.setRow nb ((cellsG ns ++ rest).toArray.toList.take (ns.length * i.size) ++ nodeC x ++ (cellsG ns ++ rest).toArray.toList.drop (ns.length * i.size + (nodeC x).length)).toArray) (some nb) :=
      ⟨rfl, rfl, rfl, by simp, fun k _ hk => setRow_other w nb k _ (fun e => hk (by simp [e]))⟩
    refine ⟨nb, cap, rest.drop 8, _, hr, ?_, hfit, ?_, hcm, .inl rfl, hg⟩
    · have := setRow_heap w nb (cellsG ns ++ rest).toArray ((cellsG ns ++ rest).toArray.toList.take (ns.length * i.size) ++ nodeC x ++ (cellsG ns ++ rest).toArray.toList.drop (ns.length * i.size + (nodeC x).length)).toArray 126 (0, 0) hn
      unfold SBlk
      rw [this, htk, hdr, happ]
    · rw [List.length_drop, hroom]; omega
  · have holds : ∀ j u, (cellsG ns)[j]? = some u → w.cell? ((⟨nb, 0, none⟩ : Addr).add j) = some u := by
      intro j u hu
      have hc := hn.cell j
      have hjl : j < (cellsG ns).length := by
        rcases Nat.lt_or_ge j (cellsG ns).length with h | h
        · exact h
        · rw [List.getElem?_eq_none h] at hu; cases hu
      rw [List.getElem?_append_left hjl, hu] at hc
      rw [← hc]; simp only [Addr.add]; split <;> simp_all
    have hr := run_append_grow (P := Tryz.prog) w 120 120 126 i z Tryz.underlying120 hi hz1 ⟨nb, 0, none⟩ ns.length cap (cellsG ns) (by rw [hsz]; exact hG) holds ad 1 c (nodeC x) (by rw [hl, hsz]) hnews (by omega) (by omega) (growslice_fits (by omega) hbytes)
    have hge := grownCap_ge w (ns.length + 1) cap 126
    have hcm' : grownCap w (ns.length + 1) cap 126 ≤ Go.maxLen := grownCap_le_maxLen w (ns.length + 1) cap 126 (by unfold Go.maxLen; omega)
    have hb : Below w.heap.size w (w.drew.alloc (.cells ((cellsG ns).toArray ++ (nodeC x).toArray ++ Builtin.zeroCells z.cells (grownCap w (ns.length + 1) cap 126 - (ns.length + 1))) 126)) := ((Below.refl _ w).drew).alloc (Nat.le_refl _) _
    refine ⟨w.heap.size, _, (Builtin.zeroCells z.cells (grownCap w (ns.length + 1) cap 126 - (ns.length + 1))).toList, _, hr, ?_, hge, ?_, hcm', .inr rfl, ⟨hb.os, hb.tape, hb.output, hb.size, fun k hk _ => hb.block k hk⟩⟩
    · have := heap_alloc_new w.drew (.cells ((cellsG ns).toArray ++ (nodeC x).toArray ++ Builtin.zeroCells z.cells (grownCap w (ns.length + 1) cap 126 - (ns.length + 1))) 126)
      unfold SBlk
      rw [happ]
      refine Eq.trans this ?_
      simp
    · rw [Array.length_toList, size_zeroCells, hz2]

set_option maxRecDepth 100000 in
theorem build_node (n : Int) (S : ByteArray) (W : World) : (Instr.build 126 #[(0, .int .i64 n), (1, .agg #[.int .i64 (-1), .int .i64 (-1), .int .i64 (-1)]), (3, .string S)]).run Tryz.prog W = .ok (.agg #[.int .i64 n, .int .i64 (-1), .int .i64 (-1), .int .i64 (-1), .bool false, .bool false, .bool false, .string S]) W := by kernel_rfl
set_option maxRecDepth 100000 in
theorem build_three (W : World) : (Instr.build 123 #[(0, .int .i64 (-1)), (1, .int .i64 (-1)), (2, .int .i64 (-1))]).run Tryz.prog W = .ok (.agg #[.int .i64 (-1), .int .i64 (-1), .int .i64 (-1)]) W := by kernel_rfl

set_option maxRecDepth 100000 in
theorem other_any (a b n : Nat) (w : World) :
    Calls Tryz.prog 139 #[.int .i64 a, .int .i64 b, .int .i64 n] w fun e w' => e = .returned (.int .i64 (turn a b n)) ∧ w' = w := by
  by_cases h : n % 2 = 0
  · have e : turn a b n = a := by unfold turn; rw [if_pos h]
    have h2 : (((n : Int) % 2) == 0) = true := by simp; omega
    rw [e]
    go_enter Tryz.func139, Tryz.ntmps139
    go_wp2_with fail
    go_ret
    exact ⟨rfl, rfl⟩
  · have e : turn a b n = b := by unfold turn; rw [if_neg h]
    have h2 : (((n : Int) % 2) == 0) = false := by simp; omega
    rw [e]
    go_enter Tryz.func139, Tryz.ntmps139
    go_wp2_with fail
    go_ret
    exact ⟨rfl, rfl⟩
end Go.Proofs.YtcpeeopdaakbaaaGreat

namespace Go.Proofs.YtcpeeopdaakbaaaGreat
open Go.RowKit Go.Shelf Cx

/-- what Step leaves -/
def RStp (M : Nat → Nat → Nat) (R : G M → Prop) (gb nb a b c : Nat) (ns : List Nd) (x s : Nat) (w : World) (e : Ending) (w' : World) : Prop :=
  ∃ (r : Nat) (ns' : List Nd) (nb' cap' : Nat) (rest' : List Value), e = .returned (.int .i64 (r : Int)) ∧ GAt w' gb nb' cap' a b c ns' rest' ∧ Ok M R ns' ∧ Ext M ((nd ns x).len + 1) ns ns' ∧ r < ns'.length ∧ El M ns' r = El M ns x * mk [s] ∧
    (nb' = nb ∨ w.heap.size ≤ nb') ∧ But (fun k => k = gb ∨ k = nb ∨ w.heap.size ≤ k) w w'

def PStep (M : Nat → Nat → Nat) (R : G M → Prop) (a b c n : Nat) : Prop :=
  ∀ (ns : List Nd) (x s : Nat) (w : World) (gb nb cap : Nat) (rest : List Value), (nd ns x).len = n → GAt w gb nb cap a b c ns rest → Ok M R ns → Fl M (n + 1) ns → R (El M ns x * mk [s]) → x < ns.length → s < 3 →
    Calls Tryz.prog 86 #[.pointer (some ⟨gb, 0, none⟩), .int .i64 (x : Int), .int .i64 (s : Int)] w (RStp M R gb nb a b c ns x s w)

set_option maxRecDepth 100000 in
set_option maxHeartbeats 4000000 in
theorem step_known {M : Nat → Nat → Nat} {R : G M → Prop} {a b c : Nat} (ns : List Nd) (x s : Nat) (w : World) (gb nb cap : Nat) (rest : List Value) (h : GAt w gb nb cap a b c ns rest) (hok : Ok M R ns) (hx : x < ns.length) (hs : s < 3) (ht : tb (nd ns x) s ≠ -1) :
    Calls Tryz.prog 86 #[.pointer (some ⟨gb, 0, none⟩), .int .i64 (x : Int), .int .i64 (s : Int)] w (RStp M R gb nb a b c ns x s w) := by
  obtain ⟨r, hr, hrt, hre⟩ := ok_over hok hx hs ht
  have c0 := h.g.cell 3
  have c1 := h.rto hx hs
  rw [hrt] at c1
  simp only [List.getElem?_cons_succ, List.getElem?_cons_zero] at c0
  have i1 : (0 : Int) ≤ (x : Int) := by omega
  have i2 : (x : Int) < (ns.length : Int) := by omega
  have i3 : (0 : Int) ≤ (s : Int) := by omega
  have i4 : (s : Int) < 3 := by omega
  have i5 : (0 : Int) ≤ (r : Int) := by omega
  have H := Lib.hid (And.intro h (And.intro hok (And.intro hr (And.intro hre hrt))))
  clear h hok hr hre hrt ht
  go_enter Tryz.func86, Tryz.ntmps86
  go_wp2_with fail
  go_ret
  obtain ⟨h, hok, hr, hre, hrt⟩ := H.out
  exact ⟨r, ns, nb, cap, rest, rfl, h, hok, Ext.refl _ _, hr, hre, .inl rfl, But.refl _ _⟩
end Go.Proofs.YtcpeeopdaakbaaaGreat
