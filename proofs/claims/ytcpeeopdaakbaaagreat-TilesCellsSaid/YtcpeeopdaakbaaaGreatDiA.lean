/- A map whose keys are pairs of strings. What a disc counts of a tile. A disc counts a tile. The disc of some rings. Cells. -/
import Derived.Test.YtcpeeopdaakbaaaGreatYA
import Derived.MapKept
import Derived.Test.YtcpeeopdaakbaaaGreatWe2
import Derived.IntWalk
import Derived.Test.YtcpeeopdaakbaaaGreatWdA
import Derived.Deep.QuietTactic
import Derived.BigQuiet
namespace Go.Proofs.YtcpeeopdaakbaaaGreat
open Go.RowKit

/-- a key -/
def keyV (p : ByteArray × ByteArray) : Value := .agg #[.string p.1, .string p.2]

set_option maxRecDepth 100000 in
theorem check_key (a b : ByteArray) (w : World) : (Instr.checkKey false 10000 238 (.agg #[.string a, .string b])).run Tryz.prog w = .ok () w := by kernel_rfl

set_option maxRecDepth 100000 in
theorem equal_str (a b : ByteArray) (w : World) : (Op.equalIn 9999 9 (.string a) (.string b)).run Tryz.prog w = .ok (a == b) w := by
  have hs : Tryz.prog.underlying 9 = some .string := Tryz.underlying9
  show (Op.equalIn (9998 + 1) 9 (.string a) (.string b)).run Tryz.prog w = _
  unfold Op.equalIn
  simp [run_underlying hs, go_sem]

set_option maxRecDepth 100000 in
theorem equal_key (a b c d : ByteArray) (w : World) : (Op.equal 238 (.agg #[.string a, .string b]) (.agg #[.string c, .string d])).run Tryz.prog w = .ok (a == c && b == d) w := by
  have ha : Tryz.prog.underlying 238 = some (.array 2 9) := Tryz.underlying238
  have hz := Tryz.sizeOf9
  have hg := Tryz.isAgg9
  have he := equal_str
  unfold Op.equal Op.maxDepth Op.equalIn
  simp [run_underlying ha, hz, go_sem, List.range', hg, he]
  cases a == c
  · simp [go_sem]
  · cases b == d <;> simp [go_sem]

theorem beqB (a b : ByteArray) : (a == b) = true ↔ a = b := by
  cases a with
  | mk d =>
    cases b with
    | mk e =>
      show (d == e) = true ↔ _
      rw [beq_iff_eq]
      constructor
      · rintro rfl; rfl
      · intro h; cases h; rfl
theorem beqP (k p : ByteArray × ByteArray) : (k.1 == p.1 && k.2 == p.2) = true ↔ k = p := by
  rw [Bool.and_eq_true, beqB, beqB]
  constructor
  · rintro ⟨h1, h2⟩; exact Prod.ext h1 h2
  · rintro rfl; exact ⟨rfl, rfl⟩
/-- where a key stands -/
def findK (k : ByteArray × ByteArray) : List (ByteArray × ByteArray) → Nat → Option Nat
  | [], _ => none
  | p :: ps, i => if (k.1 == p.1 && k.2 == p.2) = true then some i else findK k ps (i + 1)
theorem findK_none {k : ByteArray × ByteArray} : ∀ {ks : List (ByteArray × ByteArray)} {i : Nat}, findK k ks i = none → k ∉ ks
  | [], _, _ => by simp
  | p :: ps, i, h => by
    unfold findK at h
    split at h
    · cases h
    · rename_i hne
      have := findK_none h
      simp only [List.mem_cons, not_or]
      refine ⟨?_, this⟩
      rintro rfl
      exact hne ((beqP _ _).2 rfl)
theorem findK_some {k : ByteArray × ByteArray} : ∀ {ks : List (ByteArray × ByteArray)} {i j : Nat}, findK k ks i = some j → i ≤ j ∧ ks[j - i]? = some k
  | [], _, _, h => by cases h
  | p :: ps, i, j, h => by
    unfold findK at h
    split at h
    · rename_i he
      cases h
      refine ⟨Nat.le_refl _, ?_⟩
      rw [(beqP _ _).1 he]
      simp
    · obtain ⟨h1, h2⟩ := findK_some h
      refine ⟨by omega, ?_⟩
      rw [show j - i = (j - (i + 1)) + 1 by omega]
      simpa using h2

/-- the entries' keys -/
def KeysOfE (es : List MapEntry) (ks : List (ByteArray × ByteArray)) : Prop := es.map (·.key) = ks.map keyV ∧ ∀ e ∈ es, e.val = .bool true

theorem findAsk (k : ByteArray × ByteArray) (w : World) : ∀ (es : List MapEntry) (ks : List (ByteArray × ByteArray)) (i : Nat), KeysOfE es ks → (Instr.findAsking 238 (keyV k) es i).run Tryz.prog w = .ok ((findK k ks i).map fun j => (j, Value.bool true)) w
  | [], ks, i, h => by
    have : ks = [] := by
      have := h.1
      simp at this; exact this
    subst this
    rfl
  | e :: es, [], i, h => by
    have := h.1
    simp at this
  | e :: es, p :: ps, i, h => by
    obtain ⟨h1, h2⟩ := h
    simp only [List.map_cons, List.cons.injEq] at h1
    have hv := h2 e List.mem_cons_self
    have ih := findAsk k w es ps (i + 1) ⟨h1.2, fun x hx => h2 x (List.mem_cons_of_mem _ hx)⟩
    have he := equal_key k.1 k.2 p.1 p.2
    unfold Instr.findAsking
    unfold keyV at ih h1 ⊢
    rw [h1.1]
    simp only [Sem.run_bind, he, Result.andThen]
    unfold findK
    by_cases hc : (k.1 == p.1 && k.2 == p.2) = true
    · rw [if_pos hc, if_pos hc, hv]
      rfl
    · rw [if_neg hc, if_neg hc]
      exact ih

/-- a map with such keys, each once -/
def MapK (w : World) (mb : Nat) (ks : List (ByteArray × ByteArray)) : Prop := ∃ es clock, w.heap[mb]? = some (.map es clock) ∧ KeysOfE es.toList ks ∧ ks.Nodup
theorem MapK.lt {w : World} {mb : Nat} {ks : List (ByteArray × ByteArray)} (h : MapK w mb ks) : mb < w.heap.size := by
  obtain ⟨es, cl, h1, _⟩ := h
  exact (Array.getElem?_eq_some_iff.1 h1).1
theorem MapK.same {w w' : World} {mb : Nat} {ks : List (ByteArray × ByteArray)} (h : MapK w mb ks) (he : w'.heap[mb]? = w.heap[mb]?) : MapK w' mb ks := by
  obtain ⟨es, cl, h1, h2⟩ := h
  exact ⟨es, cl, he.trans h1, h2⟩
theorem MapK.below {w w' : World} {B mb : Nat} {ks : List (ByteArray × ByteArray)} (h : MapK w mb ks) (hb : Below B w w') (hB : mb < B) : MapK w' mb ks := h.same (hb.block mb hB)
theorem keyV_inj {p q : ByteArray × ByteArray} (h : keyV p = keyV q) : p = q := by
  unfold keyV at h
  simp at h
  exact Prod.ext h.1 h.2
theorem stays (k : ByteArray × ByteArray) (w : World) : (Instr.keyThatStays (keyV k) (keyV k)).run Tryz.prog w = .ok (keyV k) w := by
  have h : Instr.sameBits 10000 (keyV k) (keyV k) = true := by
    unfold keyV
    show Instr.sameBits (9999 + 1) _ _ = true
    unfold Instr.sameBits
    have e : ∀ a : ByteArray, Instr.sameBits 9999 (.string a) (.string a) = true := fun a => by
      show Instr.sameBits (9998 + 1) _ _ = true
      unfold Instr.sameBits
      exact (beqB a a).2 rfl
    simp [e]
  unfold Instr.keyThatStays
  rw [if_pos h]
  rfl

/-- the keys with one more -/
def insK (k : ByteArray × ByteArray) (ks : List (ByteArray × ByteArray)) : List (ByteArray × ByteArray) := if (findK k ks 0).isSome then ks else ks ++ [k]
theorem insK_nodup {k : ByteArray × ByteArray} {ks : List (ByteArray × ByteArray)} (h : ks.Nodup) : (insK k ks).Nodup := by
  unfold insK
  split
  · exact h
  · rename_i hn
    have hnone : findK k ks 0 = none := by simpa using hn
    have := findK_none hnone
    rw [List.nodup_append]
    refine ⟨h, by simp, ?_⟩
    intro a ha b hb he
    rw [List.mem_singleton.1 hb] at he
    exact this (he ▸ ha)
theorem insK_mem {k x : ByteArray × ByteArray} {ks : List (ByteArray × ByteArray)} : x ∈ insK k ks ↔ x ∈ ks ∨ x = k := by
  unfold insK
  split
  · rename_i hs
    obtain ⟨j, hj⟩ := Option.isSome_iff_exists.1 hs
    obtain ⟨_, h2⟩ := findK_some hj
    have := List.mem_of_getElem? h2
    constructor
    · exact .inl
    · rintro (h | rfl)
      · exact h
      · exact this
  · simp
theorem insK_length (k : ByteArray × ByteArray) (ks : List (ByteArray × ByteArray)) : (insK k ks).length ≤ ks.length + 1 := by
  unfold insK
  split
  · omega
  · simp

set_option maxRecDepth 100000 in
/-- a key is put in -/
theorem put_key (w : World) (mb : Nat) (ks : List (ByteArray × ByteArray)) (k : ByteArray × ByteArray) (h : MapK w mb ks) :
    ∃ w', (Instr.mapUpdate 113 (.map (some mb)) (keyV k) (.bool true)).run Tryz.prog w = .ok () w' ∧ MapK w' mb (insK k ks) ∧ But (fun x => x = mb) w w' := by
  obtain ⟨es, cl, h1, h2, h3⟩ := h
  have hm : Tryz.prog.underlying 113 = some (.map 238 4) := Tryz.underlying113
  have ha : Tryz.prog.underlying 238 = some (.array 2 9) := Tryz.underlying238
  have hck : (Instr.checkKey false 10000 238 (keyV k)).run Tryz.prog w = .ok () w := check_key k.1 k.2 w
  have hfk : (Instr.findKey 238 (keyV k) es.toList).run Tryz.prog w = .ok ((findK k ks 0).map fun j => (j, Value.bool true)) w := by
    have hfa := findAsk k w es.toList ks 0 h2
    unfold Instr.findKey
    simp only [Sem.run_bind, run_underlying ha, Result.andThen]
    cases hes : es.toList with
    | nil =>
      rw [hes] at h2
      have : ks = [] := by have := h2.1; simp at this; exact this
      subst this
      rfl
    | cons e es' =>
      rw [hes] at hfa
      exact hfa
  have hg := MapKept.run_getObj_map (P := Tryz.prog) h1
  cases hf : findK k ks 0 with
  | none =>
    rw [hf] at hfk
    have hset := MapKept.heap_set (w := w) (o' := .map (es.push { key := keyV k, val := .bool true, born := cl }) (cl + 1)) h1
    refine ⟨{ w with heap := w.heap.setIfInBounds mb (.map (es.push { key := keyV k, val := .bool true, born := cl }) (cl + 1)) }, ?_, ⟨_, _, hset.1, ⟨?_, ?_⟩, insK_nodup h3⟩, ?_⟩
    · simp only [Instr.mapUpdate, Sem.run_bind, run_underlying hm, hg, hck, hfk, Result.andThen, Option.map_none]
      exact MapKept.run_setObj_map _ h1
    · unfold insK
      rw [hf]
      simp [h2.1]
    · intro e he
      simp only [Array.toList_push, List.mem_append, List.mem_singleton] at he
      rcases he with he | rfl
      · exact h2.2 e he
      · rfl
    · exact ⟨rfl, rfl, rfl, by simp, fun q hq hn => hset.2 q hn⟩
  | some j =>
    rw [hf] at hfk
    obtain ⟨_, hj⟩ := findK_some hf
    rw [Nat.sub_zero] at hj
    have hkj : (es.toList.map (·.key))[j]? = some (keyV k) := by rw [h2.1, List.getElem?_map, hj]; rfl
    obtain ⟨e0, he0, hek⟩ : ∃ e0, es[j]? = some e0 ∧ e0.key = keyV k := by
      rw [List.getElem?_map] at hkj
      cases hq : es.toList[j]? with
      | none => rw [hq] at hkj; cases hkj
      | some e0 => rw [hq] at hkj; exact ⟨e0, by simpa using hq, by simpa using hkj⟩
    have hset := MapKept.heap_set (w := w) (o' := .map (es.modify j fun e => { e with key := keyV k, val := .bool true }) cl) h1
    have hlist : (es.modify j fun e => { e with key := keyV k, val := .bool true }).toList = es.toList.modify j fun e => { e with key := keyV k, val := .bool true } := by simp
    refine ⟨{ w with heap := w.heap.setIfInBounds mb (.map (es.modify j fun e => { e with key := keyV k, val := .bool true }) cl) }, ?_, ⟨_, _, hset.1, ⟨?_, ?_⟩, insK_nodup h3⟩, ?_⟩
    · simp only [Instr.mapUpdate, Sem.run_bind, run_underlying hm, hg, hck, hfk, Result.andThen, Option.map_some, he0, Option.getD_some, hek, stays]
      exact MapKept.run_setObj_map _ h1
    · unfold insK
      rw [hf]
      simp only [Option.isSome_some, if_true]
      rw [← h2.1, hlist]
      apply List.ext_getElem?
      intro i
      rw [List.getElem?_map, List.getElem?_map, List.getElem?_modify]
      by_cases hij : j = i
      · subst hij
        rw [List.getElem?_map] at hkj
        cases hq : es.toList[j]? with
        | none => rfl
        | some e1 => rw [hq] at hkj; simp at hkj; simp [hkj]
      · simp [hij]
    · intro e he
      rw [hlist] at he
      obtain ⟨i, hi⟩ := List.mem_iff_getElem?.1 he
      rw [List.getElem?_modify] at hi
      cases hq : es.toList[i]? with
      | none => rw [hq] at hi; cases hi
      | some e1 =>
        rw [hq] at hi
        have h1v := h2.2 e1 (List.mem_of_getElem? hq)
        by_cases hij : j = i
        · simp [hij] at hi; rw [← hi]
        · simp [hij] at hi; rw [← hi]; exact h1v
    · exact ⟨rfl, rfl, rfl, by simp, fun q hq hn => hset.2 q hn⟩

set_option maxRecDepth 100000 in
theorem len_map (w : World) (mb : Nat) (ks : List (ByteArray × ByteArray)) (h : MapK w mb ks) : (Builtin.len_ #[113] 3 #[.map (some mb)]).run Tryz.prog w = .ok (.int .i64 ks.length) w := by
  obtain ⟨es, cl, h1, h2, h3⟩ := h
  have hm : Tryz.prog.underlying 113 = some (.map 238 4) := Tryz.underlying113
  have hg := MapKept.run_getObj_map (P := Tryz.prog) h1
  have hl : es.size = ks.length := by
    have := congrArg List.length h2.1
    simpa using this
  simp [Builtin.len_, run_underlying hm, hg, go_sem, hl]
end Go.Proofs.YtcpeeopdaakbaaaGreat

namespace Go.Proofs.YtcpeeopdaakbaaaGreat
open Go.RowKit Go.Shelf Cx
open Classical

/-- the first tile around a corner -/
noncomputable def footN {a b c : Nat} (m : Nat) (x : G (Mo a b c)) : G (Mo a b c) := if h : ∃ f, Foot (Mo a b c) (sideA m) (sideB m) x f then Classical.choose h else x
theorem footN_eq {a b c m : Nat} (hg : Good a b c) (hm : m < 3) (h0 : ordC a b c m ≠ 0) {x f : G (Mo a b c)} (h : Foot (Mo a b c) (sideA m) (sideB m) x f) : footN m x = f := by
  have hex : ∃ f, Foot (Mo a b c) (sideA m) (sideB m) x f := ⟨f, h⟩
  unfold footN
  rw [dif_pos hex]
  exact foot_same (Mo_ords hg.1 hg.2 hg.3) (side_ne hm) (by rw [← ordC_eq a b c hm]; exact h0) h (Classical.choose_spec hex) (w := []) (fun _ hz => by cases hz) (mul_one x).symm

/-- sides that lead farther, of the first j -/
noncomputable def upS {a b c : Nat} (x : G (Mo a b c)) : Nat → Nat
  | 0 => 0
  | j + 1 => upS x j + if Dr x j then 0 else 1
theorem upS_le {a b c : Nat} (x : G (Mo a b c)) : ∀ j, upS x j ≤ j
  | 0 => Nat.le_refl _
  | j + 1 => by
    have := upS_le x j
    show upS x j + (if Dr x j then 0 else 1) ≤ j + 1
    split <;> omega
/-- a corner as it is told apart -/
noncomputable def keyT {a b c : Nat} (m : Nat) (x : G (Mo a b c)) : ByteArray × ByteArray := (tile (footN m x), str [m])
/-- the corners, with those of a tile opposite to the first j mirrors -/
noncomputable def keysS {a b c : Nat} (x : G (Mo a b c)) (ks : List (ByteArray × ByteArray)) : Nat → List (ByteArray × ByteArray)
  | 0 => ks
  | j + 1 => if ordC a b c j = 0 then keysS x ks j else insK (keyT j x) (keysS x ks j)
theorem keysS_length {a b c : Nat} (x : G (Mo a b c)) (ks : List (ByteArray × ByteArray)) : ∀ j, (keysS x ks j).length ≤ ks.length + j
  | 0 => Nat.le_refl _
  | j + 1 => by
    have := keysS_length x ks j
    have h2 := insK_length (keyT j x) (keysS x ks j)
    show (if _ then _ else _ : List (ByteArray × ByteArray)).length ≤ _
    split <;> omega

theorem upS_yes {a b c : Nat} {x : G (Mo a b c)} {j : Nat} (h : Dr x j) : upS x (j + 1) = upS x j := by
  show upS x j + (if Dr x j then 0 else 1) = _
  rw [if_pos h]; rfl
theorem upS_no {a b c : Nat} {x : G (Mo a b c)} {j : Nat} (h : ¬ Dr x j) : upS x (j + 1) = upS x j + 1 := by
  show upS x j + (if Dr x j then 0 else 1) = _
  rw [if_neg h]
theorem keysS_zero {a b c : Nat} {x : G (Mo a b c)} {ks : List (ByteArray × ByteArray)} {j : Nat} (h : ordC a b c j = 0) : keysS x ks (j + 1) = keysS x ks j := by
  show (if ordC a b c j = 0 then _ else _) = _
  rw [if_pos h]
theorem keysS_more {a b c : Nat} {x : G (Mo a b c)} {ks : List (ByteArray × ByteArray)} {j : Nat} (h : ordC a b c j ≠ 0) : keysS x ks (j + 1) = insK (keyT j x) (keysS x ks j) := by
  show (if ordC a b c j = 0 then _ else _) = _
  rw [if_neg h]

/-- a disc in memory -/
structure DiscAt (a b c db mb : Nat) (E T : Nat) (ks : List (ByteArray × ByteArray)) (w : World) : Prop where
  d : SBlk w db 115 [.int .i64 a, .int .i64 b, .int .i64 c, .map (some mb), .int .i64 E, .int .i64 T]
  m : MapK w mb ks
  ne : db ≠ mb
theorem DiscAt.below {a b c db mb E T : Nat} {ks : List (ByteArray × ByteArray)} {w w' : World} (h : DiscAt a b c db mb E T ks w) (hb : Below w.heap.size w w') : DiscAt a b c db mb E T ks w' :=
  ⟨h.d.below hb h.d.lt, h.m.below hb h.m.lt, h.ne⟩
/-- what add leaves untouched -/
def Ds2 (db mb : Nat) : Nat → Prop := fun k => k = db ∨ k = mb
theorem mapK_setCell {w : World} {mb : Nat} {ks : List (ByteArray × ByteArray)} (h : MapK w mb ks) {p : Addr} (hp : mb ≠ p.block) (v : Value) : MapK (w.setCell p v) mb ks := h.same (Below.heap_setCell w p v mb hp)
theorem DiscAt.edge {a b c db mb E T : Nat} {ks : List (ByteArray × ByteArray)} {w : World} (h : DiscAt a b c db mb E T ks w) (E' : Nat) : DiscAt a b c db mb E' T ks (w.setCell ⟨db, 4, none⟩ (.int .i64 E')) :=
  ⟨h.d.set 4 _, mapK_setCell h.m (Ne.symm h.ne) _, h.ne⟩
theorem DiscAt.count {a b c db mb E T : Nat} {ks : List (ByteArray × ByteArray)} {w : World} (h : DiscAt a b c db mb E T ks w) (T' : Nat) : DiscAt a b c db mb E T' ks (w.setCell ⟨db, 5, none⟩ (.int .i64 T')) :=
  ⟨h.d.set 5 _, mapK_setCell h.m (Ne.symm h.ne) _, h.ne⟩
theorem DiscAt.corner {a b c db mb E T : Nat} {ks ks' : List (ByteArray × ByteArray)} {w w' : World} (h : DiscAt a b c db mb E T ks w) (hm : MapK w' mb ks') (hb : But (fun x => x = mb) w w') : DiscAt a b c db mb E T ks' w' :=
  ⟨h.d.but hb h.ne, hm, h.ne⟩
theorem but_below {S : Nat → Prop} {A B C : World} (h : But S A B) (hb : Below B.heap.size B C) : But S A C := h.trans (But.of_below hb (fun k hk h => absurd h (by omega)))
end Go.Proofs.YtcpeeopdaakbaaaGreat

namespace Go.Proofs.YtcpeeopdaakbaaaGreat
open Go.RowKit Go.Shelf Cx

set_option maxRecDepth 100000 in
set_option maxHeartbeats 8000000 in
theorem add_ok {a b c : Nat} (hg : Good a b c) (x : G (Mo a b c)) (hx : Low x) (hl : ln x ≤ 59) (db mb E T : Nat) (ks : List (ByteArray × ByteArray)) (hE : E ≤ 1000000000) (hT : T ≤ 1000000000) (w : World) (h : DiscAt a b c db mb E T ks w) :
    Calls Tryz.prog 124 #[.pointer (some ⟨db, 0, none⟩), .string (tile x)] w fun e w' => e = .returned (.tuple #[]) ∧ DiscAt a b c db mb (E + upS x 3) (T + 1) (keysS x ks 3) w' ∧ But (Ds2 db mb) w w' := by
  have HL := Lib.hid (fun j (hj : j < 3) W => letter_ok j hj W)
  have HT := Lib.hid (fun j (hj : j < 3) W => times_tile hg hx (by omega) (v := [j]) (fun z hz => by rw [List.mem_singleton.1 hz]; exact hj) (by simp) W)
  have HF := Lib.hid (fun j (hj : j < 3) W => first_ok hg hj x hx (by omega) W)
  have HC := Lib.hid (fun j (hj : j < 3) W => corner_ok a b c j hj W)
  have HN := Lib.hid (fun j (hj : j < 3) (h0 : ordC a b c j ≠ 0) f hf => footN_eq hg hj h0 (x := x) (f := f) hf)
  have HX := Lib.hid (show (tile x).size = ln x from tile_size x)
  obtain ⟨TX, hTX⟩ : ∃ z, tile x = z := ⟨_, rfl⟩
  rw [hTX] at HF HT HX ⊢
  have HTX := Lib.hid hTX
  clear hTX hg hx hl
  have c5 := h.d.cell 5
  have f5 := h.d.frozen 5
  simp only [List.getElem?_cons_zero, List.getElem?_cons_succ] at c5
  have hwT : IntKind.i64.wrap ((T : Int) + 1) = (T : Int) + 1 := IntWalk.i64_in _ (by omega)
  have hcT : ((T + 1 : Nat) : Int) = (T : Int) + 1 := by omega
  have hd1 := h.count (T + 1)
  rw [hcT] at hd1
  have HD := Lib.hid (And.intro hd1 (show But (Ds2 db mb) w (w.setCell ⟨db, 5, none⟩ (.int .i64 ((T : Int) + 1))) from But.setCell (S := Ds2 db mb) (But.refl _ _) (p := ⟨db, 5, none⟩) (.inl rfl) _))
  have HEb := Lib.hid hE
  clear h hd1 hcT hT hE
  go_enter Tryz.func124, Tryz.ntmps124
  go_wp2_with fail
  clear c5 f5 hwT
  go_loopg [13] 3 (fun g s13 wr => ∃ j : Nat, j ≤ 3 ∧ g = 3 - j ∧ s13 = .int .i64 (j : Int) ∧ Hid (DiscAt a b c db mb (E + upS x j) (T + 1) (keysS x ks j) wr ∧ But (Ds2 db mb) w wr))
  case atStart => exact ⟨0, by omega, rfl, rfl, Lib.hid ⟨HD.out.1, HD.out.2⟩⟩
  case round =>
    obtain ⟨j, hj, rfl, rfl, HI⟩ := hrel
    clear HD
    by_cases hj3 : j < 3
    · have hji : (j : Int) < 3 := by omega
      have k0 := HI.out.1.d.cell 0
      have k1 := HI.out.1.d.cell 1
      have k2 := HI.out.1.d.cell 2
      simp only [List.getElem?_cons_zero, List.getElem?_cons_succ] at k0 k1 k2
      have hkk : ∀ W, Below wr.heap.size wr W → W.cell? ⟨db, 0, none⟩ = some (.int .i64 a) ∧ W.cell? ⟨db, 1, none⟩ = some (.int .i64 b) ∧ W.cell? ⟨db, 2, none⟩ = some (.int .i64 c) := fun W hb =>
        have q := HI.out.1.d.below hb HI.out.1.d.lt
        ⟨q.cell 0, q.cell 1, q.cell 2⟩
      have HK := Lib.hid hkk
      have HLj := Lib.hid (fun W => HL.out j hj3 W)
      have HTj := Lib.hid (fun W => HT.out j hj3 W)
      obtain ⟨T2, hT2⟩ : ∃ z, tile (x * mk [j]) = z := ⟨_, rfl⟩
      obtain ⟨LJ, hLJ⟩ : ∃ z, str [j] = z := ⟨_, rfl⟩
      rw [hT2, hLJ] at HTj
      rw [hLJ] at HLj
      have hs2 : T2.size = ln (x * mk [j]) := by rw [← hT2, tile_size]
      have hs1 := HX.out
      have HJJ := Lib.hid hLJ
      clear hkk hT2 hLJ
      have hub := upS_le x j
      have heb := HEb.out
      have hwE : IntKind.i64.wrap (((E + upS x j : Nat) : Int) + 1) = ((E + upS x j : Nat) : Int) + 1 := IntWalk.i64_in _ (by omega)
      obtain ⟨E0, hE0⟩ : ∃ z, E + upS x j = z := ⟨_, rfl⟩
      rw [hE0] at hwE
      have HE0 := Lib.hid hE0
      clear hE0 hub heb
      by_cases hd : Dr x j
      · have hdl := ln_down hd
        have hle : decide ((T2.size : Int) > (TX.size : Int)) = false := by simp; omega
        have hle2 : decide (TX.size < T2.size) = false := by simp; omega
        have hup := upS_yes hd
        have HUP := Lib.hid hup
        clear hd hdl hs1 hs2 hup
        go_wp2_with fail
        go_region_held3 (fun w' => w'.cell? ⟨db, 0, none⟩ = some (.int .i64 a) ∧ w'.cell? ⟨db, 1, none⟩ = some (.int .i64 b) ∧ w'.cell? ⟨db, 2, none⟩ = some (.int .i64 c))
          (first | (with_reducible assumption) | (with_reducible exact kp) | (go_keep; done))
          (first
            | (go_at_call 154; (with_reducible refine (HLj.out _).mono ?_); rintro e w1 ⟨rfl, rfl⟩)
            | (go_at_call 112; (with_reducible refine (HTj.out _).mono ?_); rintro e w2 ⟨rfl, hb⟩; replace hb := below_undrew hb; have kp := HK.out w2 hb; have HB2 := Lib.hid hb; clear hb))
        have hD2 : DiscAt a b c db mb E0 (T + 1) (keysS x ks j) w2 := by
          have := HI.out.1.below HB2.out
          rwa [HE0.out] at this
        have hBut2 := but_below HI.out.2 HB2.out
        clear kp k0 k1 k2
        obtain ⟨W3, hW3⟩ : ∃ z, w2 = z := ⟨_, rfl⟩
        rw [hW3] at hD2 hBut2
        subst hW3
        have hD3 : DiscAt a b c db mb (E + upS x (j + 1)) (T + 1) (keysS x ks j) w2 := by
          rw [HUP.out, HE0.out]; exact hD2
        have hBut3 := hBut2
        have k0 := hD3.d.cell 0
        have k1 := hD3.d.cell 1
        have k2 := hD3.d.cell 2
        simp only [List.getElem?_cons_zero, List.getElem?_cons_succ] at k0 k1 k2
        have H3 := Lib.hid (And.intro hD3 hBut3)
        clear hD2 hD3 hBut2 hBut3
        go_wp2_with fail
        refine (HC.out j hj3 _).mono ?_
        rintro e w4 ⟨rfl, hb4⟩
        unfold cornV
        have HFj := Lib.hid (fun W => HF.out j hj3 W)
        unfold cornV at HFj
        have HNj := Lib.hid (fun h0 f hf => HN.out j hj3 h0 f hf)
        obtain ⟨SD, hSD⟩ : ∃ z, str [sideA j, sideB j] = z := ⟨_, rfl⟩
        rw [hSD] at HFj ⊢
        obtain ⟨o, ho⟩ : ∃ z, ordC a b c j = z := ⟨_, rfl⟩
        rw [ho] at HFj HNj ⊢
        have HO := Lib.hid ho
        have hD4 := H3.out.1.below hb4
        have hBut4 := but_below H3.out.2 hb4
        clear hSD ho hb4 H3 k0 k1 k2
        have qc := SBlk.new w4 97 [.int .i64 a, .int .i64 b, .int .i64 c, .string SD, .int .i64 o]
        rw [show ([.int .i64 a, .int .i64 b, .int .i64 c, .string SD, .int .i64 o] : List Value).toArray = #[.int .i64 a, .int .i64 b, .int .i64 c, .string SD, .int .i64 o] from rfl] at qc
        have hal := (Below.refl w4.heap.size w4).alloc (Nat.le_refl _) (.cells #[.int .i64 a, .int .i64 b, .int .i64 c, .string SD, .int .i64 o] 97)
        obtain ⟨W5, hW5⟩ : ∃ z, w4.alloc (.cells #[.int .i64 a, .int .i64 b, .int .i64 c, .string SD, .int .i64 o] 97) = z := ⟨_, rfl⟩
        rw [hW5] at qc hal
        have hD5 := hD4.below hal
        have hBut5 := but_below hBut4 hal
        have hne : w4.heap.size ≠ mb := by have := hD4.m.lt; omega
        have hcb : ¬ Ds2 db mb w4.heap.size := by rintro (h | h); · have := hD4.d.lt; omega
                                                  · omega
        have HC5 := Lib.hid (And.intro qc (And.intro hD5 (And.intro hBut5 hne)))
        clear hD4 hBut4 hal hD5 hBut5 hne hcb
        have e4 := qc.cell 4
        simp only [List.getElem?_cons_zero, List.getElem?_cons_succ] at e4
        by_cases h0 : o = 0
        · subst h0
          clear qc
          go_upto_region 7 with (fail)
          have HW5 := Lib.hid hW5
          clear hW5
          go_wp2_with fail
          go_roundg (3 - (j + 1))
          case measure => omega
          case rel =>
            have hw5 : w4.alloc (.cells #[.int .i64 a, .int .i64 b, .int .i64 c, .string SD, .int .i64 0] 97) = W5 := HW5.out
            rw [hw5]
            refine ⟨j + 1, by omega, rfl, by simp, Lib.hid ⟨?_, HC5.out.2.2.1⟩⟩
            rw [keysS_zero HO.out]
            exact HC5.out.2.1
        · have hoi : ((o : Int) != 0) = true := by simp; omega
          have ho0 : ¬ o = 0 := h0
          have e0 := qc.cell 0
          have e1 := qc.cell 1
          have e2 := qc.cell 2
          have e3 := qc.cell 3
          have d3 := HC5.out.2.1.d.cell 3
          simp only [List.getElem?_cons_zero, List.getElem?_cons_succ] at e0 e1 e2 e3 d3
          have hkk : ∀ W, Below W5.heap.size W5 W → W.cell? ⟨db, 3, none⟩ = some (.map (some mb)) ∧ W.cell? ⟨w4.heap.size, 0, none⟩ = some (.int .i64 a) ∧ W.cell? ⟨w4.heap.size, 1, none⟩ = some (.int .i64 b) ∧ W.cell? ⟨w4.heap.size, 2, none⟩ = some (.int .i64 c) ∧ W.cell? ⟨w4.heap.size, 3, none⟩ = some (.string SD) ∧ W.cell? ⟨w4.heap.size, 4, none⟩ = some (.int .i64 o) := fun W hb =>
            have q := HC5.out.1.below hb HC5.out.1.lt
            have qd := HC5.out.2.1.d.below hb HC5.out.2.1.d.lt
            ⟨qd.cell 3, q.cell 0, q.cell 1, q.cell 2, q.cell 3, q.cell 4⟩
          have hkm : ∀ W W', Below W5.heap.size W5 W → But (fun x => x = mb) W W' → W'.cell? ⟨db, 3, none⟩ = some (.map (some mb)) ∧ W'.cell? ⟨w4.heap.size, 0, none⟩ = some (.int .i64 a) ∧ W'.cell? ⟨w4.heap.size, 1, none⟩ = some (.int .i64 b) ∧ W'.cell? ⟨w4.heap.size, 2, none⟩ = some (.int .i64 c) ∧ W'.cell? ⟨w4.heap.size, 3, none⟩ = some (.string SD) ∧ W'.cell? ⟨w4.heap.size, 4, none⟩ = some (.int .i64 o) := fun W W' hb hm =>
            have q := (HC5.out.1.below hb HC5.out.1.lt).but hm HC5.out.2.2.2
            have qd := (HC5.out.2.1.d.below hb HC5.out.2.1.d.lt).but hm HC5.out.2.1.ne
            ⟨qd.cell 3, q.cell 0, q.cell 1, q.cell 2, q.cell 3, q.cell 4⟩
          have HKK := Lib.hid (And.intro hkk hkm)
          have hput : ∀ W (f : G (Mo a b c)), Below W5.heap.size W5 W → ∃ w', (Instr.mapUpdate 113 (.map (some mb)) (.agg #[.string (tile f), .string LJ]) (.bool true)).run Tryz.prog W = .ok () w' ∧ Hid (MapK w' mb (insK (tile f, LJ) (keysS x ks j)) ∧ But (fun x => x = mb) W w') := fun W f hb => by
            obtain ⟨w', h1, h2, h3⟩ := put_key W mb _ (tile f, LJ) (HC5.out.2.1.m.below hb HC5.out.2.1.m.lt)
            exact ⟨w', h1, Lib.hid ⟨h2, h3⟩⟩
          have HPUT := Lib.hid hput
          clear hkk hkm qc hput
          go_upto_region 7 with (fail)
          clear hW5
          go_wp2_with fail
          go_region_held3 (fun w' => w'.cell? ⟨db, 3, none⟩ = some (.map (some mb)) ∧ w'.cell? ⟨w4.heap.size, 0, none⟩ = some (.int .i64 a) ∧ w'.cell? ⟨w4.heap.size, 1, none⟩ = some (.int .i64 b) ∧ w'.cell? ⟨w4.heap.size, 2, none⟩ = some (.int .i64 c) ∧ w'.cell? ⟨w4.heap.size, 3, none⟩ = some (.string SD) ∧ w'.cell? ⟨w4.heap.size, 4, none⟩ = some (.int .i64 o))
            (first | (with_reducible assumption) | (with_reducible exact kp) | (with_reducible exact kp6) | (go_keep; done))
            (first
              | (go_at_call 154; (with_reducible refine (HLj.out _).mono ?_); rintro e w1 ⟨rfl, rfl⟩)
              | (go_at_call 60; (with_reducible refine (HFj.out _).mono ?_); rintro e w6 ⟨f, rfl, hf, hb⟩; replace hb := below_undrew hb; have kp := HKK.out.1 w6 hb; obtain ⟨w7, hput, HP7⟩ := HPUT.out w6 f hb; have kp6 := HKK.out.2 w6 w7 hb HP7.out.2; have H6 := Lib.hid (And.intro hf hb); clear hb hf))
          clear kp kp6 hput
          go_wp2_with fail
          go_roundg (3 - (j + 1))
          case measure => omega
          case rel =>
            have hD7 := (HC5.out.2.1.below H6.out.2).corner HP7.out.1 HP7.out.2
            have hBut7 : But (Ds2 db mb) w w7 := (but_below HC5.out.2.2.1 H6.out.2).trans (HP7.out.2.mono (fun q _ hq => .inr hq))
            refine ⟨j + 1, by omega, rfl, by simp, Lib.hid ⟨?_, hBut7⟩⟩
            rw [keysS_more (by rw [HO.out]; exact h0)]
            unfold keyT
            rw [HNj.out h0 f H6.out.1.1, HJJ.out]
            exact hD7
      · have hdl := ln_up hd
        have hle : (TX.size : Int) < (T2.size : Int) := by omega
        have hup := upS_no hd
        have HUP := Lib.hid hup
        clear hd hdl hs1 hs2 hup
        go_wp2_with fail
        go_region_held3 (fun w' => w'.cell? ⟨db, 0, none⟩ = some (.int .i64 a) ∧ w'.cell? ⟨db, 1, none⟩ = some (.int .i64 b) ∧ w'.cell? ⟨db, 2, none⟩ = some (.int .i64 c))
          (first | (with_reducible assumption) | (with_reducible exact kp) | (go_keep; done))
          (first
            | (go_at_call 154; (with_reducible refine (HLj.out _).mono ?_); rintro e w1 ⟨rfl, rfl⟩)
            | (go_at_call 112; (with_reducible refine (HTj.out _).mono ?_); rintro e w2 ⟨rfl, hb⟩; replace hb := below_undrew hb; have kp := HK.out w2 hb; have HB2 := Lib.hid hb; clear hb))
        have hD2 : DiscAt a b c db mb E0 (T + 1) (keysS x ks j) w2 := by
          have := HI.out.1.below HB2.out
          rwa [HE0.out] at this
        have hBut2 := but_below HI.out.2 HB2.out
        clear kp k0 k1 k2
        have c4 := hD2.d.cell 4
        have f4 := hD2.d.frozen 4
        simp only [List.getElem?_cons_zero, List.getElem?_cons_succ] at c4
        have hcE : ((E0 + 1 : Nat) : Int) = (E0 : Int) + 1 := by omega
        have hD3 : DiscAt a b c db mb (E + upS x (j + 1)) (T + 1) (keysS x ks j) (w2.setCell ⟨db, 4, none⟩ (.int .i64 ((E0 : Int) + 1))) := by
          have := hD2.edge (E0 + 1)
          rw [hcE] at this
          rw [HUP.out, ← Nat.add_assoc, HE0.out]; exact this
        have hBut3 : But (Ds2 db mb) w (w2.setCell ⟨db, 4, none⟩ (.int .i64 ((E0 : Int) + 1))) := hBut2.setCell (p := ⟨db, 4, none⟩) (.inl rfl) _
        have k0 := hD3.d.cell 0
        have k1 := hD3.d.cell 1
        have k2 := hD3.d.cell 2
        simp only [List.getElem?_cons_zero, List.getElem?_cons_succ] at k0 k1 k2
        have H3 := Lib.hid (And.intro hD3 hBut3)
        clear hD2 hD3 hBut2 hBut3 hcE
        go_wp2_with fail
        refine (HC.out j hj3 _).mono ?_
        rintro e w4 ⟨rfl, hb4⟩
        unfold cornV
        have HFj := Lib.hid (fun W => HF.out j hj3 W)
        unfold cornV at HFj
        have HNj := Lib.hid (fun h0 f hf => HN.out j hj3 h0 f hf)
        obtain ⟨SD, hSD⟩ : ∃ z, str [sideA j, sideB j] = z := ⟨_, rfl⟩
        rw [hSD] at HFj ⊢
        obtain ⟨o, ho⟩ : ∃ z, ordC a b c j = z := ⟨_, rfl⟩
        rw [ho] at HFj HNj ⊢
        have HO := Lib.hid ho
        have hD4 := H3.out.1.below hb4
        have hBut4 := but_below H3.out.2 hb4
        clear hSD ho hb4 H3 k0 k1 k2
        have qc := SBlk.new w4 97 [.int .i64 a, .int .i64 b, .int .i64 c, .string SD, .int .i64 o]
        rw [show ([.int .i64 a, .int .i64 b, .int .i64 c, .string SD, .int .i64 o] : List Value).toArray = #[.int .i64 a, .int .i64 b, .int .i64 c, .string SD, .int .i64 o] from rfl] at qc
        have hal := (Below.refl w4.heap.size w4).alloc (Nat.le_refl _) (.cells #[.int .i64 a, .int .i64 b, .int .i64 c, .string SD, .int .i64 o] 97)
        obtain ⟨W5, hW5⟩ : ∃ z, w4.alloc (.cells #[.int .i64 a, .int .i64 b, .int .i64 c, .string SD, .int .i64 o] 97) = z := ⟨_, rfl⟩
        rw [hW5] at qc hal
        have hD5 := hD4.below hal
        have hBut5 := but_below hBut4 hal
        have hne : w4.heap.size ≠ mb := by have := hD4.m.lt; omega
        have hcb : ¬ Ds2 db mb w4.heap.size := by rintro (h | h); · have := hD4.d.lt; omega
                                                  · omega
        have HC5 := Lib.hid (And.intro qc (And.intro hD5 (And.intro hBut5 hne)))
        clear hD4 hBut4 hal hD5 hBut5 hne hcb
        have e4 := qc.cell 4
        simp only [List.getElem?_cons_zero, List.getElem?_cons_succ] at e4
        by_cases h0 : o = 0
        · subst h0
          clear qc
          go_upto_region 7 with (fail)
          have HW5 := Lib.hid hW5
          clear hW5
          go_wp2_with fail
          go_roundg (3 - (j + 1))
          case measure => omega
          case rel =>
            have hw5 : w4.alloc (.cells #[.int .i64 a, .int .i64 b, .int .i64 c, .string SD, .int .i64 0] 97) = W5 := HW5.out
            rw [hw5]
            refine ⟨j + 1, by omega, rfl, by simp, Lib.hid ⟨?_, HC5.out.2.2.1⟩⟩
            rw [keysS_zero HO.out]
            exact HC5.out.2.1
        · have hoi : ((o : Int) != 0) = true := by simp; omega
          have ho0 : ¬ o = 0 := h0
          have e0 := qc.cell 0
          have e1 := qc.cell 1
          have e2 := qc.cell 2
          have e3 := qc.cell 3
          have d3 := HC5.out.2.1.d.cell 3
          simp only [List.getElem?_cons_zero, List.getElem?_cons_succ] at e0 e1 e2 e3 d3
          have hkk : ∀ W, Below W5.heap.size W5 W → W.cell? ⟨db, 3, none⟩ = some (.map (some mb)) ∧ W.cell? ⟨w4.heap.size, 0, none⟩ = some (.int .i64 a) ∧ W.cell? ⟨w4.heap.size, 1, none⟩ = some (.int .i64 b) ∧ W.cell? ⟨w4.heap.size, 2, none⟩ = some (.int .i64 c) ∧ W.cell? ⟨w4.heap.size, 3, none⟩ = some (.string SD) ∧ W.cell? ⟨w4.heap.size, 4, none⟩ = some (.int .i64 o) := fun W hb =>
            have q := HC5.out.1.below hb HC5.out.1.lt
            have qd := HC5.out.2.1.d.below hb HC5.out.2.1.d.lt
            ⟨qd.cell 3, q.cell 0, q.cell 1, q.cell 2, q.cell 3, q.cell 4⟩
          have hkm : ∀ W W', Below W5.heap.size W5 W → But (fun x => x = mb) W W' → W'.cell? ⟨db, 3, none⟩ = some (.map (some mb)) ∧ W'.cell? ⟨w4.heap.size, 0, none⟩ = some (.int .i64 a) ∧ W'.cell? ⟨w4.heap.size, 1, none⟩ = some (.int .i64 b) ∧ W'.cell? ⟨w4.heap.size, 2, none⟩ = some (.int .i64 c) ∧ W'.cell? ⟨w4.heap.size, 3, none⟩ = some (.string SD) ∧ W'.cell? ⟨w4.heap.size, 4, none⟩ = some (.int .i64 o) := fun W W' hb hm =>
            have q := (HC5.out.1.below hb HC5.out.1.lt).but hm HC5.out.2.2.2
            have qd := (HC5.out.2.1.d.below hb HC5.out.2.1.d.lt).but hm HC5.out.2.1.ne
            ⟨qd.cell 3, q.cell 0, q.cell 1, q.cell 2, q.cell 3, q.cell 4⟩
          have HKK := Lib.hid (And.intro hkk hkm)
          have hput : ∀ W (f : G (Mo a b c)), Below W5.heap.size W5 W → ∃ w', (Instr.mapUpdate 113 (.map (some mb)) (.agg #[.string (tile f), .string LJ]) (.bool true)).run Tryz.prog W = .ok () w' ∧ Hid (MapK w' mb (insK (tile f, LJ) (keysS x ks j)) ∧ But (fun x => x = mb) W w') := fun W f hb => by
            obtain ⟨w', h1, h2, h3⟩ := put_key W mb _ (tile f, LJ) (HC5.out.2.1.m.below hb HC5.out.2.1.m.lt)
            exact ⟨w', h1, Lib.hid ⟨h2, h3⟩⟩
          have HPUT := Lib.hid hput
          clear hkk hkm qc hput
          go_upto_region 7 with (fail)
          clear hW5
          go_wp2_with fail
          go_region_held3 (fun w' => w'.cell? ⟨db, 3, none⟩ = some (.map (some mb)) ∧ w'.cell? ⟨w4.heap.size, 0, none⟩ = some (.int .i64 a) ∧ w'.cell? ⟨w4.heap.size, 1, none⟩ = some (.int .i64 b) ∧ w'.cell? ⟨w4.heap.size, 2, none⟩ = some (.int .i64 c) ∧ w'.cell? ⟨w4.heap.size, 3, none⟩ = some (.string SD) ∧ w'.cell? ⟨w4.heap.size, 4, none⟩ = some (.int .i64 o))
            (first | (with_reducible assumption) | (with_reducible exact kp) | (with_reducible exact kp6) | (go_keep; done))
            (first
              | (go_at_call 154; (with_reducible refine (HLj.out _).mono ?_); rintro e w1 ⟨rfl, rfl⟩)
              | (go_at_call 60; (with_reducible refine (HFj.out _).mono ?_); rintro e w6 ⟨f, rfl, hf, hb⟩; replace hb := below_undrew hb; have kp := HKK.out.1 w6 hb; obtain ⟨w7, hput, HP7⟩ := HPUT.out w6 f hb; have kp6 := HKK.out.2 w6 w7 hb HP7.out.2; have H6 := Lib.hid (And.intro hf hb); clear hb hf))
          clear kp kp6 hput
          go_wp2_with fail
          go_roundg (3 - (j + 1))
          case measure => omega
          case rel =>
            have hD7 := (HC5.out.2.1.below H6.out.2).corner HP7.out.1 HP7.out.2
            have hBut7 : But (Ds2 db mb) w w7 := (but_below HC5.out.2.2.1 H6.out.2).trans (HP7.out.2.mono (fun q _ hq => .inr hq))
            refine ⟨j + 1, by omega, rfl, by simp, Lib.hid ⟨?_, hBut7⟩⟩
            rw [keysS_more (by rw [HO.out]; exact h0)]
            unfold keyT
            rw [HNj.out h0 f H6.out.1.1, HJJ.out]
            exact hD7
    · obtain rfl : j = 3 := by omega
      go_wp2_with fail
      go_end0
      exact ⟨rfl, HI.out.1, HI.out.2⟩
end Go.Proofs.YtcpeeopdaakbaaaGreat

namespace Go.Proofs.YtcpeeopdaakbaaaGreat
open Go.RowKit Go.Shelf Cx
attribute [local go_sem] Oper.semAt_some

/-- the tiles of the first k rings -/
noncomputable def tilesTo (M : Nat → Nat → Nat) (k : Nat) : List (List Nat) := (List.range k).flatMap (ringS M)
theorem tilesTo_succ (M : Nat → Nat → Nat) (k : Nat) : tilesTo M (k + 1) = tilesTo M k ++ ringS M k := by
  unfold tilesTo
  rw [List.range_succ, List.flatMap_append]
  simp
theorem tilesTo_length (M : Nat → Nat → Nat) : ∀ k, k ≤ 15 → (tilesTo M k).length ≤ 5000000 * k
  | 0, _ => by simp [tilesTo]
  | k + 1, h => by
    rw [tilesTo_succ, List.length_append]
    have := tilesTo_length M k (by omega)
    have h2 := ring_small M (n := k) (by omega)
    omega
/-- the edges and the corners of tiles -/
noncomputable def eS (a b c : Nat) (L : List (List Nat)) : Nat := (L.map (fun t => upS (mk t : G (Mo a b c)) 3)).sum
noncomputable def kS (a b c : Nat) (L : List (List Nat)) : List (ByteArray × ByteArray) := L.foldl (fun ks t => keysS (mk t : G (Mo a b c)) ks 3) []
theorem eS_snoc (a b c : Nat) (L : List (List Nat)) (t : List Nat) : eS a b c (L ++ [t]) = eS a b c L + upS (mk t : G (Mo a b c)) 3 := by simp [eS]
theorem kS_snoc (a b c : Nat) (L : List (List Nat)) (t : List Nat) : kS a b c (L ++ [t]) = keysS (mk t : G (Mo a b c)) (kS a b c L) 3 := by simp [kS]
theorem eS_le (a b c : Nat) (L : List (List Nat)) : eS a b c L ≤ 3 * L.length := by
  induction L with
  | nil => simp [eS]
  | cons t L ih =>
    have := upS_le (mk t : G (Mo a b c)) 3
    unfold eS at ih ⊢
    simp only [List.map_cons, List.sum_cons, List.length_cons]
    omega
/-- the disc that has counted some tiles -/
def DiscL (a b c db mb : Nat) (L : List (List Nat)) (w : World) : Prop := DiscAt a b c db mb (eS a b c L) L.length (kS a b c L) w
theorem discL_add {a b c : Nat} (hg : Good a b c) (db mb k : Nat) (hk : k ≤ 14) (t : List Nat) (ht : t ∈ ringS (Mo a b c) k) (L : List (List Nat)) (hL : L.length ≤ 100000000) (w : World) (h : DiscL a b c db mb L w) :
    Calls Tryz.prog 124 #[.pointer (some ⟨db, 0, none⟩), .string (str t)] w fun e w' => e = .returned (.tuple #[]) ∧ DiscL a b c db mb (L ++ [t]) w' ∧ But (Ds2 db mb) w w' := by
  obtain ⟨h1, h2, h3⟩ := (ring_mem k t).1 ht
  have hlow : Low (mk t : G (Mo a b c)) := fun y hy => h3 y (by rwa [h1] at hy)
  have hln : ln (mk t : G (Mo a b c)) = k := by unfold ln; rw [h1, h2]
  have htile : tile (mk t : G (Mo a b c)) = str t := by unfold tile; rw [h1]
  have hE := eS_le a b c L
  have := add_ok hg (mk t) hlow (by omega) db mb _ _ _ (by omega) (by omega) w h
  rw [htile] at this
  refine this.mono ?_
  rintro e w' ⟨rfl, h5, h6⟩
  refine ⟨rfl, ?_, h6⟩
  unfold DiscL
  rw [eS_snoc, kS_snoc, List.length_append]
  exact h5
theorem DiscL.soft {a b c db mb D : Nat} {L : List (List Nat)} {A B : World} (h : DiscL a b c db mb L A) (hs : Soft D A B) (hD : mb < D) : DiscL a b c db mb L B := by
  obtain ⟨h1, ⟨es, cl, h2, h3⟩, h4⟩ := h
  exact ⟨hs.sblk h1, ⟨es, cl, hs.keep mb _ h2 (.inl hD), h3⟩, h4⟩

/-- what newDisc knows behind some rings -/
structure DiscI (a b c db mb dp D : Nat) (w : World) (k : Nat) (A : World) : Prop where
  d : DiscL a b c db mb (tilesTo (Mo a b c) k) A
  p : SBlk A dp 111 [.pointer (some ⟨db, 0, none⟩)]
  b : Below w.heap.size w A
theorem DiscI.soft {a b c db mb dp D E : Nat} {w A B : World} {k : Nat} (h : DiscI a b c db mb dp D w k A) (hs : Soft E A B) (h1 : mb < E) (h2 : w.heap.size ≤ E) : DiscI a b c db mb dp D w k B :=
  ⟨h.d.soft hs h1, hs.sblk h.p, hs.below h.b (Nat.le_refl _) h2⟩

set_option maxRecDepth 100000 in
set_option maxHeartbeats 8000000 in
theorem newDisc_ok {a b c : Nat} (hg : Good a b c) (n : Nat) (hn : n ≤ 14) (w : World) :
    Calls Tryz.prog 70 #[.agg #[.int .i64 a, .int .i64 b, .int .i64 c], .int .i64 n] w fun e w' => ∃ db mb, e = .returned (.pointer (some ⟨db, 0, none⟩)) ∧ DiscL a b c db mb (tilesTo (Mo a b c) (n + 1)) w' ∧ Below w.heap.size w w' := by
  have HR := Lib.hid (fun W => rings_any a b c n W)
  refine (callsIn_wide (n := 1)).1 ?_
  refine callsIn_of_wp_marks Tryz.func70 rfl trivial ?_ rfl
  simp only [Tryz.ntmps70, List.size_toArray, List.length_cons, List.length_nil, Nat.reduceAdd, Nat.reduceSub, Array.replicate_succ, Array.replicate_zero, List.push_toArray, List.append_toArray, List.nil_append, List.cons_append]
  have hmm := fun W => run_makeMap (P := Tryz.prog) 113 W
  gi_wp2_with fail
  clear hmm
  obtain ⟨N, hN⟩ : ∃ N, w.heap.size = N := ⟨_, rfl⟩
  rw [hN]
  obtain ⟨W4, hW4⟩ : ∃ z, (((w.alloc (.cells #[.int .i64 a, .int .i64 b, .int .i64 c] 95)).alloc (.map #[] 0)).alloc (.cells #[.int .i64 a, .int .i64 b, .int .i64 c, .map (some (N + 1)), .int .i64 0, .int .i64 0] 115)).alloc (.cells #[.pointer (some ⟨N + 1 + 1, 0, none⟩)] 111) = z := ⟨_, rfl⟩
  have hst : W4.heap.size = N + 4 ∧ DiscL a b c (N + 1 + 1) (N + 1) (tilesTo (Mo a b c) 0) W4 ∧ SBlk W4 (N + 1 + 1 + 1) 111 [.pointer (some ⟨N + 1 + 1, 0, none⟩)] ∧ Below w.heap.size w W4 := by
    rw [← hW4]
    refine ⟨by simp; omega, ⟨(SBlk.new' _ 115 [.int .i64 a, .int .i64 b, .int .i64 c, .map (some (N + 1)), .int .i64 0, .int .i64 0] _ (by simp; omega)).alloc _, ⟨#[], 0, ?_, ⟨rfl, fun e he => by cases he⟩, List.nodup_nil⟩, by omega⟩, SBlk.new' _ 111 [.pointer (some ⟨N + 1 + 1, 0, none⟩)] _ (by simp; omega), ?_⟩
    · have h1 : (w.alloc (.cells #[.int .i64 a, .int .i64 b, .int .i64 c] 95)).heap.size = N + 1 := by simp; omega
      have h2 := World.alloc_heap_new (w.alloc (.cells #[.int .i64 a, .int .i64 b, .int .i64 c] 95)) (.map #[] 0)
      rw [h1] at h2
      rw [Below.heap_alloc _ _ _ (by simp; omega), Below.heap_alloc _ _ _ (by simp; omega)]
      exact h2
    · exact ((((Below.refl w.heap.size w).alloc (Nat.le_refl _) _).alloc (by simp) _).alloc (by simp; omega) _).alloc (by simp; omega) _
  have HST := Lib.hid (And.intro hst hN)
  rw [hW4]
  clear hst hN hW4
  refine ⟨trivial, (callsIn_wide.2 (HR.out _)).mono ?_⟩
  rintro e W0 ⟨rfl, hw0⟩
  have hz4 : W4.heap.size = N + 1 + 1 + 1 + 1 := HST.out.1.1
  have hst : SBlk W0 (N + 1 + 1 + 1 + 1 + 1) 3 [.int .i64 n] ∧ SBlk W0 (N + 1 + 1 + 1 + 1) 95 [.int .i64 a, .int .i64 b, .int .i64 c] ∧ W0.heap.size = N + 6 ∧ DiscI a b c (N + 1 + 1) (N + 1) (N + 1 + 1 + 1) 0 w 0 W0 := by
    obtain ⟨⟨z1, z2, z3, z4⟩, z5⟩ := HST.out
    have hal : Below W4.heap.size W4 W0 := by rw [← hw0]; exact ((Below.refl _ W4).alloc (Nat.le_refl _) _).alloc (by simp) _
    refine ⟨?_, ?_, ?_, z2.below hal, z3.below hal z3.lt, z4.trans (hal.mono z4.size)⟩
    · rw [← hw0]; exact SBlk.new' _ 3 [.int .i64 n] _ (by simp; omega)
    · rw [← hw0]; exact (SBlk.new' _ 95 [.int .i64 a, .int .i64 b, .int .i64 c] _ (by omega)).alloc _
    · rw [← hw0]; simp; omega
  rw [hz4]
  clear hw0 hz4
  obtain ⟨h1, h2, hsz, h3⟩ := hst
  have hNw : w.heap.size = N := HST.out.2
  gi_wp2_with fail
  refine rangeP (gf := 161) (cap := #[.pointer (some ⟨N + 1 + 1 + 1 + 1 + 1, 0, none⟩), .pointer (some ⟨N + 1 + 1 + 1 + 1, 0, none⟩)]) (encs := encV) rfl trivial rfl (enters_of Tryz.func161 (by kernel_rfl) rfl) (fun _ => rfl) (S := Ds2 (N + 1 + 1) (N + 1)) (by rintro k (rfl | rfl) <;> omega)
    (rings_iter hg n hn (N + 1 + 1 + 1 + 1 + 1) (N + 1 + 1 + 1 + 1) _ (by rintro ((h | h) | h | h) <;> omega) (by rintro ((h | h) | h | h) <;> omega) W0 (by rintro k ((h | h) | h | h) <;> omega) h1 h2)
    (fun _ _ _ h _ => h)
    (fun pre A => pre.length ≤ 15 ∧ DiscI a b c (N + 1 + 1) (N + 1) (N + 1 + 1 + 1) 0 w pre.length A) (fun _ _ => False) (fun _ _ => False)
    (fun pre A B h hs => ⟨h.1, h.2.soft hs (by omega) (by omega)⟩) (fun _ _ _ h _ => h) ⟨by simp, h3⟩
    (fun pre x a' A => (pre.length ≤ 14 ∧ DiscI a b c (N + 1 + 1) (N + 1) (N + 1 + 1 + 1) 0 w pre.length A ∧ ListAt A (W0.heap.size + 2) x (cellsW (ringS (Mo a b c) pre.length))) ∧ a' = { tmps := #[.agg #[.int .i64 a, .int .i64 b, .int .i64 c], .int .i64 n, .pointer (some ⟨N, 0, none⟩), undef, .pointer none, .pointer (some ⟨N + 1 + 1 + 1, 0, none⟩), x, undef, undef, .agg #[.int .i64 a, .int .i64 b, .int .i64 c], .map (some (N + 1)), .agg #[.int .i64 a, .int .i64 b, .int .i64 c, .map (some (N + 1)), .int .i64 0, .int .i64 0], .pointer (some ⟨N + 1 + 1, 0, none⟩), .agg #[.int .i64 a, .int .i64 b, .int .i64 c], .int .i64 n, .func (.func 161) #[] #[.pointer (some ⟨N + 1 + 1 + 1 + 1 + 1, 0, none⟩), .pointer (some ⟨N + 1 + 1 + 1 + 1, 0, none⟩)], x, undef, undef, undef, undef, undef, undef, undef, undef, undef, undef, undef], defers := [] })
    (fun pre x a' A B h hs => ⟨⟨h.1.1, h.1.2.1.soft hs (by omega) (by omega), h.1.2.2.soft hs⟩, h.2⟩) ?assign ?body ?done (fun _ _ h => h.elim) (fun _ _ h => h.elim)
  case assign =>
    intro l2 pre x A K hNx hI hK
    unfold encV
    have HI := Lib.hid (And.intro hNx hI)
    clear hNx hI
    gi_wp2_with fail
    exact hK _ _ (But.refl _ _) ⟨⟨by have := HI.out.1.1; omega, HI.out.2.2, HI.out.1.2⟩, rfl⟩
  case body =>
    rintro l2 pre x a' A ⟨⟨hp, hI, hx⟩, rfl⟩
    obtain ⟨q, hq⟩ : ∃ q, pre.length = q := ⟨_, rfl⟩
    rw [hq] at hp hI hx
    have hmem : ∀ i, i < (ringS (Mo a b c) q).length → (ringS (Mo a b c) q).getD i [] ∈ ringS (Mo a b c) q := fun i hi => by simp [List.getElem?_eq_getElem hi]
    have hlen := ring_small (Mo a b c) hp
    have htl := tilesTo_length (Mo a b c) q (by omega)
    have HA := Lib.hid (fun i (hi : i < (ringS (Mo a b c) q).length) W (h : DiscL a b c (N + 1 + 1) (N + 1) (tilesTo (Mo a b c) q ++ (ringS (Mo a b c) q).take i) W) => discL_add hg (N + 1 + 1) (N + 1) q hp _ (hmem i hi) _ (by rw [List.length_append, List.length_take]; omega) W h)
    obtain ⟨xp, xc, rfl⟩ := hx.slice
    have hcell : ∀ W, But (Ds2 (N + 1 + 1) (N + 1)) A W → ∀ i, i < (ringS (Mo a b c) q).length → ∃ g, xp = some ⟨g, 0, none⟩ ∧ W.cell? ⟨g, i, none⟩ = some (.string (str ((ringS (Mo a b c) q).getD i []))) := by
      intro W hW i hi
      rcases hx with ⟨h0, _⟩ | ⟨g, cap, ex, hgD, he, _, _, hb⟩
      · rw [show (ringS (Mo a b c) q) = [] by simpa [cellsW] using h0] at hi; cases hi
      · have hxp : xp = some ⟨g, 0, none⟩ := by injection he
        refine ⟨g, hxp, ?_⟩
        have hb2 := hb.but hW (by rintro (h | h) <;> omega)
        rw [hb2.cell, List.getElem?_append_left (by rw [cellsT_length, cellsW_length]; exact hi), cellsT_get (by rw [cellsW_length]; exact hi), cellsW_get hi]
    have HC := Lib.hid hcell
    have HI := Lib.hid (And.intro hI (And.intro hq (And.intro hlen hx)))
    have HSZ := Lib.hid (And.intro hNw hsz)
    clear hcell hI hq hlen hx hmem htl h1 h2 h3 hNw hsz
    rw [cellsW_length]
    obtain ⟨RL, hRL⟩ : ∃ z, ringS (Mo a b c) q = z := ⟨_, rfl⟩
    rw [hRL] at HA HC HI ⊢
    have HRL := Lib.hid hRL
    clear hRL
    obtain ⟨M, hM⟩ : ∃ z, RL.length = z := ⟨_, rfl⟩
    rw [hM] at HA HC HI ⊢
    have HM := Lib.hid hM
    clear hM
    gi_wp2_with fail
    gi_loopg [19] M (fun g s19 wi => ∃ i : Nat, i ≤ M ∧ g = M - i ∧ s19 = .int .i64 (i : Int) ∧ Hid (DiscL a b c (N + 1 + 1) (N + 1) (tilesTo (Mo a b c) q ++ RL.take i) wi ∧ SBlk wi (N + 1 + 1 + 1) 111 [.pointer (some ⟨N + 1 + 1, 0, none⟩)] ∧ But (Ds2 (N + 1 + 1) (N + 1)) A wi))
    case atStart => exact ⟨0, Nat.zero_le _, rfl, rfl, Lib.hid ⟨by rw [List.take_zero, List.append_nil]; exact HI.out.1.d, HI.out.1.p, But.refl _ _⟩⟩
    case round =>
      obtain ⟨i, hi, rfl, rfl, HJ⟩ := hrel
      by_cases hlt : i < M
      · have hii : (i : Int) < (M : Int) := by omega
        obtain ⟨g, rfl, hcl⟩ := HC.out _ HJ.out.2.2 i hlt
        obtain ⟨TS, hTS⟩ : ∃ z, str (RL.getD i []) = z := ⟨_, rfl⟩
        have p0 := HJ.out.2.1.cell 0
        simp only [List.getElem?_cons_zero] at p0
        have HAi := Lib.hid (HA.out i hlt _ HJ.out.1)
        rw [hTS] at hcl HAi
        clear hTS
        have hwi : IntKind.i64.wrap ((i : Int) + 1) = (i : Int) + 1 := IntWalk.i64_in _ (by have := HI.out.2.2.1; omega)
        gi_wp2_with fail
        refine ⟨trivial, rfl, (CallsIn.inRound l2 (callsIn_wide.2 HAi.out)).mono ?_⟩
        rintro e w5 ⟨rfl, hD5, hB5⟩
        have H5 := Lib.hid (And.intro hD5 hB5)
        clear hD5 hB5 p0 hcl
        gi_wp2_with fail
        gi_roundg (M - (i + 1))
        case measure => omega
        case rel =>
          refine ⟨i + 1, by omega, rfl, by simp, Lib.hid ⟨?_, HJ.out.2.1.but H5.out.2 (by rintro (h | h) <;> (have := HSZ.out; omega)), HJ.out.2.2.trans (H5.out.2.mono (fun _ _ h => h))⟩⟩
          have := H5.out.1
          rw [List.append_assoc] at this
          rw [List.take_succ_eq_append_getElem (by rw [HM.out]; exact hlt)]
          have e : RL.getD i [] = RL[i]'(by rw [HM.out]; exact hlt) := by simp [List.getElem?_eq_getElem (show i < RL.length by rw [HM.out]; exact hlt)]
          rw [e] at this
          exact this
      · obtain rfl : i = M := by omega
        have hE : DiscI a b c (N + 1 + 1) (N + 1) (N + 1 + 1 + 1) 0 w (q + 1) wr := by
          refine ⟨?_, HJ.out.2.1, ?_⟩
          · rw [tilesTo_succ]
            have := HJ.out.1
            rw [← HM.out, List.take_length] at this
            rw [HRL.out]
            exact this
          · exact HI.out.1.b.trans (HJ.out.2.2.below (n := w.heap.size) HI.out.1.b.size (by rintro k (rfl | rfl) <;> (have := HSZ.out; omega)))
        have HEE := Lib.hid hE
        clear hE
        gi_wp2_with fail
        refine ⟨HJ.out.2.2, ?_, ?_⟩
        · rw [List.length_append, HI.out.2.1]; show q + 1 ≤ 15; omega
        · rw [List.length_append, HI.out.2.1]; exact HEE.out
  case done =>
    rintro xs B hdn ⟨_, hD⟩ hK
    rw [hdn] at hD
    have e0 := hD.p.cell 0
    simp only [List.getElem?_cons_zero] at e0
    have HD := Lib.hid hD
    clear hD
    gi_wp2_with fail
    refine ⟨by simp, .inl ⟨_, _, rfl, run_takeDeferred hK, ?_⟩⟩
    have hs : Soft W0.heap.size B (B.putObj W0.heap.size (.deferred none)) := Soft.put _ hK rfl (Nat.le_refl _)
    have hD2 := HD.out.soft hs (by omega) (by omega)
    exact ⟨_, results_tmp rfl _ _ _, N + 1 + 1, N + 1, rfl, hD2.d, hD2.b⟩
end Go.Proofs.YtcpeeopdaakbaaaGreat

namespace Go.Proofs.YtcpeeopdaakbaaaGreat
open Go.RowKit Go.Shelf Cx

theorem below_drewN {n : Nat} {A B : World} (h : Below n A B) (m : Nat) : Below n A (B.drewN m) := ⟨h.os, h.tape, h.output, h.size, h.block⟩
set_option maxRecDepth 100000 in
set_option maxHeartbeats 1000000 in
theorem Cells_err (a b c n : Int) (he : faultT a b c n 14 ≠ 0) (w : World) :
    Calls Tryz.prog 19 #[.agg #[.int .i64 a, .int .i64 b, .int .i64 c], .int .i64 n] w fun e w' => e = .returned (.tuple #[.int .i64 0, .int .i64 0, .int .i64 0, .int .i64 (faultT a b c n 14)]) ∧ Below w.heap.size w w' := by
  have HF := Lib.hid (fun W => tfault_any a b c n 14 W)
  generalize faultT a b c n 14 = k at *
  have hk : (k != 0) = true := by simpa using he
  clear he
  go_enter Tryz.func19, Tryz.ntmps19
  go_wp2_with (go_at_call 69; refine (HF.out _).mono ?_; rintro e w1 ⟨rfl, hb1⟩; have HB1 := Lib.hid (below_a1 hb1); clear hb1)
  (try simp only [Exit.inBlock, Exit.then])
  refine bodyPost_ret (v := .tuple #[.int .i64 0, .int .i64 0, .int .i64 0, .int .i64 k]) ?_ rfl ⟨rfl, HB1.out⟩
  simp [results, Tryz.results19, go_sem]

set_option maxRecDepth 100000 in
set_option maxHeartbeats 4000000 in
theorem Cells_ok {a b c : Nat} (hg : Good a b c) (n : Nat) (hn : n ≤ 14) (w : World) :
    Calls Tryz.prog 19 #[.agg #[.int .i64 a, .int .i64 b, .int .i64 c], .int .i64 n] w fun e w' => e = .returned (.tuple #[.int .i64 (kS a b c (tilesTo (Mo a b c) (n + 1))).length, .int .i64 (eS a b c (tilesTo (Mo a b c) (n + 1))), .int .i64 (tilesTo (Mo a b c) (n + 1)).length, .int .i64 0]) ∧ Below w.heap.size w w' := by
  have hf := fun W => tfault_any a b c n 14 W
  have hz : faultT (a : Int) (b : Int) (c : Int) (n : Int) 14 = 0 := by
    unfold faultT
    rw [if_pos (allowedS_good hg), if_neg (by omega), if_neg (by omega)]
  rw [hz] at hf
  have HF := Lib.hid hf
  have HD := Lib.hid (fun W => newDisc_ok hg n hn W)
  unfold DiscL at HD
  have HLM := Lib.hid (fun W mb ks h => len_map W mb ks h)
  generalize tilesTo (Mo a b c) (n + 1) = L at *
  generalize kS a b c L = KK at *
  generalize eS a b c L = EE at *
  generalize L.length = TT at *
  clear hf hz hg hn
  go_enter Tryz.func19, Tryz.ntmps19
  go_wp2_with fail
  refine (HF.out _).mono ?_
  rintro e w1 ⟨rfl, hb1⟩
  have q0 := (SBlk.new w 23 [.int .i64 a, .int .i64 b, .int .i64 c]).below hb1 (by simp)
  have HB1 := Lib.hid (below_a1 hb1)
  have p0 := q0.cell 0
  have p1 := q0.cell 1
  have p2 := q0.cell 2
  simp only [List.getElem?_cons_zero, List.getElem?_cons_succ] at p0 p1 p2
  clear hb1 q0
  go_wp2_with fail
  refine (HD.out _).mono ?_
  rintro e w2 ⟨db, mb, rfl, hd, hb2⟩
  have HB2 := Lib.hid hb2
  have d3 := hd.d.cell 3
  have d4 := hd.d.cell 4
  have d5 := hd.d.cell 5
  simp only [List.getElem?_cons_zero, List.getElem?_cons_succ] at d3 d4 d5
  have hlm := HLM.out w2 mb _ hd.m
  have hlm2 : ∀ n, (Builtin.len_ #[113] 3 #[.map (some mb)]).run Tryz.prog (w2.drewN n) = .ok (.int .i64 KK.length) (w2.drewN n) := fun n => HLM.out (w2.drewN n) mb _ (hd.m.same rfl)
  clear hd hb2 p0 p1 p2
  go_wp2_with fail
  go_quiet (fail)
  clear hlm hlm2 d3 d4 d5
  go_wp2_with fail
  (try simp only [Exit.inBlock, Exit.then])
  refine bodyPost_ret (v := .tuple #[.int .i64 KK.length, .int .i64 EE, .int .i64 TT, .int .i64 0]) ?_ rfl ⟨rfl, below_drewN (HB1.out.trans (HB2.out.mono HB1.out.size)) _⟩
  simp [results, Tryz.results19, go_sem]
end Go.Proofs.YtcpeeopdaakbaaaGreat
