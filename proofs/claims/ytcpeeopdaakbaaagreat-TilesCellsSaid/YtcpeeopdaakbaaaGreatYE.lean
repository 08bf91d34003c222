/- Words that are made: the empty one, the normal word. The normal word of a word that is made. Words, one behind another; a word from its end to its beginning. Orders: the least common multiple, the error of orders. -/
import Derived.Test.YtcpeeopdaakbaaaGreatYd
namespace Go.Proofs.YtcpeeopdaakbaaaGreat
open Go.RowKit Go.Shelf Cx

theorem infoB : (Tryz.prog.info? 5).map (fun i => (i.zero, i.size, i.bytes)) = some (some (.int .u8 0), 1, 1) := by kernel_rfl

set_option maxRecDepth 100000 in
theorem makeB (k : Nat) (h : k ≤ 140737488355328) (w : World) : (Instr.makeSlice 220 (.int .i64 k) (.int .i64 k)).run Tryz.prog w = .ok (.slice (some ⟨w.heap.size, 0, none⟩) k k) (w.alloc (.cells (cellsB (List.replicate k 0)).toArray 5)) := by
  have h := run_make_row' (P := Tryz.prog) 220 5 (.int .u8 0) 1 Tryz.underlying220 infoB rfl .i64 .i64 k (by omega) (by omega) w
  rw [h]
  congr 3
  congr 1
  apply Array.ext
  · simp [madeCells, cellsB]
  · intro i h1 h2
    simp [madeCells, cellsB, Nat.mod_one]

set_option maxRecDepth 100000 in
set_option maxHeartbeats 1000000 in
theorem empty_any (ob n : Nat) (w : World) (hn : n ≤ 140737488355328) :
    Calls Tryz.prog 189 #[.pointer (some ⟨ob, 0, none⟩), .int .i64 n] w fun e w' => ∃ mb rb, e = .returned (.pointer (some ⟨mb, 0, none⟩)) ∧ MadeAt w' mb ob rb (List.replicate n 0) [] ∧ mb ≠ rb ∧ w.heap.size ≤ mb ∧ w.heap.size ≤ rb ∧ Below w.heap.size w w' := by
  have hmk := makeB n hn
  go_enter Tryz.func189, Tryz.ntmps189
  go_wp2_with fail
  go_ret
  refine ⟨w.heap.size + 1, w.heap.size, rfl, ⟨?_, ?_⟩, by omega, by omega, Nat.le_refl _, (((Below.refl _ w).alloc (Nat.le_refl _) _).alloc (by simp) _)⟩
  · have := SBlk.new' (w.alloc (.cells (cellsB (List.replicate n 0)).toArray 5)) 274 [.pointer (some ⟨ob, 0, none⟩), .slice (some ⟨w.heap.size, 0, none⟩) n n, .int .i64 n] (w.heap.size + 1) (by simp)
    simpa using this
  · have := (SBlk.new w 5 (cellsB (List.replicate n 0))).alloc (.cells #[.pointer (some ⟨ob, 0, none⟩), .slice (some ⟨w.heap.size, 0, none⟩) n n, .int .i64 n] 274)
    simpa using this

set_option maxRecDepth 100000 in
set_option maxHeartbeats 1000000 in
theorem least_any {M : Nat → Nat → Nat} {a b c : Nat} (hMe : M = Mo a b c) (ha : Lim a) (hb : Lim b) (hc : Lim c) (mb ob rb f : Nat) (V1 V2 : Value) (hor : ob ≠ rb) (hmr : mb ≠ rb) (pre l : List Nat) (w : World)
    (hm : SBlk w mb 274 [.pointer (some ⟨ob, 0, none⟩), V1, V2]) (hlow : ∀ y ∈ f :: l, y < 3) (hml : pre.length + (l.length + 1) ≤ 140737488355328) (hred : Red M (f :: l)) (ho : SBlk w ob 272 (ordCells a b c)) (hr : SBlk w rb 5 (cellsB (pre ++ f :: l))) :
    Calls Tryz.prog 193 #[.pointer (some ⟨mb, 0, none⟩), .slice (some ⟨rb, pre.length, none⟩) (l.length + 1) (l.length + 1)] w fun e w' => e = .returned (.tuple #[]) ∧
      ∃ c y, (mk (c :: y) : G M) = mk (f :: l) ∧ y.length = l.length ∧ (∀ q ∈ c :: y, q < 3) ∧ (∀ j, j < c → ¬ Ds (mk (c :: y) : G M) j) ∧ SBlk w' rb 5 (cellsB (pre ++ c :: y)) ∧ w.grownBy w' (some rb) := by
  have c0 := hr.cell pre.length
  rw [cellsB_get (x := f) (by simp)] at c0
  have hf : f < 3 := hlow f List.mem_cons_self
  have H := Lib.hid (And.intro hm (And.intro hlow (And.intro hred (And.intro ho hr))))
  clear hm hred ho hr
  have j1 : (0 : Int) < (l.length : Int) + 1 := by omega
  go_enter Tryz.func193, Tryz.ntmps193
  go_wp2_with fail
  go_loopw [8] (fun i wr => ∃ (k : Nat) (y : List Nat), k ≤ f ∧ i = .int .u8 (k : Int) ∧ (mk (f :: y) : G M) = mk (f :: l) ∧ y.length = l.length ∧ (∀ q ∈ f :: y, q < 3) ∧ (∀ j, j < k → ¬ Ds (mk (f :: l) : G M) j) ∧ SBlk wr rb 5 (cellsB (pre ++ f :: y)) ∧ w.grownBy wr (some rb)) (fun i _ => f - (intOf i).toNat)
  case atStart => exact ⟨0, l, Nat.zero_le _, rfl, rfl, rfl, H.out.2.1, fun j hj => by omega, H.out.2.2.2.2, only_refl _ _⟩
  case round =>
    obtain ⟨k, y, hk, rfl, hs, hyl, hlw, hds, hsb, hgr⟩ := hrel
    by_cases hkf : k < f
    · have hmm := H.out.1.grown hgr (by intro e; injection e with e; exact hmr e)
      have m0 := hmm.cell 0
      simp only [List.getElem?_cons_zero] at m0
      have hc := fun W h1 h2 => bring_any hMe ha hb hc ob rb hor (l.length + 1) k pre (f :: y) W (by simp [hyl]) (by simp) (by omega) hlw (by simp; omega) (red_same H.out.2.2.1 hs (by simp [hyl])) h1 h2
      have e1 : (f :: y).length = l.length + 1 := by simp [hyl]
      rw [e1] at hc
      have HC := Lib.hid hc
      have hoo := H.out.2.2.2.1.grown hgr (by intro e; injection e with e; exact hor e)
      have HX := Lib.hid (And.intro hoo (And.intro hsb (And.intro hs (And.intro hyl (And.intro hlw (And.intro hds hgr))))))
      clear hc hoo hsb hs hyl hlw hds hgr hmm e1
      go_wp2_with (go_at_call 216; refine (HC.out _ HX.out.1 HX.out.2.1).mono ?_; rintro e w' ⟨bb, z, rfl, hbr, hsb, hgr⟩; have HB := Lib.hid (And.intro hbr (And.intro hsb hgr)); clear hbr hsb hgr; rcases bb)
      · go_roundw
        case measure => simp [intOf]; omega
        case rel =>
          obtain ⟨hoo, hsb, hs, hyl, hlw, hds, hgr⟩ := HX.out
          obtain ⟨hbr, hsb2, hgr2⟩ := HB.out
          have h1 := (hbr.no rfl).2
          have h2 := hbr.len
          cases z with
          | nil => simp at h2
          | cons f' z =>
            simp only [List.head?_cons, Option.some.injEq] at h1
            subst h1
            refine ⟨k + 1, z, by omega, by simp, hbr.same.trans hs, by simp at h2; omega, hbr.low hlw, fun j hj => ?_, hsb2, only_trans hgr hgr2⟩
            rcases Nat.lt_or_ge j k with h | h
            · exact hds j h
            · obtain rfl : j = k := by omega
              rw [← hs]
              exact (hbr.no rfl).1
      · refine bodyPost_ret (results_none rfl _ _ _) rfl ?_
        obtain ⟨hoo, hsb, hs, hyl, hlw, hds, hgr⟩ := HX.out
        obtain ⟨hbr, hsb2, hgr2⟩ := HB.out
        have h1 := hbr.yes rfl
        have h2 := hbr.len
        cases z with
        | nil => simp at h1
        | cons c z =>
          simp only [List.head?_cons, Option.some.injEq] at h1
          subst h1
          refine ⟨rfl, c, z, hbr.same.trans hs, by simp at h2; omega, hbr.low hlw, fun j hj => ?_, hsb2, only_trans hgr hgr2⟩
          rw [hbr.same, hs]
          exact hds j hj
    · obtain rfl : k = f := by omega
      have HX := Lib.hid (And.intro hs (And.intro hyl (And.intro hlw (And.intro hds (And.intro hsb hgr)))))
      clear hs hyl hlw hds hsb hgr
      go_wp2_with fail
      go_end0
      obtain ⟨hs, hyl, hlw, hds, hsb, hgr⟩ := HX.out
      exact ⟨rfl, k, y, hs, hyl, hlw, fun j hj => by rw [hs]; exact hds j hj, hsb, hgr⟩
end Go.Proofs.YtcpeeopdaakbaaaGreat

namespace Go.Proofs.YtcpeeopdaakbaaaGreat
open Go.RowKit Go.Shelf Cx

section
variable {M : Nat → Nat → Nat}
/-- the letters that are done are the least that can stand there -/
def DoneTo (M : Nat → Nat → Nat) (d r : List Nat) : Prop := ∀ u c v, d = u ++ c :: v → ∀ j, j < c → ¬ Ds (mk (c :: v ++ r) : G M) j

theorem DoneTo.nil (r : List Nat) : DoneTo M [] r := by
  intro u c v h
  cases u <;> cases h

theorem same_suffix {d r r' : List Nat} (h : (mk r : G M) = mk r') : (mk (d ++ r) : G M) = mk (d ++ r') := by rw [← mk_mul, h, mk_mul]

theorem DoneTo.more {d r y : List Nat} {c : Nat} (h : DoneTo M d r) (hs : (mk (c :: y) : G M) = mk r) (hl : ∀ j, j < c → ¬ Ds (mk (c :: y) : G M) j) : DoneTo M (d ++ [c]) y := by
  intro u c' v he j hj
  rcases List.append_eq_append_iff.1 he with ⟨a, rfl, h2⟩ | ⟨a, h1, h2⟩
  · -- u = d ++ a
    cases a with
    | nil => simp at h2; obtain ⟨rfl, rfl⟩ := h2; exact hl j hj
    | cons x a => simp at h2
  · cases a with
    | nil => simp at h2; obtain ⟨rfl, rfl⟩ := h2; exact hl j hj
    | cons x a =>
      simp only [List.cons_append, List.cons.injEq] at h2
      obtain ⟨rfl, rfl⟩ := h2
      have := h u c' a h1 j hj
      intro hd
      apply this
      have e : (mk (c' :: a ++ r) : G M) = mk (c' :: (a ++ [c]) ++ y) := by
        have := same_suffix (d := c' :: a) hs
        rw [← this]
        simp
      rw [e]; exact hd

theorem DoneTo.greedy {d : List Nat} (h : DoneTo M d []) (hr : Red M d) : Greedy M d := by
  induction d with
  | nil => exact .nil
  | cons c v ih =>
    refine .cons hr (fun j hj => ?_) (ih ?_ (red_tail hr))
    · have := h [] c v rfl j hj
      simpa using this
    · intro u c' v' he
      exact h (c :: u) c' v' (by rw [he]; rfl)
end

theorem run_str (w : World) (b o cap : Nat) (n : List Nat) (hlow : ∀ y ∈ n, y < 256) (hc : ∀ j (h : j < n.length), w.cell? ⟨b, o + j, none⟩ = some (.int .u8 ((n[j] : Nat) : Int))) :
    (convert 220 9 (.slice (some ⟨b, o, none⟩) n.length cap)).run Tryz.prog w = .ok (.string (str n)) w := by
  have h := run_convert_bytes_back (P := Tryz.prog) w 220 9 5 ⟨b, o, none⟩ cap (n.map UInt8.ofNat) Tryz.underlying220 Tryz.underlying5 Tryz.underlying9 (fun j hj => by
    have hj2 : j < n.length := by simpa using hj
    have e : Addr.add ⟨b, o, none⟩ j = ⟨b, o + j, none⟩ := by
      unfold Addr.add
      by_cases h0 : j = 0
      · subst h0; simp
      · simp [h0]
    rw [e, hc j hj2]
    have : n[j] < 256 := hlow _ (List.getElem_mem hj2)
    simp; omega)
  rw [List.length_map] at h
  exact h

/-- what normal leaves -/
def RNorm (M : Nat → Nat → Nat) (rb : Nat) (l : List Nat) (w : World) (e : Ending) (w' : World) : Prop :=
  e = .returned (.string (str (nf (mk l : G M)))) ∧ (∀ y ∈ nf (mk l : G M), y < 3) ∧ (nf (mk l : G M)).length = l.length ∧ w.grownBy w' (some rb)

set_option maxRecDepth 100000 in
set_option maxHeartbeats 1000000 in
theorem normal_any {M : Nat → Nat → Nat} {a b c : Nat} (hMe : M = Mo a b c) (ha : Lim a) (hb : Lim b) (hc : Lim c) (mb ob rb : Nat) (hor : ob ≠ rb) (hmr : mb ≠ rb) (pre l : List Nat) (w : World)
    (hm : MadeAt w mb ob rb pre l) (hlow : ∀ y ∈ l, y < 3) (hml : pre.length + l.length ≤ 140737488355328) (hred : Red M l) (ho : SBlk w ob 272 (ordCells a b c)) :
    Calls Tryz.prog 144 #[.pointer (some ⟨mb, 0, none⟩)] w (RNorm M rb l w) := by
  have hle := letters_any mb ob rb pre l w hm hml
  have HL := Lib.hid hle
  have H := Lib.hid (And.intro hm (And.intro hlow (And.intro hred ho)))
  clear hle hm hlow hred ho
  have had : (l.length = 0 → ladr rb pre l = some ⟨rb, 0, none⟩) ∧ (0 < l.length → ladr rb pre l = some ⟨rb, pre.length, none⟩) := by
    unfold ladr
    exact ⟨fun h => by rw [if_pos h], fun h => by rw [if_neg (by omega)]⟩
  obtain ⟨A, hA⟩ : ∃ A, ladr rb pre l = A := ⟨_, rfl⟩
  rw [hA] at had HL
  have HA := Lib.hid had
  clear had hA
  go_enter Tryz.func144, Tryz.ntmps144
  go_wp2_with (go_at_call 192; refine HL.out.mono ?_; rintro e w' ⟨rfl, q, rfl⟩)
  go_loopw [9] (fun i wr => ∃ (k : Nat) (d r : List Nat), i = .int .i64 (k : Int) ∧ d.length = k ∧ k + r.length = l.length ∧ (mk (d ++ r) : G M) = mk l ∧ (∀ y ∈ d ++ r, y < 3) ∧ DoneTo M d r ∧ SBlk wr rb 5 (cellsB (pre ++ (d ++ r))) ∧ w.grownBy wr (some rb)) (fun i _ => l.length - (intOf i).toNat)
  case atStart => exact ⟨0, [], l, rfl, rfl, by simp, rfl, H.out.2.1, DoneTo.nil _, H.out.1.r, only_drewN (only_refl _ _) q⟩
  case round =>
    obtain ⟨k, d, r, rfl, hdl, hrl, hs, hlw, hdo, hsb, hgr⟩ := hrel
    by_cases hkl : k < l.length
    · obtain rfl := HA.out.2 (by omega)
      cases r with
      | nil => simp at hrl; omega
      | cons f r =>
        have hmm := H.out.1.m.grown hgr (by intro e; injection e with e; exact hmr e)
        have hoo := H.out.2.2.2.grown hgr (by intro e; injection e with e; exact hor e)
        have hrd : Red M (d ++ f :: r) := red_same H.out.2.2.1 hs (by simp at hrl ⊢; omega)
        have e1 : (pre ++ d).length = pre.length + k := by simp [hdl]
        have e2 : r.length + 1 = l.length - k := by simp at hrl; omega
        have hc := least_any hMe ha hb hc mb ob rb f _ _ hor hmr (pre ++ d) r wr hmm (fun y hy => hlw y (List.mem_append_right _ hy)) (by rw [e1]; omega) (red_drop hrd) hoo (by rw [List.append_assoc]; exact hsb)
        rw [e1, e2] at hc
        have HC := Lib.hid hc
        have HX := Lib.hid (And.intro hdl (And.intro hrl (And.intro hs (And.intro hlw (And.intro hdo (And.intro hsb hgr))))))
        have j1 : (0 : Int) ≤ (k : Int) := by omega
        have j2 : (k : Int) ≤ (l.length : Int) := by omega
        have j3 : (l.length = k) = False := by simp; omega
        clear hc hdl hrl hs hlw hdo hsb hgr hmm hoo e1 e2
        go_wp2_with (go_at_call 193; refine HC.out.mono ?_; rintro e w' ⟨rfl, hq⟩; have HQ := Lib.hid hq; clear hq)
        go_roundw
        case measure => simp [intOf]; omega
        case rel =>
          obtain ⟨hdl, hrl, hs, hlw, hdo, hsb, hgr⟩ := HX.out
          obtain ⟨c, y, hcy, hyl, hcl, hcd, hsb2, hgr2⟩ := HQ.out
          refine ⟨k + 1, d ++ [c], y, by simp, by simp [hdl], by simp at hrl; omega, ?_, ?_, hdo.more hcy hcd, ?_, only_trans hgr hgr2⟩
          · rw [← hs]
            have := same_suffix (d := d) hcy
            rw [← this]; simp
          · intro q hq
            rw [List.append_assoc] at hq
            rcases List.mem_append.1 hq with h | h
            · exact hlw q (List.mem_append_left _ h)
            · exact hcl q h
          · simpa using hsb2
    · obtain rfl : k = l.length := by omega
      have hr0 : r = [] := List.length_eq_zero_iff.1 (by omega)
      subst hr0
      rw [List.append_nil] at hs hlw hsb
      have hg := hdo.greedy (red_same H.out.2.2.1 hs hdl)
      have hnf : nf (mk l : G M) = d := by rw [← hs]; exact nf_eq hg
      have hcv : (convert 220 9 (.slice A l.length l.length)).run Tryz.prog wr = .ok (.string (str d)) wr := by
        have hlow' : ∀ y ∈ d, y < 256 := fun y hy => by have := hlw y hy; omega
        rw [← hdl]
        rcases Nat.eq_zero_or_pos l.length with h0 | h0
        · rw [HA.out.1 h0]
          exact run_str wr rb 0 _ d hlow' (fun j hj => by omega)
        · rw [HA.out.2 h0]
          refine run_str wr rb pre.length _ d hlow' (fun j hj => ?_)
          rw [hsb.cell, cellsB_get (x := d[j])]
          rw [List.getElem?_append_right (by omega)]
          simp [List.getElem?_eq_getElem hj]
      have HX := Lib.hid (And.intro hnf (And.intro hlw (And.intro hdl hgr)))
      clear hnf hlw hdl hgr hs hdo hsb hg hrl
      go_wp2_with fail
      go_ret
      obtain ⟨hnf, hlw, hdl, hgr⟩ := HX.out
      exact ⟨by rw [hnf]; rfl, by rw [hnf]; exact hlw, by rw [hnf]; exact hdl, hgr⟩
end Go.Proofs.YtcpeeopdaakbaaaGreat

namespace Go.Proofs.YtcpeeopdaakbaaaGreat
open Go.RowKit Go.Shelf Cx

/-- words one behind another -/
def cat (ws : List ByteArray) : List Nat := (ws.map bytesN).flatten

theorem cat_cons (s : ByteArray) (ws : List ByteArray) : cat (s :: ws) = bytesN s ++ cat ws := by simp [cat]
theorem cat_drop {ws : List ByteArray} {i : Nat} (h : i < ws.length) : cat (ws.drop i) = bytesN ws[i] ++ cat (ws.drop (i + 1)) := by
  rw [List.drop_eq_getElem_cons h, cat_cons]
theorem cat_take_length {ws : List ByteArray} {i : Nat} (h : i < ws.length) : (cat (ws.take (i + 1))).length = (cat (ws.take i)).length + (ws[i]).size := by
  have e : cat (ws.take (i + 1)) = cat (ws.take i) ++ bytesN ws[i] := by
    unfold cat
    rw [List.take_succ_eq_append_getElem h, List.map_append, List.flatten_append]
    simp
  rw [e, List.length_append, bytesN_length]
theorem cat_le {ws : List ByteArray} {i : Nat} (h : i < ws.length) : (cat (ws.take i)).length + (ws[i]).size ≤ (cat ws).length := by
  rw [← cat_take_length h]
  have : cat ws = cat (ws.take (i + 1)) ++ cat (ws.drop (i + 1)) := by
    unfold cat
    rw [← List.flatten_append, ← List.map_append, List.take_append_drop]
  rw [this]; simp
theorem cat_mem {ws : List ByteArray} {s : ByteArray} (h : s ∈ ws) {x : Nat} (hx : x ∈ bytesN s) : x ∈ cat ws := by
  unfold cat
  exact List.mem_flatten.2 ⟨bytesN s, List.mem_map.2 ⟨s, h, rfl⟩, hx⟩
theorem cat_drop_le (ws : List ByteArray) (i : Nat) : (cat (ws.drop i)).length ≤ (cat ws).length := by
  have : cat ws = cat (ws.take i) ++ cat (ws.drop i) := by
    unfold cat
    rw [← List.flatten_append, ← List.map_append, List.take_append_drop]
  rw [this]; simp

/-- strings in memory -/
def cellsS (ws : List ByteArray) : List Value := ws.map Value.string

/-- a word that is made, its room new -/
def RMade (M : Nat → Nat → Nat) (ob n : Nat) (ls : List Nat) (w : World) (e : Ending) (w' : World) : Prop :=
  ∃ mb rb pre l, e = .returned (.pointer (some ⟨mb, 0, none⟩)) ∧ MadeAt w' mb ob rb pre l ∧ Red M l ∧ (mk l : G M) = mk ls ∧ (∀ y ∈ l, y < 3) ∧ pre.length + l.length = n ∧ mb ≠ rb ∧ w.heap.size ≤ mb ∧ w.heap.size ≤ rb ∧ Below w.heap.size w w'

set_option maxRecDepth 100000 in
set_option maxHeartbeats 2000000 in
theorem product_any {M : Nat → Nat → Nat} {a b c : Nat} (hMe : M = Mo a b c) (ha : Lim a) (hb : Lim b) (hc : Lim c) (ob vb : Nat) (ws : List ByteArray) (w : World)
    (ho : SBlk w ob 272 (ordCells a b c)) (hv : SBlk w vb 9 (cellsS ws)) (hlow : ∀ y ∈ cat ws, y < 3) (hn : (cat ws).length ≤ 140737488355328) (hk : ws.length ≤ 140737488355328) :
    Calls Tryz.prog 143 #[.pointer (some ⟨ob, 0, none⟩), .slice (some ⟨vb, 0, none⟩) ws.length ws.length] w (RMade M ob (cat ws).length (cat ws) w) := by
  have hvlt := hv.lt
  have holt := ho.lt
  have H := Lib.hid (And.intro ho (And.intro hv hlow))
  have vcell : ∀ (W : World), SBlk W vb 9 (cellsS ws) → ∀ i (h : i < ws.length), W.cell? ⟨vb, i, none⟩ = some (.string ws[i]) := fun W hW i h => by
    rw [hW.cell]; simp [cellsS, List.getElem?_eq_getElem h]
  have HV := Lib.hid vcell
  clear vcell ho hv hlow
  go_enter Tryz.func143, Tryz.ntmps143
  go_wp2_with fail
  go_loop [5, 12] (fun s i => ∃ k : Nat, k ≤ ws.length ∧ i = .int .i64 (k : Int) ∧ s = .int .i64 (((cat (ws.take k)).length : Nat) : Int)) (fun _ i => ws.length - (intOf i).toNat)
  case atStart => exact ⟨0, Nat.zero_le _, rfl, rfl⟩
  case round =>
    obtain ⟨k, hk2, rfl, rfl⟩ := hrel
    by_cases hlt : k < ws.length
    · have hcell := HV.out w H.out.2.1 k hlt
      have hle := cat_le hlt
      have hsum := cat_take_length hlt
      have HS := Lib.hid hsum
      have e1 : (0 : Int) ≤ (((cat (ws.take k)).length : Nat) : Int) := by omega
      clear hsum
      generalize (cat (ws.take k)).length = q at *
      generalize hws : ws[k] = s at *
      have HW := Lib.hid hws
      clear hws
      go_wp2_with fail
      go_round
      case measure => simp [intOf]; omega
      case rel => exact ⟨k + 1, by omega, by simp, by rw [HS.out]; simp⟩
    · obtain rfl : k = ws.length := by omega
      rw [List.take_length]
      have hem := empty_any ob (cat ws).length w hn
      have HE := Lib.hid hem
      clear hem
      generalize hq : (cat ws).length = n at *
      have HQ := Lib.hid hq
      clear hq
      go_wp2_with (go_at_call 189; refine HE.out.mono ?_; rintro e w1 ⟨mb, rb, rfl, hmade, hmr, hmb, hrb, hbel⟩; have HM := Lib.hid (And.intro hmade (And.intro hmr (And.intro hmb (And.intro hrb hbel)))); clear hmade hmr hmb hrb hbel)
      go_loopw [26] (fun i wr => ∃ (k : Nat) (pre l : List Nat), k ≤ ws.length ∧ i = .int .i64 (k : Int) ∧ MadeAt wr mb ob rb pre l ∧ Red M l ∧ (mk l : G M) = mk (cat (ws.drop (ws.length - k))) ∧ (∀ y ∈ l, y < 3) ∧ pre.length + l.length = n ∧ l.length ≤ (cat (ws.drop (ws.length - k))).length ∧ Below w.heap.size w wr ∧ w1.heap.size ≤ wr.heap.size) (fun i _ => ws.length - (intOf i).toNat)
      case atStart =>
        obtain ⟨hmade, hmr, hmb, hrb, hbel⟩ := HM.out
        refine ⟨0, List.replicate n 0, [], Nat.zero_le _, rfl, hmade, red_nil, ?_, (fun y hy => by cases hy), by simp, by simp, hbel, Nat.le_refl _⟩
        rw [Nat.sub_zero, List.drop_length]; rfl
      case round =>
        obtain ⟨k, pre, l, hk3, rfl, hmade, hred, hs, hlw, hrm, hll, hbel, hsz⟩ := hrel
        by_cases hlt : k < ws.length
        · have hi : ws.length - 1 - k < ws.length := by omega
          have hvW : SBlk wr vb 9 (cellsS ws) := H.out.2.1.below hbel hvlt
          have hoW : SBlk wr ob 272 (ordCells a b c) := H.out.1.below hbel holt
          have hcell := HV.out wr hvW _ hi
          obtain ⟨hmade1, hmr, hmb, hrb, hbel1⟩ := HM.out
          have hcat : cat (ws.drop (ws.length - 1 - k)) = bytesN ws[ws.length - 1 - k] ++ cat (ws.drop (ws.length - k)) := by
            have := cat_drop hi
            rwa [show ws.length - 1 - k + 1 = ws.length - k by omega] at this
          have hmem : ws[ws.length - 1 - k] ∈ ws := List.getElem_mem hi
          have hdl := cat_drop_le ws (ws.length - 1 - k)
          have j1 : (0 : Int) ≤ (ws.length : Int) - 1 - (k : Int) := by omega
          have j2 : (ws.length : Int) - 1 - (k : Int) < (ws.length : Int) := by omega
          have j3 : (k : Int) < (ws.length : Int) := by omega
          generalize hws : ws[ws.length - 1 - k] = s at *
          have hsl : (cat (ws.drop (ws.length - 1 - k))).length = s.size + (cat (ws.drop (ws.length - k))).length := by rw [hcat, List.length_append, bytesN_length]
          have hbw := (callsIn_wide (n := 0)).1 (backward_in Fence.wide trivial rfl s wr)
          have HBW := Lib.hid hbw
          have hput : Calls Tryz.prog 190 #[.pointer (some ⟨mb, 0, none⟩), .func (.func 217) #[] #[.pointer (some ⟨wr.heap.size, 0, none⟩)]] (wr.alloc (.cells #[.string s] 9)) (RPut M mb ob rb n (bytesN s).reverse l (wr.alloc (.cells #[.string s] 9))) := by
            have hq := HQ.out
            have hmlt := hmade.m.lt
            have hrlt := hmade.r.lt
            refine put_any hMe ha hb hc mb ob rb n _ _ (by omega) (by omega) hmr (bytesN s).reverse pre l _ (enters_of Tryz.func217 (by kernel_rfl) rfl) (fun o => ?_) ⟨hmade.m.alloc _, hmade.r.alloc _⟩ hrm (by omega) (by simp [bytesN_length]; omega) hred hlw (fun y hy => H.out.2.2 y (cat_mem hmem (by simpa using hy))) (hoW.alloc _)
            refine backward_iter Fence.wide trivial rfl rfl wr.heap.size s (by omega) _ (by simp; omega) _ ?_
            exact (SBlk.new wr 9 [.string s]).alloc o
          have HP := Lib.hid hput
          have HX := Lib.hid (And.intro hcat (And.intro hs (And.intro hbel (And.intro hsz (And.intro hrm (And.intro hll (And.intro hmr (And.intro hmb (And.intro hrb hsl)))))))))
          clear hcat hs hbel hsz hrm hll hmr hmb hrb hsl hbw hput hmade hred hlw hvW hoW hmade1 hbel1 hmem hdl hws
          go_wp2_with (first
            | (go_at_call 191; refine HBW.out.mono ?_; rintro e w' ⟨rfl, rfl⟩)
            | (go_at_call 190; refine HP.out.mono ?_; rintro e w' ⟨jk, l', rfl, q1, q2, q3, q4, q5, q6, q7⟩; have HQ2 := Lib.hid (And.intro q1 (And.intro q2 (And.intro q3 (And.intro q4 (And.intro q5 (And.intro q6 q7)))))); clear q1 q2 q3 q4 q5 q6 q7))
          go_roundw
          case measure => simp [intOf]; omega
          case rel =>
            obtain ⟨hcat, hs, hbel, hsz, hrm, hll, hmr, hmb, hrb, hsl⟩ := HX.out
            obtain ⟨q1, q2, q3, q4, q5, q6, q7⟩ := HQ2.out
            refine ⟨k + 1, jk, l', by omega, by simp, q1, q2, ?_, q4, q5, ?_, ?_, ?_⟩
            · rw [q3, List.reverse_reverse, show ws.length - (k + 1) = ws.length - 1 - k by omega, hcat]
              exact same_suffix hs
            · rw [show ws.length - (k + 1) = ws.length - 1 - k by omega, hsl]
              simp [bytesN_length] at q6; omega
            · refine (hbel.trans (((Below.refl _ wr).alloc hbel.size _).trans (q7.below (n := w.heap.size) ?_ ?_)))
              · have := hbel.size; simp; omega
              · intro j hj
                have := hbel.size
                simp at hj; omega
            · have := q7.size; simp at this; omega
        · obtain rfl : k = ws.length := by omega
          have HX := Lib.hid (And.intro hmade (And.intro hred (And.intro hs (And.intro hlw (And.intro hrm (And.intro hbel hsz))))))
          clear hmade hred hs hlw hrm hbel hsz hll
          go_wp2_with fail
          go_ret
          obtain ⟨hmade, hred, hs, hlw, hrm, hbel, hsz⟩ := HX.out
          obtain ⟨hmade1, hmr, hmb, hrb, hbel1⟩ := HM.out
          rw [Nat.sub_self, List.drop_zero] at hs
          exact ⟨mb, rb, pre, l, rfl, hmade, hred, hs, hlw, hrm, hmr, hmb, hrb, hbel⟩

set_option maxRecDepth 100000 in
set_option maxHeartbeats 2000000 in
theorem inverse_any {M : Nat → Nat → Nat} {a b c : Nat} (hMe : M = Mo a b c) (ha : Lim a) (hb : Lim b) (hc : Lim c) (ob : Nat) (s : ByteArray) (w : World)
    (ho : SBlk w ob 272 (ordCells a b c)) (hlow : ∀ y ∈ bytesN s, y < 3) (hn : s.size ≤ 140737488355328) :
    Calls Tryz.prog 174 #[.pointer (some ⟨ob, 0, none⟩), .string s] w (RMade M ob s.size (bytesN s).reverse w) := by
  have holt := ho.lt
  have hem := empty_any ob s.size w hn
  have HE := Lib.hid hem
  have hfw := fun W => (callsIn_wide (n := 0)).1 (forward_in Fence.wide trivial rfl s W)
  have HF := Lib.hid hfw
  have HO := Lib.hid (And.intro ho hlow)
  clear hem hfw ho hlow
  go_enter Tryz.func174, Tryz.ntmps174
  go_wp2_with (go_at_call 189; refine HE.out.mono ?_; rintro e w1 ⟨mb, rb, rfl, hmade, hmr, hmb, hrb, hbel⟩; have HM := Lib.hid (And.intro hmade (And.intro hmr (And.intro hmb (And.intro hrb hbel)))); clear hmade hmr hmb hrb hbel)
  refine (HF.out _).mono ?_
  rintro e w' ⟨rfl, rfl⟩
  have hput : Calls Tryz.prog 190 #[.pointer (some ⟨mb, 0, none⟩), .func (.func 222) #[] #[.pointer (some ⟨w1.heap.size, 0, none⟩)]] (w1.alloc (.cells #[.string s] 9)) (RPut M mb ob rb s.size (bytesN s) [] (w1.alloc (.cells #[.string s] 9))) := by
    obtain ⟨hmade, hmr, hmb, hrb, hbel⟩ := HM.out
    have hmlt := hmade.m.lt
    have hrlt := hmade.r.lt
    refine put_any hMe ha hb hc mb ob rb s.size _ _ (by omega) (by omega) hmr (bytesN s) (List.replicate s.size 0) [] _ (enters_of Tryz.func222 (by kernel_rfl) rfl) (fun o => ?_) ⟨hmade.m.alloc _, hmade.r.alloc _⟩ (by simp) hn (by simp [bytesN_length]) red_nil (fun y hy => by cases hy) HO.out.2 ((HO.out.1.below hbel holt).alloc _)
    refine forward_iter Fence.wide trivial rfl rfl w1.heap.size s (by omega) _ (by simp; omega) _ ?_
    exact (SBlk.new w1 9 [.string s]).alloc o
  have HP := Lib.hid hput
  clear hput
  go_wp2_with (go_at_call 190; refine HP.out.mono ?_; rintro e w' ⟨jk, l', rfl, q1, q2, q3, q4, q5, q6, q7⟩; have HQ2 := Lib.hid (And.intro q1 (And.intro q2 (And.intro q3 (And.intro q4 (And.intro q5 (And.intro q6 q7)))))); clear q1 q2 q3 q4 q5 q6 q7)
  go_ret
  obtain ⟨q1, q2, q3, q4, q5, q6, q7⟩ := HQ2.out
  obtain ⟨hmade, hmr, hmb, hrb, hbel⟩ := HM.out
  refine ⟨mb, rb, jk, l', rfl, q1, q2, by simpa using q3, q4, q5, hmr, hmb, hrb, hbel.trans (((Below.refl _ w1).alloc hbel.size _).trans (q7.below (n := w.heap.size) ?_ ?_))⟩
  · have := hbel.size; simp; omega
  · intro j hj
    have := hbel.size
    simp at hj; omega
end Go.Proofs.YtcpeeopdaakbaaaGreat

namespace Go.Proofs.YtcpeeopdaakbaaaGreat
open Go.RowKit Go.Shelf Cx

theorem lcm_step {a b k : Nat} (ha : 0 < a) (_ : 0 < b) (hk : k * a ≤ Nat.lcm a b) (hm : (k * a) % b ≠ 0) : (k + 1) * a ≤ Nat.lcm a b := by
  obtain ⟨q, hq⟩ := Nat.dvd_lcm_left a b
  rw [hq] at hk ⊢
  have h1 : k ≠ q := by
    rintro rfl
    apply hm
    rw [Nat.mul_comm, ← hq]
    exact Nat.mod_eq_zero_of_dvd (Nat.dvd_lcm_right a b)
  have h2 : k ≤ q := by
    rw [Nat.mul_comm] at hk
    exact Nat.le_of_mul_le_mul_left hk ha
  rw [Nat.mul_comm]
  exact Nat.mul_le_mul_left a (by omega)

theorem lcm_end {a b k : Nat} (hk0 : 0 < k * a) (hk : k * a ≤ Nat.lcm a b) (hm : (k * a) % b = 0) : k * a = Nat.lcm a b := by
  have h : Nat.lcm a b ∣ k * a := Nat.lcm_dvd (Nat.dvd_mul_left a k) (Nat.dvd_of_mod_eq_zero hm)
  exact Nat.le_antisymm hk (Nat.le_of_dvd hk0 h)

set_option maxHeartbeats 1000000 in
theorem multiple_any (a b : Nat) (w : World) (ha : 0 < a) (hb : 0 < b) (hab : Nat.lcm a b + a ≤ 1000000) :
    Calls Tryz.prog 235 #[.int .i64 a, .int .i64 b] w fun e w' => e = .returned (.int .i64 ((Nat.lcm a b : Nat) : Int)) ∧ w = w' := by
  have h1 : 1 * a ≤ Nat.lcm a b := by
    rw [Nat.one_mul]
    exact Nat.le_of_dvd (Nat.lcm_pos ha hb) (Nat.dvd_lcm_left a b)
  have H1 := Lib.hid h1
  generalize hL : Nat.lcm a b = L at *
  have HL := Lib.hid hL
  clear hL h1
  go_enter Tryz.func235, Tryz.ntmps235
  go_wp2_with fail
  go_loop [5] (fun c => ∃ k n : Nat, n = k * a + 0 ∧ 0 < k ∧ n ≤ L ∧ c = .int .i64 (n : Int)) (fun c => L - (intOf c).toNat)
  case atStart => exact ⟨1, a, by simp, by omega, by have := H1.out; omega, rfl⟩
  case round =>
    obtain ⟨k, n, hn, hk, hnL, rfl⟩ := hrel
    have HN := Lib.hid hn
    clear hn
    have hn1 : 1 ≤ n := by
      have h := HN.out
      have := Nat.mul_pos hk ha
      omega
    by_cases hm : n % b = 0
    · have hm2 : ((n : Int) % (b : Int) == 0) = true := by simp; exact_mod_cast hm
      have HM := Lib.hid hm
      clear hm
      go_wp2_with fail
      go_ret
      have h1 := HN.out
      have h2 := HL.out
      rw [Nat.add_zero] at h1
      have h3 := HM.out
      rw [h1] at h3
      have h4 := lcm_end (a := a) (b := b) (k := k) (by rw [← h1]; omega) (by rw [← h1, h2]; exact hnL) h3
      exact ⟨by rw [← h2, ← h4, ← h1]; rfl, rfl⟩
    · have hm2 : ((n : Int) % (b : Int) == 0) = false := by simp; intro h; apply hm; exact_mod_cast h
      have HM := Lib.hid hm
      clear hm
      have hst : n + a ≤ L := by
        have h1 := HN.out
        have h2 := HL.out
        rw [Nat.add_zero] at h1
        have h3 := HM.out
        rw [h1] at h3
        have := lcm_step (a := a) (b := b) (k := k) ha hb (by rw [← h1, h2]; exact hnL) h3
        rw [Nat.add_mul, Nat.one_mul, ← h1, h2] at this
        exact this
      go_wp2_with fail
      go_round
      case measure => simp [intOf]; omega
      case rel =>
        refine ⟨k + 1, n + a, ?_, by omega, hst, by simp⟩
        have h1 := HN.out
        rw [Nat.add_mul, Nat.one_mul]; omega

/-- the least common multiple with an order that is not 0 -/
def lcz (l m : Nat) : Nat := if m = 0 then l else Nat.lcm l m
/-- the level behind k orders -/
def lvl (a b c : Nat) : Nat → Nat
  | 0 => 1
  | 1 => lcz 1 a
  | 2 => lcz (lcz 1 a) b
  | _ => lcz (lcz (lcz 1 a) b) c
/-- an angle -/
def ang (lv m : Nat) : Nat := if m = 0 then 0 else lv / m
/-- the angles of k corners -/
def angs (lv a b c : Nat) : Nat → Nat
  | 0 => 0
  | 1 => ang lv a
  | 2 => ang lv a + ang lv b
  | _ => ang lv a + ang lv b + ang lv c
/-- the error of orders each of which is allowed -/
def faultS (a b c : Nat) : Int := if lvl a b c 3 ≤ angs (lvl a b c 3) a b c 3 then 1 else if 60 < lvl a b c 3 then 4 else 0

theorem lcm_le {a b : Nat} (ha : 0 < a) (hb : 0 < b) : Nat.lcm a b ≤ a * b := Nat.le_of_dvd (Nat.mul_pos ha hb) (Nat.lcm_dvd (Nat.dvd_mul_right a b) (Nat.dvd_mul_left b a))
theorem lcz_bd {l m n : Nat} (hl : 0 < l) (hm : Lim m) (hn : l ≤ n) : 0 < lcz l m ∧ lcz l m ≤ n * 12 := by
  unfold lcz
  by_cases h : m = 0
  · rw [if_pos h]; omega
  · rw [if_neg h]
    have h1 : 0 < m := by omega
    have h2 : m ≤ 12 := by rcases hm with h3 | h3 <;> omega
    refine ⟨Nat.lcm_pos hl h1, Nat.le_trans (lcm_le hl h1) (Nat.mul_le_mul hn h2)⟩
theorem lvl_bd {a b c : Nat} (ha : Lim a) (hb : Lim b) (hc : Lim c) (k : Nat) : 0 < lvl a b c k ∧ lvl a b c k ≤ 1728 := by
  have h1 := lcz_bd (l := 1) (n := 1) (by omega) ha (by omega)
  have h2 := lcz_bd (n := 12) h1.1 hb (by omega)
  have h3 := lcz_bd (n := 144) h2.1 hc (by omega)
  rcases k with _ | _ | _ | k <;> simp only [lvl] <;> omega

/-- one order more -/
theorem multiple_lim (l m : Nat) (w : World) (hl : 0 < l) (hl2 : l ≤ 1728) (hm : Lim m) (h0 : m ≠ 0) :
    Calls Tryz.prog 235 #[.int .i64 l, .int .i64 m] w fun e w' => e = .returned (.int .i64 ((lcz l m : Nat) : Int)) ∧ w = w' := by
  have hm2 : m ≤ 12 := by rcases hm with h3 | h3 <;> omega
  have h1 := lcm_le hl (show 0 < m by omega)
  have h2 : l * m ≤ 1728 * 12 := Nat.mul_le_mul hl2 hm2
  unfold lcz
  rw [if_neg h0]
  exact multiple_any l m w hl (by omega) (by omega)

set_option maxRecDepth 100000 in
set_option maxHeartbeats 2000000 in
theorem fault_any (a b c : Nat) (ha : Lim a) (hb : Lim b) (hc : Lim c) (w : World) :
    Calls Tryz.prog 215 #[.agg #[.int .i64 a, .int .i64 b, .int .i64 c]] w fun e w' => e = .returned (.int .i64 (faultS a b c)) ∧ Below w.heap.size w w' := by
  have i0 : ∀ w, (Instr.index 123 (.agg #[.int .i64 (a : Int), .int .i64 (b : Int), .int .i64 (c : Int)]) (.int .i64 0)).run Tryz.prog w = .ok (.int .i64 a) w := fun _ => by kernel_rfl
  have i1 : ∀ w, (Instr.index 123 (.agg #[.int .i64 (a : Int), .int .i64 (b : Int), .int .i64 (c : Int)]) (.int .i64 1)).run Tryz.prog w = .ok (.int .i64 b) w := fun _ => by kernel_rfl
  have i2 : ∀ w, (Instr.index 123 (.agg #[.int .i64 (a : Int), .int .i64 (b : Int), .int .i64 (c : Int)]) (.int .i64 2)).run Tryz.prog w = .ok (.int .i64 c) w := fun _ => by kernel_rfl
  have hl := lvl_bd ha hb hc
  have HL := Lib.hid hl
  have HLM := Lib.hid (And.intro ha (And.intro hb hc))
  clear hl
  have a1 : a ≤ 12 := by rcases ha with h | h <;> omega
  have b1 : b ≤ 12 := by rcases hb with h | h <;> omega
  have c1 : c ≤ 12 := by rcases hc with h | h <;> omega
  have a2 : a ≠ 1 := by rcases ha with h | h <;> omega
  have b2 : b ≠ 1 := by rcases hb with h | h <;> omega
  have c2 : c ≠ 1 := by rcases hc with h | h <;> omega
  have a3 : ((a : Int) == 1) = false := by simp; omega
  have b3 : ((b : Int) == 1) = false := by simp; omega
  have c3 : ((c : Int) == 1) = false := by simp; omega
  clear ha hb hc a2 b2 c2
  go_enter Tryz.func215, Tryz.ntmps215
  go_wp2_with fail
  go_loop [4, 18] (fun v i => ∃ k : Nat, k ≤ 3 ∧ i = .int .i64 (k : Int) ∧ v = .int .i64 ((lvl a b c k : Nat) : Int)) (fun _ i => 3 - (intOf i).toNat)
  case atStart => exact ⟨0, by omega, rfl, rfl⟩
  case round =>
    obtain ⟨k, hk, rfl, rfl⟩ := hrel
    rcases k with _ | _ | _ | k
    · -- order 0
      have hlv : lvl a b c 0 = 1 := rfl
      have hl1 := HL.out 0
      generalize lvl a b c 0 = l at *
      have HP := Lib.hid hlv
      clear hlv
      by_cases h0 : a = 0
      · have hz : ((a : Int) == 0) = true := by simp; omega
        have H0 := Lib.hid h0
        clear h0
        go_wp2_with fail
        go_round
        case measure => simp [intOf]
        case rel => exact ⟨1, by omega, rfl, by rw [HP.out]; simp [lvl, lcz, H0.out]⟩
      · have hz : ((a : Int) == 0) = false := by simp; omega
        have HM := fun W => Lib.hid (multiple_lim l a W hl1.1 hl1.2 HLM.out.1 h0)
        clear h0
        go_wp2_with (go_at_call 235; refine (HM _).out.mono ?_; rintro e w' ⟨rfl, rfl⟩)
        go_round
        case measure => simp [intOf]
        case rel => exact ⟨1, by omega, rfl, by rw [HP.out]; rfl⟩
    · -- order 1
      have hlv : lvl a b c 1 = lcz 1 a := rfl
      have hl1 := HL.out 1
      generalize lvl a b c 1 = l at *
      have HP := Lib.hid hlv
      clear hlv
      by_cases h0 : b = 0
      · have hz : ((b : Int) == 0) = true := by simp; omega
        have H0 := Lib.hid h0
        clear h0
        go_wp2_with fail
        go_round
        case measure => simp [intOf]
        case rel => exact ⟨2, by omega, rfl, by rw [HP.out]; simp [lvl, lcz, H0.out]⟩
      · have hz : ((b : Int) == 0) = false := by simp; omega
        have HM := fun W => Lib.hid (multiple_lim l b W hl1.1 hl1.2 HLM.out.2.1 h0)
        clear h0
        go_wp2_with (go_at_call 235; refine (HM _).out.mono ?_; rintro e w' ⟨rfl, rfl⟩)
        go_round
        case measure => simp [intOf]
        case rel => exact ⟨2, by omega, rfl, by rw [HP.out]; rfl⟩
    · -- order 2
      have hlv : lvl a b c 2 = lcz (lcz 1 a) b := rfl
      have hl1 := HL.out 2
      generalize lvl a b c 2 = l at *
      have HP := Lib.hid hlv
      clear hlv
      by_cases h0 : c = 0
      · have hz : ((c : Int) == 0) = true := by simp; omega
        have H0 := Lib.hid h0
        clear h0
        go_wp2_with fail
        go_round
        case measure => simp [intOf]
        case rel => exact ⟨3, by omega, rfl, by rw [HP.out]; simp [lvl, lcz, H0.out]⟩
      · have hz : ((c : Int) == 0) = false := by simp; omega
        have HM := fun W => Lib.hid (multiple_lim l c W hl1.1 hl1.2 HLM.out.2.2 h0)
        clear h0
        go_wp2_with (go_at_call 235; refine (HM _).out.mono ?_; rintro e w' ⟨rfl, rfl⟩)
        go_round
        case measure => simp [intOf]
        case rel => exact ⟨3, by omega, rfl, by rw [HP.out]; rfl⟩
    · have hk0 : k = 0 := by omega
      subst hk0
      go_wp2_with fail
      have hL := HL.out 3
      have hfin : faultS a b c = if lvl a b c 3 ≤ angs (lvl a b c 3) a b c 3 then 1 else if 60 < lvl a b c 3 then 4 else 0 := rfl
      generalize lvl a b c 3 = L at *
      have HFIN := Lib.hid hfin
      have hL1 := hL.1
      have hL2 := hL.2
      clear hfin hL
      go_loop [7, 38] (fun v i => ∃ k : Nat, k ≤ 3 ∧ i = .int .i64 (k : Int) ∧ v = .int .i64 ((angs L a b c k : Nat) : Int)) (fun _ i => 3 - (intOf i).toNat)
      case atStart => exact ⟨0, by omega, rfl, rfl⟩
      case round =>
        obtain ⟨k, hk, rfl, rfl⟩ := hrel
        rcases k with _ | _ | _ | k
        · by_cases h0 : a = 0
          · have hz : ((a : Int) == 0) = true := by simp; omega
            have hs : angs L a b c 1 = angs L a b c 0 := by simp [angs, ang, h0]
            have HS := Lib.hid hs
            clear h0 hs
            generalize angs L a b c 0 = q at *
            go_wp2_with fail
            go_round
            case measure => simp [intOf]
            case rel => exact ⟨1, by omega, rfl, by rw [HS.out]⟩
          · have hz : ((a : Int) == 0) = false := by simp; omega
            have h1 : 1 ≤ a := by omega
            have h1i : (1 : Int) ≤ (a : Int) := by omega
            have hs : angs L a b c 1 = angs L a b c 0 + L / a := by simp [angs, ang, h0]
            have hq : angs L a b c 0 ≤ 0 * 1728 := by
              have d1 : ∀ m, ang L m ≤ 1728 := fun m => by
                unfold ang
                split
                · omega
                · exact Nat.le_trans (Nat.div_le_self _ _) hL2
              have := d1 a
              have := d1 b
              have := d1 c
              simp only [angs]; omega
            have hd : L / a ≤ 1728 := Nat.le_trans (Nat.div_le_self _ _) hL2
            have hd2 : (L : Int) / (a : Int) ≤ 1728 := by exact_mod_cast hd
            have hd3 : (0 : Int) ≤ (L : Int) / (a : Int) := by exact_mod_cast Nat.zero_le (L / a)
            have HS := Lib.hid hs
            clear h0 hs
            generalize angs L a b c 0 = q at *
            go_wp2_with fail
            go_round
            case measure => simp [intOf]
            case rel => exact ⟨1, by omega, rfl, by rw [HS.out]; simp⟩
        · by_cases h0 : b = 0
          · have hz : ((b : Int) == 0) = true := by simp; omega
            have hs : angs L a b c 2 = angs L a b c 1 := by simp [angs, ang, h0]
            have HS := Lib.hid hs
            clear h0 hs
            generalize angs L a b c 1 = q at *
            go_wp2_with fail
            go_round
            case measure => simp [intOf]
            case rel => exact ⟨2, by omega, rfl, by rw [HS.out]⟩
          · have hz : ((b : Int) == 0) = false := by simp; omega
            have h1 : 1 ≤ b := by omega
            have h1i : (1 : Int) ≤ (b : Int) := by omega
            have hs : angs L a b c 2 = angs L a b c 1 + L / b := by simp [angs, ang, h0]
            have hq : angs L a b c 1 ≤ 1 * 1728 := by
              have d1 : ∀ m, ang L m ≤ 1728 := fun m => by
                unfold ang
                split
                · omega
                · exact Nat.le_trans (Nat.div_le_self _ _) hL2
              have := d1 a
              have := d1 b
              have := d1 c
              simp only [angs]; omega
            have hd : L / b ≤ 1728 := Nat.le_trans (Nat.div_le_self _ _) hL2
            have hd2 : (L : Int) / (b : Int) ≤ 1728 := by exact_mod_cast hd
            have hd3 : (0 : Int) ≤ (L : Int) / (b : Int) := by exact_mod_cast Nat.zero_le (L / b)
            have HS := Lib.hid hs
            clear h0 hs
            generalize angs L a b c 1 = q at *
            go_wp2_with fail
            go_round
            case measure => simp [intOf]
            case rel => exact ⟨2, by omega, rfl, by rw [HS.out]; simp⟩
        · by_cases h0 : c = 0
          · have hz : ((c : Int) == 0) = true := by simp; omega
            have hs : angs L a b c 3 = angs L a b c 2 := by simp [angs, ang, h0]
            have HS := Lib.hid hs
            clear h0 hs
            generalize angs L a b c 2 = q at *
            go_wp2_with fail
            go_round
            case measure => simp [intOf]
            case rel => exact ⟨3, by omega, rfl, by rw [HS.out]⟩
          · have hz : ((c : Int) == 0) = false := by simp; omega
            have h1 : 1 ≤ c := by omega
            have h1i : (1 : Int) ≤ (c : Int) := by omega
            have hs : angs L a b c 3 = angs L a b c 2 + L / c := by simp [angs, ang, h0]
            have hq : angs L a b c 2 ≤ 2 * 1728 := by
              have d1 : ∀ m, ang L m ≤ 1728 := fun m => by
                unfold ang
                split
                · omega
                · exact Nat.le_trans (Nat.div_le_self _ _) hL2
              have := d1 a
              have := d1 b
              have := d1 c
              simp only [angs]; omega
            have hd : L / c ≤ 1728 := Nat.le_trans (Nat.div_le_self _ _) hL2
            have hd2 : (L : Int) / (c : Int) ≤ 1728 := by exact_mod_cast hd
            have hd3 : (0 : Int) ≤ (L : Int) / (c : Int) := by exact_mod_cast Nat.zero_le (L / c)
            have HS := Lib.hid hs
            clear h0 hs
            generalize angs L a b c 2 = q at *
            go_wp2_with fail
            go_round
            case measure => simp [intOf]
            case rel => exact ⟨3, by omega, rfl, by rw [HS.out]; simp⟩
        · have hk0 : k = 0 := by omega
          subst hk0
          generalize angs L a b c 3 = q at *
          have hbel : Below w.heap.size w ((w.alloc (.cells #[.int .i64 (a : Int), .int .i64 (b : Int), .int .i64 (c : Int)] 23)).alloc (.cells #[.int .i64 (a : Int), .int .i64 (b : Int), .int .i64 (c : Int)] 123)) := ((Below.refl _ w).alloc (Nat.le_refl _) _).alloc (by simp) _
          have HB := Lib.hid hbel
          clear hbel
          by_cases h1 : L ≤ q
          · go_wp2_with fail
            go_ret
            exact ⟨by rw [HFIN.out, if_pos h1]; rfl, HB.out⟩
          · by_cases h2 : 60 < L
            · go_wp2_with fail
              go_ret
              exact ⟨by rw [HFIN.out, if_neg h1, if_pos h2]; rfl, HB.out⟩
            · go_wp2_with fail
              go_ret
              exact ⟨by rw [HFIN.out, if_neg h1, if_neg h2]; rfl, HB.out⟩
end Go.Proofs.YtcpeeopdaakbaaaGreat
