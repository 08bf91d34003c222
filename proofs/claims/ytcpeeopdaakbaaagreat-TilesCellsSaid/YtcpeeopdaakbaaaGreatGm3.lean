/- A tile is met over a side that leads up: how it begins. -/
import Derived.Test.YtcpeeopdaakbaaaGreatGmA
namespace Go.Proofs.YtcpeeopdaakbaaaGreat
set_option linter.unusedVariables false
open Go.RowKit Go.Shelf Cx

theorem bytes_ahead : ∀ {l k : List Nat}, l.length = k.length → (∀ y ∈ l, y < 256) → (∀ y ∈ k, y < 256) → (Op.bytesLess (k.map UInt8.ofNat) (l.map UInt8.ofNat) = false → Ahead l k) ∧ (Op.bytesLess (k.map UInt8.ofNat) (l.map UInt8.ofNat) = true → Ahead k l) := by
  intro l
  induction l with
  | nil =>
    intro k h _ _
    cases k with
    | nil => exact ⟨fun _ => trivial, fun _ => trivial⟩
    | cons => simp at h
  | cons x l ih =>
    intro k hl h1 h2
    cases k with
    | nil => simp at hl
    | cons y k =>
      have hx := h1 x List.mem_cons_self
      have hy := h2 y List.mem_cons_self
      have ih := ih (k := k) (by simpa using hl) (fun y hy => h1 y (List.mem_cons_of_mem _ hy)) (fun y hy => h2 y (List.mem_cons_of_mem _ hy))
      rw [List.map_cons, List.map_cons, Op.bytesLess]
      have e1 : ∀ {p q : Nat}, p < 256 → q < 256 → (UInt8.ofNat p < UInt8.ofNat q ↔ p < q) := by
        intro p q hp hq
        rw [UInt8.lt_iff_toNat_lt]; simp [Nat.mod_eq_of_lt hp, Nat.mod_eq_of_lt hq]
      have e2 : UInt8.ofNat y = UInt8.ofNat x ↔ y = x := by
        constructor
        · intro e
          have := congrArg UInt8.toNat e
          simpa [Nat.mod_eq_of_lt hx, Nat.mod_eq_of_lt hy] using this
        · rintro rfl; rfl
      by_cases c1 : y < x
      · refine ⟨fun h => ?_, fun _ => .inl c1⟩
        exfalso
        simp [(e1 hy hx).2 c1] at h
      · by_cases c2 : y = x
        · subst c2
          have n1 : ¬ UInt8.ofNat y < UInt8.ofNat y := by rw [e1 hx hx]; omega
          refine ⟨fun h => .inr ⟨rfl, ih.1 ?_⟩, fun h => .inr ⟨rfl, ih.2 ?_⟩⟩
          · simpa [n1] using h
          · simpa [n1] using h
        · refine ⟨fun _ => .inl (by omega), fun h => ?_⟩
          exfalso
          have n1 : ¬ UInt8.ofNat y < UInt8.ofNat x := by rw [e1 hy hx]; omega
          have n2 : ¬ UInt8.ofNat y = UInt8.ofNat x := by rw [e2]; exact c2
          simp [n1, n2] at h

theorem below_d1 {w W : World} (h : Below w.drew.heap.size w.drew W) : Below w.heap.size w W := below_undrew h
theorem below_d2 {w W : World} {o : Obj} (h : Below (w.alloc o).drew.heap.size (w.alloc o).drew W) : Below w.heap.size w W := below_a1 (below_undrew h)
theorem zero_d2 {w W : World} (h : Below (w.alloc (.cells #[Value.int IntKind.i64 0, Value.int IntKind.i64 0, Value.int IntKind.i64 0, Value.int IntKind.i64 0, Value.bool false, Value.bool false, Value.bool false, Value.string ⟨#[]⟩] 126)).drew.heap.size (w.alloc (.cells #[Value.int IntKind.i64 0, Value.int IntKind.i64 0, Value.int IntKind.i64 0, Value.int IntKind.i64 0, Value.bool false, Value.bool false, Value.bool false, Value.string ⟨#[]⟩] 126)).drew W) :
    SBlk W w.heap.size 126 [Value.int IntKind.i64 0, Value.int IntKind.i64 0, Value.int IntKind.i64 0, Value.int IntKind.i64 0, Value.bool false, Value.bool false, Value.bool false, Value.string ⟨#[]⟩] :=
  (SBlk.new w 126 [Value.int IntKind.i64 0, Value.int IntKind.i64 0, Value.int IntKind.i64 0, Value.int IntKind.i64 0, Value.bool false, Value.bool false, Value.bool false, Value.string ⟨#[]⟩]).drew.below h (SBlk.new w _ _).lt
theorem eight {w : World} {b : Nat} {T : TypeId} {v0 v1 v2 v3 v4 v5 v6 v7 : Value} (h : SBlk w b T [v0, v1, v2, v3, v4, v5, v6, v7]) :
    (w.cell? ⟨b, 0, none⟩ = some v0 ∧ w.cell? ⟨b, 1, none⟩ = some v1 ∧ w.cell? ⟨b, 2, none⟩ = some v2 ∧ w.cell? ⟨b, 3, none⟩ = some v3 ∧ w.cell? ⟨b, 4, none⟩ = some v4 ∧ w.cell? ⟨b, 5, none⟩ = some v5 ∧ w.cell? ⟨b, 6, none⟩ = some v6 ∧ w.cell? ⟨b, 7, none⟩ = some v7) ∧
    (w.frozen? ⟨b, 0, none⟩ = false ∧ w.frozen? ⟨b, 1, none⟩ = false ∧ w.frozen? ⟨b, 2, none⟩ = false ∧ w.frozen? ⟨b, 3, none⟩ = false ∧ w.frozen? ⟨b, 4, none⟩ = false ∧ w.frozen? ⟨b, 5, none⟩ = false ∧ w.frozen? ⟨b, 6, none⟩ = false ∧ w.frozen? ⟨b, 7, none⟩ = false) :=
  ⟨⟨h.cell 0, h.cell 1, h.cell 2, h.cell 3, h.cell 4, h.cell 5, h.cell 6, h.cell 7⟩, ⟨h.frozen 0, h.frozen 1, h.frozen 2, h.frozen 3, h.frozen 4, h.frozen 5, h.frozen 6, h.frozen 7⟩⟩
theorem below_s8 {w W : World} (h : Below w.heap.size w W) (v0 v1 v2 v3 v4 v5 v6 v7 : Value) : Below w.heap.size w ((((((((W.setCell ⟨w.heap.size, 0, none⟩ v0).setCell ⟨w.heap.size, 1, none⟩ v1).setCell ⟨w.heap.size, 2, none⟩ v2).setCell ⟨w.heap.size, 3, none⟩ v3).setCell ⟨w.heap.size, 4, none⟩ v4).setCell ⟨w.heap.size, 5, none⟩ v5).setCell ⟨w.heap.size, 6, none⟩ v6).setCell ⟨w.heap.size, 7, none⟩ v7) :=
  (((((((h.setCell (p := ⟨w.heap.size, 0, none⟩) (Nat.le_refl _) _).setCell (p := ⟨w.heap.size, 1, none⟩) (Nat.le_refl _) _).setCell (p := ⟨w.heap.size, 2, none⟩) (Nat.le_refl _) _).setCell (p := ⟨w.heap.size, 3, none⟩) (Nat.le_refl _) _).setCell (p := ⟨w.heap.size, 4, none⟩) (Nat.le_refl _) _).setCell (p := ⟨w.heap.size, 5, none⟩) (Nat.le_refl _) _).setCell (p := ⟨w.heap.size, 6, none⟩) (Nat.le_refl _) _).setCell (p := ⟨w.heap.size, 7, none⟩) (Nat.le_refl _) _

theorem node_first {s : Nat} (x : Int) (hs : s < 3) : ∃ t0 t1 t2 d0 d1 d2, ([-1, -1, -1] : List Int).set s x = [t0, t1, t2] ∧ ([false, false, false] : List Bool).set s true = [d0, d1, d2] ∧
    ∀ v0 v7 : Value, ([v0, .int .i64 (-1), .int .i64 (-1), .int .i64 (-1), .bool false, .bool false, .bool false, v7].set (1 + s) (Value.int .i64 x)).set (4 + s) (Value.bool true) = [v0, .int .i64 t0, .int .i64 t1, .int .i64 t2, .bool d0, .bool d1, .bool d2, v7] := by
  rcases three hs with rfl | rfl | rfl <;> exact ⟨_, _, _, _, _, _, rfl, rfl, fun _ _ => rfl⟩

set_option maxRecDepth 100000 in
set_option maxHeartbeats 4000000 in
theorem step_new {M : Nat → Nat → Nat} {R : G M → Prop} {a b c : Nat} (ns : List Nd) (x s : Nat) (w : World) (gb nb cap : Nat) (rest : List Value) (hMe : M = Mo a b c) (hM : Ords M) (hL : Lows M) (hla : Lim a) (hlb : Lim b) (hlc : Lim c) (ih : ∀ n, n < (nd ns x).len → PStep M R a b c n) (hcnt : ∀ ns', Ok M R ns' → ns'.length + 1 ≤ 2000000000000) (hcl : ∀ y z : G M, (∀ t, eta y t = true → eta z t = true) → R z → R y) (hlen : ∀ y, R y → ln y ≤ 10000)
    (h : GAt w gb nb cap a b c ns rest) (hok : Ok M R ns) (hF : Fl M ((nd ns x).len + 1) ns) (hRR : R (El M ns x * mk [s])) (hx : x < ns.length) (hs : s < 3) (ht : tb (nd ns x) s = -1) (hbd : ns.length + 1 ≤ 2000000000000) (hlx : (nd ns x).len ≤ 10000) (hwx : (nd ns x).word.length ≤ 10000) :
    Calls Tryz.prog 86 #[.pointer (some ⟨gb, 0, none⟩), .int .i64 (x : Int), .int .i64 (s : Int)] w (RStp M R gb nb a b c ns x s w) := by
  have c0 := h.g.cell 3
  have c1 := h.rto hx hs
  have c2 := h.rlen hx
  have c3 := h.rword hx
  rw [ht] at c1
  simp only [List.getElem?_cons_succ, List.getElem?_cons_zero] at c0
  have i1 : (0 : Int) ≤ (x : Int) := by omega
  have i2 : (x : Int) < (ns.length : Int) := by omega
  have i3 : (0 : Int) ≤ (s : Int) := by omega
  have i4 : (s : Int) < 3 := by omega
  have i6 : 0 ≤ ((nd ns x).len : Int) := by omega
  have ad := fun W => run_string_add_sum (P := Tryz.prog) (w := W) (str (nd ns x).word) (str [s]) (by rw [str_size, str_size]; simp; omega)
  rw [str_join] at ad
  have HCL := Lib.hid hcl
  have HLN := Lib.hid hlen
  clear hcl hlen
  have H := Lib.hid (And.intro h hok)
  have HA := Lib.hid (And.intro hF (And.intro hRR (And.intro ih (And.intro ht (And.intro hMe (And.intro hM hL))))))
  clear hF hRR ih hMe hM hL
  have HL := Lib.hid (fun W => letter_any s hs W)
  have HK := Lib.hid (fun W4 (hb : Below w.heap.size w W4) => (⟨(hb.cell (p := ⟨gb, 3, none⟩) h.g.lt).trans c0, (hb.cell (p := ⟨nb, x * 8, none⟩) h.n.lt).trans c2, (hb.cell (p := ⟨nb, x * 8 + 7, none⟩) h.n.lt).trans c3⟩ : W4.cell? ⟨gb, 3, none⟩ = some (.slice (some ⟨nb, 0, none⟩) ns.length cap) ∧ W4.cell? ⟨nb, x * 8, none⟩ = some (.int .i64 (nd ns x).len) ∧ W4.cell? ⟨nb, x * 8 + 7, none⟩ = some (.string (str (nd ns x).word))))
  clear h hok ht
  generalize hS12 : str ((nd ns x).word ++ [s]) = S12 at *
  have HS12 := Lib.hid hS12
  clear hS12 hwx
  generalize str (nd ns x).word = S1 at *
  generalize str [s] = S2 at *
  generalize hlen : (nd ns x).len = l at *
  have HLE := Lib.hid hlen
  clear hlen
  go_enter Tryz.func86, Tryz.ntmps86
  go_wp2_with fail
  have hd1 : Below w.heap.size w w.drew := (Below.refl _ w).drew
  have hd2 : Below w.heap.size w (w.alloc (.cells #[Value.int IntKind.i64 0, Value.int IntKind.i64 0, Value.int IntKind.i64 0, Value.int IntKind.i64 0, Value.bool false, Value.bool false, Value.bool false, Value.string ⟨#[]⟩] 126)).drew := ((Below.refl _ w).alloc (Nat.le_refl _) _).drew
  have HD1 := Lib.hid hd1
  have HD2 := Lib.hid hd2
  clear hd1 hd2
  have hwr : IntKind.i64.wrap ((l : Int) + 1) = (l : Int) + 1 := IntWalk.i64_in _ (by omega)
  go_cut [8] from 43 to 64 (fun s8 wx => ∃ zb, s8 = .pointer (some ⟨zb, 0, none⟩) ∧ SBlk wx zb 126 [.int .i64 ((l : Int) + 1), .int .i64 (-1), .int .i64 (-1), .int .i64 (-1), .bool false, .bool false, .bool false, .string S12] ∧ Below w.heap.size w wx ∧ w.heap.size ≤ zb)
  case first =>
    go_region_held3 (fun w' => w'.cell? ⟨gb, 3, none⟩ = some (.slice (some ⟨nb, 0, none⟩) ns.length cap) ∧ w'.cell? ⟨nb, x * 8, none⟩ = some (.int .i64 l) ∧ w'.cell? ⟨nb, x * 8 + 7, none⟩ = some (.string S1))
      (first
        | (with_reducible exact HK.out _ HD1.out)
        | (with_reducible exact HK.out _ HD2.out)
        | (with_reducible exact kp)
        | (with_reducible exact HK.out _ (HB.out.alloc HB.out.size _))
        | (with_reducible exact HK.out _ (below_s8 HB.out _ _ _ _ _ _ _ _))
        | (go_keep; done))
      (first
        | (go_at_call 138; (with_reducible refine (HL.out _).mono ?_); rintro e W4 ⟨rfl, hb⟩; (first | (with_reducible have HB := Lib.hid (below_d1 (w := w) hb)) | ((with_reducible have HB := Lib.hid (below_d2 (w := w) hb)); (have kz := zero_d2 (w := w) hb); obtain ⟨⟨z0, z1, z2, z3, z4, z5, z6, z7⟩, ⟨y0, y1, y2, y3, y4, y5, y6, y7⟩⟩ := eight kz; have KZ := Lib.hid kz; clear kz)); have kp := HK.out W4 HB.out; clear hb))
    · have q1 := SBlk.new W4 126 [.int .i64 ((l : Int) + 1), .int .i64 (-1), .int .i64 (-1), .int .i64 (-1), .bool false, .bool false, .bool false, .string S12]
      have q2 := HB.out.alloc HB.out.size (.cells #[.int .i64 ((l : Int) + 1), .int .i64 (-1), .int .i64 (-1), .int .i64 (-1), .bool false, .bool false, .bool false, .string S12] 126)
      have HQ := Lib.hid (And.intro q1 (And.intro q2 HB.out.size))
      clear q1 q2
      go_wp2_with fail
      go_meet
      exact ⟨_, rfl, HQ.out.1, HQ.out.2.1, HQ.out.2.2⟩
    · have q1 := (((((((KZ.out.set 0 (.int .i64 ((l : Int) + 1))).set 1 (.int .i64 (-1))).set 2 (.int .i64 (-1))).set 3 (.int .i64 (-1))).set 4 (.bool false)).set 5 (.bool false)).set 6 (.bool false)).set 7 (.string S12)
      have q2 := below_s8 HB.out (.int .i64 ((l : Int) + 1)) (.int .i64 (-1)) (.int .i64 (-1)) (.int .i64 (-1)) (.bool false) (.bool false) (.bool false) (.string S12)
      have HQ := Lib.hid (And.intro q1 q2)
      clear q1 q2
      go_wp2_with fail
      go_meet
      exact ⟨_, rfl, HQ.out.1, HQ.out.2, Nat.le_refl _⟩
  case rest =>
    obtain ⟨zb, rfl, hz, hB, hle⟩ := hcut
    have z1 := hz.cell (1 + s)
    have z2 := hz.cell (4 + s)
    have zf := fun i => hz.frozen i
    have e1 : ([Value.int .i64 ((l : Int) + 1), .int .i64 (-1), .int .i64 (-1), .int .i64 (-1), .bool false, .bool false, .bool false, .string S12])[1 + s]? = some (.int .i64 (-1)) := by
      rcases three hs with rfl | rfl | rfl <;> rfl
    have e2 : ([Value.int .i64 ((l : Int) + 1), .int .i64 (-1), .int .i64 (-1), .int .i64 (-1), .bool false, .bool false, .bool false, .string S12])[4 + s]? = some (.bool false) := by
      rcases three hs with rfl | rfl | rfl <;> rfl
    rw [e1] at z1
    rw [e2] at z2
    have HC := Lib.hid (And.intro hz (And.intro hB hle))
    clear hz hB hle e1 e2
    go_upto_region 7 with fail
    obtain ⟨hz, hB, hle⟩ := HC.out
    obtain ⟨W, hW⟩ : ∃ W, (wc.setCell ⟨zb, 1 + s, none⟩ (Value.int .i64 (x : Int))).setCell ⟨zb, 4 + s, none⟩ (Value.bool true) = W := ⟨_, rfl⟩
    obtain ⟨t0, t1, t2, d0, d1, d2, ht3, hd3, hset⟩ := node_first (x : Int) hs
    have hq : SBlk W zb 126 [.int .i64 ((l : Int) + 1), .int .i64 t0, .int .i64 t1, .int .i64 t2, .bool d0, .bool d1, .bool d2, .string S12] := by
      have h1 := (hz.set (1 + s) (Value.int .i64 (x : Int))).set (4 + s) (Value.bool true)
      rw [hW] at h1
      rw [hset] at h1
      exact h1
    have hBW : Below w.heap.size w W := by
      rw [← hW]
      exact (hB.setCell (p := ⟨zb, 1 + s, none⟩) hle _).setCell (p := ⟨zb, 4 + s, none⟩) hle _
    rw [hW]
    have hzw := hle
    clear z1 z2 zf hz hB hle HC hW hset
    have hG := H.out.1.below hBW H.out.1.g.lt H.out.1.n.lt
    have hfr : nodeC ⟨l + 1, [t0, t1, t2], [d0, d1, d2], (nd ns x).word ++ [s]⟩ = [.int .i64 ((l : Int) + 1), .int .i64 t0, .int .i64 t1, .int .i64 t2, .bool d0, .bool d1, .bool d2, .string S12] := by
      rw [← HS12.out]; rfl
    have hG2 := (hG.alloc (.cells #[.int .i64 ((l : Int) + 1), .int .i64 t0, .int .i64 t1, .int .i64 t2, .bool d0, .bool d1, .bool d2, .string S12] 126)).drew
    have hnw := (SBlk.new W 126 [.int .i64 ((l : Int) + 1), .int .i64 t0, .int .i64 t1, .int .i64 t2, .bool d0, .bool d1, .bool d2, .string S12]).drew
    obtain ⟨nb', cap', rest', w', hr, a1, a2, a3, a4, a5, a6⟩ := append_node _ nb cap ns rest hG2.n hG2.shp hG2.le hG2.room hG2.cm ⟨W.heap.size, 0, none⟩ 1 ⟨l + 1, [t0, t1, t2], [d0, d1, d2], (nd ns x).word ++ [s]⟩ ⟨rfl, rfl⟩ (by
      intro j u hu
      rw [hfr] at hu
      have hc := hnw.cell j
      rw [hu] at hc
      rw [← hc]; simp only [Addr.add]; split <;> simp_all) hbd
    have g1 := hG2.g.grown a6 (by intro e; injection e with e; exact hG2.ne e)
    have g2 := g1.cell 3
    have g3 := g1.frozen 3
    simp only [List.getElem?_cons_succ, List.getElem?_cons_zero] at g2
    have b3 := hG.g.cell 3
    simp only [List.getElem?_cons_succ, List.getElem?_cons_zero] at b3
    obtain ⟨⟨z0, z1, z2, z3, z4, z5, z6, z7⟩, -⟩ := eight hq
    have hle' : ns.length + 1 = (ns ++ [(⟨l + 1, [t0, t1, t2], [d0, d1, d2], (nd ns x).word ++ [s]⟩ : Nd)]).length := by simp
    have hfin : GAt (w'.setCell ⟨gb, 3, none⟩ (.slice (some ⟨nb', 0, none⟩) (ns.length + 1) cap')) gb nb' cap' a b c (ns ++ [⟨l + 1, [t0, t1, t2], [d0, d1, d2], (nd ns x).word ++ [s]⟩]) rest' ∧ (nb' = nb ∨ w.heap.size ≤ nb') ∧ But (fun k => k = gb ∨ k = nb ∨ w.heap.size ≤ k) w (w'.setCell ⟨gb, 3, none⟩ (.slice (some ⟨nb', 0, none⟩) (ns.length + 1) cap')) := by
      have hgs := H.out.1.g.lt
      have hws := hBW.size
      have hne : gb ≠ nb' := by
        rcases a5 with h | h
        · rw [h]; exact H.out.1.ne
        · rw [h]; simp; omega
      refine ⟨⟨?_, ?_, ?_, ?_, ?_, a4, hne⟩, ?_, ?_⟩
      · have := g1.set 3 (.slice (some ⟨nb', 0, none⟩) (ns.length + 1) cap')
        rw [← hle']
        exact this
      · exact a1.far (p := ⟨gb, 3, none⟩) (Ne.symm hne) _
      · intro i hi
        rw [← hle'] at hi
        rcases Nat.lt_or_ge i ns.length with h | h
        · rw [nd_app _ h]; exact hG.shp i h
        · obtain rfl : i = ns.length := by omega
          rw [nd_end]; exact ⟨rfl, rfl⟩
      · rw [← hle']; exact a2
      · rw [← hle']; exact a3
      · rcases a5 with h | h
        · exact .inl h
        · right; rw [h]; simp; omega
      · exact (((((But.of_below hBW (fun k _ h => .inr (.inr h))).alloc _).drew).trans (But.of_grown a6 (.inr (.inl rfl))))).setCell (p := ⟨gb, 3, none⟩) (.inl rfl) _
    have HFIN := Lib.hid hfin
    clear hfin hle'
    have HN := Lib.hid (And.intro hG2 (And.intro a1 (And.intro a2 (And.intro a3 (And.intro a4 (And.intro a5 (And.intro a6 (And.intro g1 (And.intro hBW (And.intro ht3 hd3))))))))))
    have HW := Lib.hid hG
    have b4 := (hG.alloc (.cells #[.int .i64 ((l : Int) + 1), .int .i64 t0, .int .i64 t1, .int .i64 t2, .bool d0, .bool d1, .bool d2, .string S12] 126)).drew.g.cell 3
    have b5 := (hG.alloc (.cells #[.int .i64 ((l : Int) + 1), .int .i64 t0, .int .i64 t1, .int .i64 t2, .bool d0, .bool d1, .bool d2, .string S12] 126)).g.cell 3
    simp only [List.getElem?_cons_succ, List.getElem?_cons_zero] at b4 b5
    have n1 : (gb = W.heap.size) = False := by
      have := hG.g.lt
      simp; omega
    have n2 : (zb = W.heap.size) = False := by
      have := hq.lt
      simp; omega
    clear a1 a2 a3 a4 a5 a6 g1 hBW ht3 hd3 hG2 hG hq hfr hnw
    go_cut [] from 72 to 81 (fun wx => ∃ (nb' cap' : Nat) (rest' : List Value), GAt wx gb nb' cap' a b c (ns ++ [⟨l + 1, [t0, t1, t2], [d0, d1, d2], (nd ns x).word ++ [s]⟩]) rest' ∧ (nb' = nb ∨ w.heap.size ≤ nb') ∧ But (fun k => k = gb ∨ k = nb ∨ w.heap.size ≤ k) w wx)
    case first =>
      go_region_law (refine step_append_run (by rfl) (.tmp 76) (.tmp 78) 120 120 (by rfl) _ _ (by rfl) (by rfl) _ _ hr ?_)
      all_goals
        go_wp2_with fail
        go_meet
        exact ⟨nb', cap', rest', HFIN.out⟩
    case rest =>
      obtain ⟨nb2, cap2, rest2, hG2, hnb2, hbut2⟩ := hcut
      obtain ⟨-, -, -, -, -, -, -, -, -, ht3, hd3⟩ := HN.out
      have q0 := hG2.g.cell 3
      have hx2 : x < (ns ++ [(⟨l + 1, [t0, t1, t2], [d0, d1, d2], (nd ns x).word ++ [s]⟩ : Nd)]).length := by simp; omega
      have q1 := hG2.rto hx2 hs
      have q2 := hG2.n.frozen (x * 8 + 1 + s)
      rw [nd_app _ hx, HA.out.2.2.2.1] at q1
      simp only [List.getElem?_cons_succ, List.getElem?_cons_zero] at q0
      have q3 : (ns ++ [(⟨l + 1, [t0, t1, t2], [d0, d1, d2], (nd ns x).word ++ [s]⟩ : Nd)]).length = ns.length + 1 := by simp
      rw [q3] at q0
      have q4 : (x : Int) < ((ns.length + 1 : Nat) : Int) := by omega
      have hset := hG2.setTo hx2 hs (ns.length : Int)
      have hst : St M R ns x s 0 ((ns ++ [(⟨l + 1, [t0, t1, t2], [d0, d1, d2], (nd ns x).word ++ [s]⟩ : Nd)]).set x { nd (ns ++ [(⟨l + 1, [t0, t1, t2], [d0, d1, d2], (nd ns x).word ++ [s]⟩ : Nd)]) x with «to» := (nd (ns ++ [(⟨l + 1, [t0, t1, t2], [d0, d1, d2], (nd ns x).word ++ [s]⟩ : Nd)]) x).to.set s (ns.length : Int) }) := by
        refine st_start H.out.2 hx hs HA.out.2.2.2.1 (by rw [HLE.out]; exact HA.out.1) HA.out.2.1 (by simp) ?_ ?_ ?_
        · rw [nd_set hx2, if_pos rfl, nd_app _ hx]
        · rw [nd_set hx2, if_neg (by omega), nd_end, ← HLE.out, ← ht3, ← hd3]
        · intro k hk hkx
          rw [nd_set hx2, if_neg (fun e => hkx e.symm), nd_app _ hk]
      generalize ((ns ++ [(⟨l + 1, [t0, t1, t2], [d0, d1, d2], (nd ns x).word ++ [s]⟩ : Nd)]).set x { nd (ns ++ [(⟨l + 1, [t0, t1, t2], [d0, d1, d2], (nd ns x).word ++ [s]⟩ : Nd)]) x with «to» := (nd (ns ++ [(⟨l + 1, [t0, t1, t2], [d0, d1, d2], (nd ns x).word ++ [s]⟩ : Nd)]) x).to.set s (ns.length : Int) }) = ns2 at hset hst
      have hbut := hbut2.setCell (p := ⟨nb2, x * 8 + 1 + s, none⟩) (hnb2.elim (fun h => .inr (.inl h)) (fun h => .inr (.inr h))) (.int .i64 (ns.length : Int))
      have HS := Lib.hid (And.intro hset (And.intro hst (And.intro hnb2 hbut)))
      clear hset hst hnb2 hbut hbut2 hG2 q3 hx2 ht3 hd3
      clear HN HFIN HW HK HD1 HD2 hr
      go_wp2_with fail
      go_loopg [9] 3 (fun g t wr => ∃ (k : Nat) (ns1 : List Nd) (nb1 cap1 : Nat) (rest1 : List Value), k ≤ 3 ∧ g = 3 - k ∧ t = .int .i64 (k : Int) ∧ GAt wr gb nb1 cap1 a b c ns1 rest1 ∧ St M R ns x s k ns1 ∧ (nb1 = nb ∨ w.heap.size ≤ nb1) ∧ But (fun k => k = gb ∨ k = nb ∨ w.heap.size ≤ k) w wr)
      case atStart => exact ⟨0, ns2, nb2, cap2, rest2, by omega, rfl, rfl, HS.out⟩
      case round =>
        clear HS
        obtain ⟨k, ns1, nb1, cap1, rest1, hk, rfl, rfl, hG1, hst, hnb1, hbut⟩ := hrel
        have HS := Lib.hid (And.intro hG1 (And.intro hst (And.intro hnb1 hbut)))
        clear hst hnb1 hbut
        by_cases hlt : k < 3
        · by_cases hks : k = s
          · have hq : ((k : Int) != (s : Int)) = false := by simp [hks]
            clear hG1
            go_wp2_with fail
            go_roundg (3 - (k + 1))
            case measure => omega
            case rel =>
              obtain ⟨hG1, hst, hnb1, hbut⟩ := HS.out
              exact ⟨k + 1, ns1, nb1, cap1, rest1, by omega, by omega, by simp [hks], hG1, st_skip hst (.inl hks), hnb1, hbut⟩
          · have hq : ((k : Int) != (s : Int)) = true := by
              have hne : ¬ ((k : Int) = (s : Int)) := by omega
              exact bne_iff_ne.2 hne
            have g0 := hG1.g.cell 0
            have g1' := hG1.g.cell 1
            have g2' := hG1.g.cell 2
            have g3' := hG1.g.cell 3
            simp only [List.getElem?_cons_succ, List.getElem?_cons_zero] at g0 g1' g2' g3'
            have hbt := fun W => Between_any a b c s k W
            rw [Mo_between a b c hs hlt (fun e => hks e.symm)] at hbt
            have HBT := Lib.hid hbt
            obtain ⟨m, hm⟩ : ∃ m, Mo a b c s k = m := ⟨_, rfl⟩
            rw [hm] at HBT
            have hlim : Lim m := by rw [← hm]; exact Mo_lim hla hlb hlc s k
            have HM := Lib.hid hm
            clear hbt hm hG1
            go_wp2_with fail
            (with_reducible refine (HBT.out _).mono ?_)
            rintro e W1 ⟨rfl, hb1⟩
            have hG1 := HS.out.1.below hb1 HS.out.1.g.lt HS.out.1.n.lt
            have hbut1 := HS.out.2.2.2.trans (But.of_below (S := fun k => k = gb ∨ k = nb ∨ w.heap.size ≤ k) hb1 (fun k _ h => .inr (.inr (by have := HS.out.2.2.2.size; omega))))
            have hst := HS.out.2.1
            have hnb1 := HS.out.2.2.1
            replace HS := Lib.hid (And.intro hG1 (And.intro hst (And.intro hnb1 hbut1)))
            clear hb1 hst hnb1 hbut1 g0 g1' g2' g3' HBT hG1
            by_cases hm0 : m = 0
            · have hq2 : ((m : Int) == 0) = true := by simp [hm0]
              go_wp2_with fail
              go_roundg (3 - (k + 1))
              case measure => omega
              case rel =>
                obtain ⟨hG1, hst, hnb1, hbut⟩ := HS.out
                refine ⟨k + 1, ns1, nb1, cap1, rest1, by omega, by omega, by simp, hG1, st_skip hst (.inr fun hd => ?_), hnb1, hbut⟩
                obtain ⟨hup, _⟩ := ok_fresh H.out.2 hx hs HA.out.2.2.2.1 (by rw [HLE.out]; exact HA.out.1)
                refine (bothR HA.out.2.2.2.2.2.1 (fun e => hks e.symm) ((dr_back _ s).2 hup) hd).1 ?_
                rw [HA.out.2.2.2.2.1, HM.out, hm0]
            · have hq2 : ((m : Int) == 0) = false := by simp; omega
              have hm12 : m ≤ 12 := by rcases hlim with h | h <;> omega
              have hw1 : IntKind.i64.wrap ((m : Int) - 1) = (m : Int) - 1 := IntWalk.i64_in _ (by omega)
              have hup := (ok_fresh H.out.2 hx hs HA.out.2.2.2.1 (by rw [HLE.out]; exact HA.out.1)).1
              have hel : El M ns1 x = El M ns x := st_elOld HS.out.2.1 hx
              have hfl : Fl M (ln (El M ns x)) ns1 := by
                have h1 := st_fl HS.out.2.1 (by rw [HLE.out]; exact HA.out.1)
                rw [← H.out.2.len x hx]; exact h1
              have hmk : M s k = (m - 1) + 1 := by rw [HA.out.2.2.2.2.1, HM.out]; omega
              have hx1 : x < ns1.length := by have := HS.out.2.1.size; omega
              have HU := Lib.hid (And.intro hup (And.intro hfl (And.intro hmk (And.intro hel hx1))))
              clear hup hfl hmk hel hx1
              go_wp2_with fail
              go_loopg [11, 12, 13] (m - 1) (fun g t11 t12 t13 wi => ∃ (j v : Nat) (al : Bool), j ≤ m - 1 ∧ g = m - 1 - j ∧ t11 = .int .i64 (v : Int) ∧ t12 = .bool al ∧ t13 = .int .i64 (j : Int) ∧ wi = W1 ∧ v < ns1.length ∧ (al = true → Dn M ns1 (El M ns x) k s j v) ∧ (al = false → ¬ Dr (El M ns x * mk [s]) k))
              case atStart =>
                refine ⟨0, x, true, by omega, rfl, rfl, rfl, rfl, rfl, HU.out.2.2.2.2, fun _ => ?_, fun h => by cases h⟩
                have := dn_start (M := M) HU.out.2.2.2.2 k s
                rw [HU.out.2.2.2.1] at this
                exact this
              case round =>
                obtain ⟨j, v, al, hj, rfl, rfl, rfl, rfl, rfl, hv, hal, hno⟩ := hrel
                have HJ := Lib.hid (And.intro hal hno)
                clear hal hno
                by_cases hjm : j < m - 1
                · have hjm2 : (j : Int) < (m : Int) - 1 := by omega
                  cases al with
                  | false =>
                    go_wp2_with fail
                    go_roundg (3 - (k + 1))
                    case measure => omega
                    case rel =>
                      obtain ⟨hG1, hst, hnb1, hbut⟩ := HS.out
                      exact ⟨k + 1, ns1, nb1, cap1, rest1, by omega, by omega, by simp, hG1, st_skip hst (.inr (HJ.out.2 (by first | rfl | trivial))), hnb1, hbut⟩
                  | true =>
                    obtain ⟨y, hy⟩ : ∃ y, turn k s j = y := ⟨_, rfl⟩
                    have hy3 : y < 3 := by rw [← hy]; exact turn_lt hlt hs j
                    have ho := fun W => other_any k s j W
                    rw [hy] at ho
                    have HO := Lib.hid (And.intro ho hy)
                    have p0 := HS.out.1.rdown hv hy3
                    have p1 := HS.out.1.rto hv hy3
                    have p2 := HS.out.1.g.cell 3
                    simp only [List.getElem?_cons_succ, List.getElem?_cons_zero] at p2
                    have j1 : (0 : Int) ≤ (v : Int) := by omega
                    have j2 : (v : Int) < (ns1.length : Int) := by omega
                    have j3 : (0 : Int) ≤ (y : Int) := by omega
                    have j4 : (y : Int) < 3 := by omega
                    clear ho hy
                    cases hdb : db (nd ns1 v) y with
                    | false =>
                      rw [hdb] at p0
                      have hstop : ¬ Dr (El M ns x * mk [s]) k := dn_stop HA.out.2.2.2.2.2.1 HS.out.2.1.ok (fun e => hks e.symm) hlt hs HU.out.2.2.1 hjm HU.out.2.1 (HJ.out.1 rfl) HU.out.1 (by rw [HO.out.2]; exact hdb)
                      have HP := Lib.hid hstop
                      clear hdb hstop
                      go_wp2_with (go_at_call 139; (with_reducible refine (HO.out.1 _).mono ?_); rintro e w' ⟨rfl, rfl⟩)
                      go_roundg (m - 1 - (j + 1))
                      case measure => omega
                      case rel => exact ⟨j + 1, v, false, by omega, rfl, rfl, rfl, by simp, rfl, hv, (fun h => by cases h), fun _ => HP.out⟩
                    | true =>
                      rw [hdb] at p0
                      obtain ⟨v', hv1, hv2, hv3⟩ := dn_next HS.out.2.1.ok hlt hs HU.out.2.1 (HJ.out.1 rfl) (by rw [HO.out.2]; exact hdb)
                      rw [HO.out.2] at hv2
                      rw [hv2] at p1
                      have HP := Lib.hid (And.intro hv1 hv3)
                      clear hdb hv2 hv3
                      go_wp2_with (go_at_call 139; (with_reducible refine (HO.out.1 _).mono ?_); rintro e w' ⟨rfl, rfl⟩)
                      go_roundg (m - 1 - (j + 1))
                      case measure => omega
                      case rel => exact ⟨j + 1, v', true, by omega, rfl, rfl, rfl, by simp, rfl, HP.out.1, (fun _ => HP.out.2), fun h => by cases h⟩
                · have hjm2 : decide ((j : Int) < (m : Int) - 1) = false := decide_eq_false (by omega)
                  cases al with
                  | false =>
                    go_wp2_with fail
                    go_roundg (3 - (k + 1))
                    case measure => omega
                    case rel =>
                      obtain ⟨hG1, hst, hnb1, hbut⟩ := HS.out
                      exact ⟨k + 1, ns1, nb1, cap1, rest1, by omega, by omega, by simp, hG1, st_skip hst (.inr (HJ.out.2 (by first | rfl | trivial))), hnb1, hbut⟩
                  | true =>
                    have hjj : j = m - 1 := by omega
                    obtain ⟨a1, a2, a3, a4⟩ := dn_all HU.out.2.2.1 (by rw [← hjj]; exact HJ.out.1 rfl) HU.out.1
                    obtain ⟨u, hu⟩ : ∃ u, El M ns1 v = u := ⟨_, rfl⟩
                    have hlu : ln u + (m - 1) = ln (El M ns x) := by
                      have := (HJ.out.1 rfl).ln
                      rw [hu, hjj] at this
                      exact this
                    have hup0 := up_start (M := M) hv k s (m - 1)
                    rw [hu] at a1 a2 a4 hup0
                    have HV := Lib.hid (And.intro a1 (And.intro a2 (And.intro a3 (And.intro a4 (And.intro hlu hup0)))))
                    clear a1 a2 a3 a4 hlu hup0 hu
                    go_wp2_with fail
                    go_loopg [11, 15] (m - 1) (fun g t11 t15 wi => ∃ (j v : Nat) (ns2 : List Nd) (nb2 cap2 : Nat) (rest2 : List Value), j ≤ m - 1 ∧ g = m - 1 - j ∧ t11 = .int .i64 (v : Int) ∧ t15 = .int .i64 ((j : Int) + 1) ∧ GAt wi gb nb2 cap2 a b c ns2 rest2 ∧ St M R ns x s k ns2 ∧ (nb2 = nb ∨ w.heap.size ≤ nb2) ∧ But (fun k => k = gb ∨ k = nb ∨ w.heap.size ≤ k) w wi ∧ Up M ns2 u k s (m - 1) j v)
                    case atStart => exact ⟨0, v, ns1, nb1, cap1, rest1, by omega, rfl, rfl, by simp, HS.out.1, HS.out.2.1, HS.out.2.2.1, HS.out.2.2.2, HV.out.2.2.2.2.2⟩
                    case round =>
                      clear HJ hv hj hjm hjm2 hjj HS
                      obtain ⟨j, v, ns2, nb2, cap2, rest2, hj, rfl, rfl, rfl, hS⟩ := hrel
                      have HS := Lib.hid hS
                      clear hS
                      by_cases hjm : j < m - 1
                      · have hjm2 : (j : Int) + 1 < (m : Int) := by omega
                        obtain ⟨y, hy⟩ : ∃ y, turn k s (m - (j + 1)) = y := ⟨_, rfl⟩
                        have hy3 : y < 3 := by rw [← hy]; exact turn_lt hlt hs _
                        have hw2 : IntKind.i64.wrap ((m : Int) - ((j : Int) + 1)) = (m : Int) - ((j : Int) + 1) := IntWalk.i64_in _ (by omega)
                        have ho := fun W => other_any k s (m - (j + 1)) W
                        have hcast : ((m - (j + 1) : Nat) : Int) = (m : Int) - ((j : Int) + 1) := by omega
                        rw [hcast, hy] at ho
                        have hyt : turn s k (m - 1 - 1 - j) = y := by
                          rw [← hy, ← turn_swap s k, show m - 1 - 1 - j + 1 = m - (j + 1) by omega]
                        obtain ⟨hG2, hst2, hnb2, hbut2, hUp⟩ := HS.out
                        have hvl : (nd ns2 v).len + 1 ≤ (nd ns x).len := by
                          have h1 := hst2.ok.len v hUp.lt
                          have h2 := hUp.ln
                          have h3 := HV.out.2.2.2.2.1
                          have h4 := H.out.2.len x hx
                          omega
                        have hfl2 : Fl M ((nd ns2 v).len + 1) ns2 := (st_fl hst2 (by rw [HLE.out]; exact HA.out.1)).less hvl
                        have hx2 := HV.out.2.1
                        rw [HV.out.1] at hx2
                        have hmk := HU.out.2.2.1
                        have hev : El M ns2 v * mk [y] = u * mk ((alt s k (m - 1)).reverse.take (j + 1)) := by
                          rw [hUp.el, rev_letter s k hjm, hyt, ← mk_mul, mul_assoc]
                        have hwalls : R (El M ns2 v * mk [y]) := by
                          refine HCL.out _ _ (fun t ht => ?_) HA.out.2.1
                          rw [hev] at ht
                          have := (up_len (u := u) (t := k) (s := s) (m := m - 1) hx2 hmk (j := j + 1) (by omega)).2 t ht
                          rw [← HV.out.1] at this
                          exact this
                        have hstp := fun W (hW : GAt W gb nb2 cap2 a b c ns2 rest2) => HA.out.2.2.1 (nd ns2 v).len (by rw [← HLE.out]; omega) ns2 v y W gb nb2 cap2 rest2 rfl hW hst2.ok hfl2 hwalls hUp.lt hy3
                        have HO := Lib.hid (And.intro ho (And.intro hstp hyt))
                        clear ho hstp hy hcast hG2 hst2 hnb2 hbut2 hUp hvl hfl2 hx2 hmk hev hwalls hyt
                        go_wp2_with (first
                          | (go_at_call 139; (with_reducible refine (HO.out.1 _).mono ?_); rintro e w' ⟨rfl, rfl⟩)
                          | (go_at_call 86; (with_reducible refine (HO.out.2.1 _ HS.out.1).mono ?_); rintro e w' ⟨r, ns3, nb3, cap3, rest3, rfl, hstep⟩; have HR3 := Lib.hid hstep; clear hstep))
                        go_roundg (m - 1 - (j + 1))
                        case measure => omega
                        case rel =>
                          obtain ⟨hG2, hst2, hnb2, hbut2, hUp⟩ := HS.out
                          obtain ⟨b1, b2, b3, b4, b5, b6, b7⟩ := HR3.out
                          have hvl : (nd ns2 v).len + 1 ≤ (nd ns x).len := by
                            have h1 := hst2.ok.len v hUp.lt
                            have h2 := hUp.ln
                            have h3 := HV.out.2.2.2.2.1
                            have h4 := H.out.2.len x hx
                            omega
                          have hx2 := HV.out.2.1
                          rw [HV.out.1] at hx2
                          refine ⟨j + 1, r, ns3, nb3, cap3, rest3, by omega, rfl, rfl, by simp, b1, st_ext hst2 b2 b3 hvl, ?_, ?_, up_next hx2 HU.out.2.2.1 hjm hUp b4 (by rw [HO.out.2.2]; exact b5)⟩
                          · rcases b6 with h | h
                            · rw [h]; exact hnb2
                            · right; have := hbut2.size; omega
                          · refine hbut2.trans (b7.mono fun q _ hq => ?_)
                            rcases hq with h | h | h
                            · exact .inl h
                            · rw [h]; exact .inr hnb2
                            · have := hbut2.size; exact .inr (.inr (by omega))
                      · have hjm2 : decide ((j : Int) + 1 < (m : Int)) = false := decide_eq_false (by omega)
                        obtain rfl : j = m - 1 := by omega
                        obtain ⟨hG2, hst2, hnb2, hbut2, hUp⟩ := HS.out
                        have hn0 := hst2.size
                        have hv := hUp.lt
                        have o0 := hG2.g.cell 3
                        simp only [List.getElem?_cons_succ, List.getElem?_cons_zero] at o0
                        have o1 := hG2.rto hv hlt
                        have o2 := hG2.n.frozen (v * 8 + 1 + k)
                        have l1 : (0 : Int) ≤ (v : Int) := by omega
                        have l2 : (v : Int) < (ns2.length : Int) := by omega
                        have l3 : (0 : Int) ≤ (k : Int) := by omega
                        have l4 : (k : Int) < 3 := by omega
                        have l5 : (ns.length : Int) < (ns2.length : Int) := by omega
                        have l6 : (0 : Int) ≤ (ns.length : Int) := by omega
                        clear hG2 hst2 hnb2 hbut2 hUp
                        go_upto_region 31 with fail
                        have hA1 := HS.out.1.setTo hv hlt (ns.length : Int)
                        have hvn : v ≠ ns.length := by
                          rintro rfl
                          have e1 := HS.out.2.1.yel
                          have e2 := HS.out.2.2.2.2.el
                          have e3 := HS.out.2.2.2.2.ln
                          have e4 := HV.out.2.1
                          rw [e1] at e3
                          omega
                        have d1 : ∀ i, nd (ns2.set v { nd ns2 v with «to» := (nd ns2 v).to.set k (ns.length : Int) }) i = if v = i then { nd ns2 v with «to» := (nd ns2 v).to.set k (ns.length : Int) } else nd ns2 i := nd_set hv _
                        have d2 : (ns2.set v { nd ns2 v with «to» := (nd ns2 v).to.set k (ns.length : Int) }).length = ns2.length := by simp
                        generalize ns2.set v { nd ns2 v with «to» := (nd ns2 v).to.set k (ns.length : Int) } = nsA at hA1 d1 d2
                        have bA : But (fun k => k = gb ∨ k = nb ∨ w.heap.size ≤ k) w (wr.setCell ⟨nb2, v * 8 + 1 + k, none⟩ (.int .i64 (ns.length : Int))) := HS.out.2.2.2.1.setCell (p := ⟨nb2, v * 8 + 1 + k, none⟩) (HS.out.2.2.1.elim (fun h => .inr (.inl h)) (fun h => .inr (.inr h))) _
                        obtain ⟨WA, hWA⟩ : ∃ z, wr.setCell ⟨nb2, v * 8 + 1 + k, none⟩ (.int .i64 (ns.length : Int)) = z := ⟨_, rfl⟩
                        rw [hWA] at hA1 bA ⊢
                        clear hWA o0 o1 o2
                        have hnA : ns.length < nsA.length := by omega
                        have o0 := hA1.g.cell 3
                        simp only [List.getElem?_cons_succ, List.getElem?_cons_zero] at o0
                        have o1 := hA1.rto hnA hlt
                        have o2 := hA1.n.frozen (ns.length * 8 + 1 + k)
                        have l7 : (v : Int) < (nsA.length : Int) := by omega
                        have l8 : (ns.length : Int) < (nsA.length : Int) := by omega
                        have HA1 := Lib.hid (And.intro hA1 (And.intro d1 (And.intro d2 bA)))
                        clear hA1 d1 d2 bA
                        go_upto_region 32 with fail
                        have hB1 := HA1.out.1.setTo hnA hlt (v : Int)
                        have d1 : ∀ i, nd (nsA.set ns.length { nd nsA ns.length with «to» := (nd nsA ns.length).to.set k (v : Int) }) i = if ns.length = i then { nd nsA ns.length with «to» := (nd nsA ns.length).to.set k (v : Int) } else nd nsA i := nd_set hnA _
                        have d2 : (nsA.set ns.length { nd nsA ns.length with «to» := (nd nsA ns.length).to.set k (v : Int) }).length = nsA.length := by simp
                        generalize nsA.set ns.length { nd nsA ns.length with «to» := (nd nsA ns.length).to.set k (v : Int) } = nsB at hB1 d1 d2
                        have bB : But (fun k => k = gb ∨ k = nb ∨ w.heap.size ≤ k) w (WA.setCell ⟨nb2, ns.length * 8 + 1 + k, none⟩ (.int .i64 (v : Int))) := HA1.out.2.2.2.setCell (p := ⟨nb2, ns.length * 8 + 1 + k, none⟩) (HS.out.2.2.1.elim (fun h => .inr (.inl h)) (fun h => .inr (.inr h))) _
                        obtain ⟨WB, hWB⟩ : ∃ z, WA.setCell ⟨nb2, ns.length * 8 + 1 + k, none⟩ (.int .i64 (v : Int)) = z := ⟨_, rfl⟩
                        rw [hWB] at hB1 bB ⊢
                        clear hWB o0 o1 o2
                        have hnB : ns.length < nsB.length := by omega
                        have o0 := hB1.g.cell 3
                        simp only [List.getElem?_cons_succ, List.getElem?_cons_zero] at o0
                        have o1 := hB1.rdown hnB hlt
                        have o2 := hB1.n.frozen (ns.length * 8 + 4 + k)
                        have l9 : (v : Int) < (nsB.length : Int) := by omega
                        have l10 : (ns.length : Int) < (nsB.length : Int) := by omega
                        have HB1 := Lib.hid (And.intro hB1 (And.intro d1 (And.intro d2 bB)))
                        clear hB1 d1 d2 bB
                        go_upto_region 33 with fail
                        have hC1 := HB1.out.1.setDown hnB hlt true
                        have d1 : ∀ i, nd (nsB.set ns.length { nd nsB ns.length with down := (nd nsB ns.length).down.set k true }) i = if ns.length = i then { nd nsB ns.length with down := (nd nsB ns.length).down.set k true } else nd nsB i := nd_set hnB _
                        have d2 : (nsB.set ns.length { nd nsB ns.length with down := (nd nsB ns.length).down.set k true }).length = nsB.length := by simp
                        generalize nsB.set ns.length { nd nsB ns.length with down := (nd nsB ns.length).down.set k true } = nsC at hC1 d1 d2
                        have bC : But (fun k => k = gb ∨ k = nb ∨ w.heap.size ≤ k) w (WB.setCell ⟨nb2, ns.length * 8 + 4 + k, none⟩ (.bool true)) := HB1.out.2.2.2.setCell (p := ⟨nb2, ns.length * 8 + 4 + k, none⟩) (HS.out.2.2.1.elim (fun h => .inr (.inl h)) (fun h => .inr (.inr h))) _
                        obtain ⟨WC, hWC⟩ : ∃ z, WB.setCell ⟨nb2, ns.length * 8 + 4 + k, none⟩ (.bool true) = z := ⟨_, rfl⟩
                        rw [hWC] at hC1 bC ⊢
                        clear hWC o0 o1 o2
                        have hnC : ns.length < nsC.length := by omega
                        have hvC : v < nsC.length := by omega
                        have cv : nd nsC v = { nd ns2 v with «to» := (nd ns2 v).to.set k (ns.length : Int) } := by
                          rw [d1, if_neg (Ne.symm hvn), HB1.out.2.1, if_neg (Ne.symm hvn), HA1.out.2.1, if_pos rfl]
                        have cy : nd nsC ns.length = ⟨(nd ns2 ns.length).len, (nd ns2 ns.length).to.set k (v : Int), (nd ns2 ns.length).down.set k true, (nd ns2 ns.length).word⟩ := by
                          rw [d1, if_pos rfl, HB1.out.2.1, if_pos rfl, HA1.out.2.1, if_neg hvn]
                        have co : ∀ i, i < ns2.length → i ≠ v → i ≠ ns.length → nd nsC i = nd ns2 i := by
                          intro i _ h1 h2
                          rw [d1, if_neg (Ne.symm h2), HB1.out.2.1, if_neg (Ne.symm h2), HA1.out.2.1, if_neg (Ne.symm h1)]
                        have cl : nsC.length = ns2.length := by rw [d2, HB1.out.2.2.1, HA1.out.2.2.1]
                        clear d1 d2 HA1 HB1
                        have o0 := hC1.g.cell 3
                        simp only [List.getElem?_cons_succ, List.getElem?_cons_zero] at o0
                        have o1 := hC1.rword hvC
                        have o3 := hC1.rword hnC
                        have o2 := hC1.n.frozen (ns.length * 8 + 7)
                        rw [cv] at o1
                        rw [cy] at o3
                        have l11 : (v : Int) < (nsC.length : Int) := by omega
                        have l12 : (ns.length : Int) < (nsC.length : Int) := by omega
                        have hlet := fun W => letter_any k hlt W
                        have hwl := (ok_len HLN.out HS.out.2.1.ok hv).2
                        have adk := fun W => run_string_add_sum (P := Tryz.prog) (w := W) (str (nd ns2 v).word) (str [k]) (by rw [str_size, str_size]; simp; omega)
                        rw [str_join] at adk
                        generalize hT : str ((nd ns2 v).word ++ [k]) = T at adk
                        generalize hO : str (nd ns2 ns.length).word = O at o3
                        generalize str (nd ns2 v).word = T1 at adk o1
                        generalize str [k] = T2 at adk hlet
                        have HT := Lib.hid (And.intro hT hO)
                        have hkp := fun W2 (hb : Below WC.heap.size WC W2) => (⟨(hb.cell (p := ⟨gb, 3, none⟩) hC1.g.lt).trans o0, (hb.cell (p := ⟨nb2, v * 8 + 7, none⟩) hC1.n.lt).trans o1⟩ : W2.cell? ⟨gb, 3, none⟩ = some (.slice (some ⟨nb2, 0, none⟩) nsC.length cap2) ∧ W2.cell? ⟨nb2, v * 8 + 7, none⟩ = some (.string T1))
                        have HKP := Lib.hid hkp
                        have HLT := Lib.hid hlet
                        have HCC := Lib.hid (And.intro hC1 (And.intro bC (And.intro cv (And.intro cy (And.intro co cl)))))
                        have hdr : Below WC.heap.size WC WC.drew := (Below.refl _ WC).drew
                        have HDR := Lib.hid hdr
                        clear hkp hlet hC1 bC cv cy co cl hT hO hdr hwl
                        go_cut [16] from 188 to 198 (fun s16 wx => s16 = .string T ∧ Below WC.heap.size WC wx)
                        case first =>
                          go_region_held3 (fun w' => w'.cell? ⟨gb, 3, none⟩ = some (.slice (some ⟨nb2, 0, none⟩) nsC.length cap2) ∧ w'.cell? ⟨nb2, v * 8 + 7, none⟩ = some (.string T1))
                            (first
                              | (with_reducible exact HKP.out _ HDR.out)
                              | (with_reducible exact kp)
                              | (go_keep; done))
                            (first
                              | (go_at_call 138; (with_reducible refine (HLT.out _).mono ?_); rintro e W4 ⟨rfl, hb⟩; have hb2 := below_d1 (w := WC) hb; have HB2 := Lib.hid hb2; have kp := HKP.out W4 hb2; clear hb hb2))
                          all_goals
                            go_wp2_with fail
                            go_meet
                            exact ⟨rfl, HB2.out⟩
                        case rest =>
                          obtain ⟨rfl, hbx⟩ := hcut
                          have hC2 := HCC.out.1.below hbx HCC.out.1.g.lt HCC.out.1.n.lt
                          have bC2 : But (fun k => k = gb ∨ k = nb ∨ w.heap.size ≤ k) w wc := HCC.out.2.1.trans (But.of_below (S := fun k => k = gb ∨ k = nb ∨ w.heap.size ≤ k) hbx (fun k _ h => .inr (.inr (by have := HCC.out.2.1.size; omega))))
                          clear o0 o1 o3 o2
                          have o0 := hC2.g.cell 3
                          simp only [List.getElem?_cons_succ, List.getElem?_cons_zero] at o0
                          have o3 := hC2.rword hnC
                          rw [HCC.out.2.2.2.1] at o3
                          have hOO : str (nd ns2 ns.length).word = O := HT.out.2
                          rw [hOO] at o3
                          have o2 := hC2.n.frozen (ns.length * 8 + 7)
                          have HC2 := Lib.hid (And.intro hC2 bC2)
                          have hlen : ((nd ns2 ns.length).word).length = ((nd ns2 v).word ++ [k]).length := by
                            have h1 := HS.out.2.1.ok.wlen _ hn0
                            have h2 := HS.out.2.1.ok.wlen _ hv
                            have h3 := HS.out.2.1.ylen
                            have h4 := HS.out.2.1.ok.len v hv
                            have h5 := HS.out.2.2.2.2.ln
                            have h6 := HV.out.2.2.2.2.1
                            have h7 := H.out.2.len x hx
                            rw [List.length_append, List.length_singleton]
                            omega
                          have hla' := bytes_ahead (l := (nd ns2 ns.length).word) (k := (nd ns2 v).word ++ [k]) hlen (low256 (HS.out.2.1.ok.low _ hn0)) (low256 (by
                            intro q hq
                            rcases List.mem_append.1 hq with h | h
                            · exact HS.out.2.1.ok.low _ hv q h
                            · rw [List.mem_singleton.1 h]; exact hlt))
                          rw [← toList_str, ← toList_str, HT.out.1, HT.out.2] at hla'
                          have HLA := Lib.hid hla'
                          have hve : El M ns2 v = El M ns x * mk [s] * mk [k] := by
                            rw [HS.out.2.2.2.2.el, HV.out.2.2.2.1, List.take_of_length_le (by simp [alt_length])]
                          have HVE := Lib.hid hve
                          clear hC2 bC2 hbx hlen hla' hve hOO
                          cases hbl : Op.bytesLess T.toList O.toList with
                          | false =>
                            go_wp2_with fail
                            go_roundg (3 - (k + 1))
                            case measure => omega
                            case rel =>
                              obtain ⟨hC1, bC, cv, cy, co, cl⟩ := HCC.out
                              refine ⟨k + 1, nsC, nb2, cap2, rest2, by omega, by omega, by simp, HC2.out.1, ?_, HS.out.2.2.1, HC2.out.2⟩
                              exact st_add HS.out.2.1 H.out.2 hx (by rw [HLE.out]; exact HA.out.1) HU.out.1 hlt hks HV.out.2.2.1 hv HVE.out cl (.inl ⟨rfl, HLA.out.1 hbl⟩) cv cy co
                          | true =>
                            go_wp2_with fail
                            go_roundg (3 - (k + 1))
                            case measure => omega
                            case rel =>
                              obtain ⟨hC1, bC, cv, cy, co, cl⟩ := HCC.out
                              have hD := HC2.out.1.setWord hnC ((nd ns2 v).word ++ [k])
                              rw [HT.out.1] at hD
                              refine ⟨k + 1, _, nb2, cap2, rest2, by omega, by omega, by simp, hD, ?_, HS.out.2.2.1, HC2.out.2.setCell (p := ⟨nb2, ns.length * 8 + 7, none⟩) (HS.out.2.2.1.elim (fun h => .inr (.inl h)) (fun h => .inr (.inr h))) _⟩
                              refine st_add HS.out.2.1 H.out.2 hx (by rw [HLE.out]; exact HA.out.1) HU.out.1 hlt hks HV.out.2.2.1 hv HVE.out (by rw [List.length_set]; exact cl) (.inr ⟨rfl, HLA.out.2 hbl⟩) ?_ ?_ ?_
                              · rw [nd_set hnC, if_neg (Ne.symm hvn)]; exact cv
                              · rw [nd_set hnC, if_pos rfl, cy]
                              · intro i h1 h2 h3
                                rw [nd_set hnC, if_neg (Ne.symm h3)]; exact co i h1 h2 h3
        · obtain rfl : k = 3 := by omega
          clear hG1
          go_wp2_with fail
          go_ret
          obtain ⟨hG1, hst, hnb1, hbut⟩ := HS.out
          have hdone := st_done HA.out.2.2.2.2.2.2 hst
          exact ⟨ns.length, ns1, nb1, cap1, rest1, rfl, hG1, hst.ok, hdone, hst.size, hst.yel, hnb1, hbut⟩
end Go.Proofs.YtcpeeopdaakbaaaGreat
