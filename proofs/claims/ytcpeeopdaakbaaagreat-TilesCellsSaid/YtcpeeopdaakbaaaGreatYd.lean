/- put: letters are put ahead of a word. -/
import Derived.Test.YtcpeeopdaakbaaaGreatYA
namespace Go.Proofs.YtcpeeopdaakbaaaGreat
open Go.RowKit Go.Shelf Cx
attribute [local go_sem] Oper.semAt_some

theorem bring_at {M : Nat → Nat → Nat} {a b c : Nat} (hMe : M = Mo a b c) (ha : Lim a) (hb : Lim b) (hc : Lim c) (ob rb : Nat) (hor : ob ≠ rb) (x : Nat) (pre l : List Nat) (w : World)
    (hx : x < 3) (hlow : ∀ y ∈ l, y < 3) (hml : pre.length + l.length ≤ 140737488355328) (hred : Red M l) (ho : SBlk w ob 272 (ordCells a b c)) (hr : SBlk w rb 5 (cellsB (pre ++ l))) :
    Calls Tryz.prog 216 #[.pointer (some ⟨ob, 0, none⟩), .int .u8 x, .slice (ladr rb pre l) l.length l.length] w (RBring M x l pre rb w) := by
  by_cases h0 : l.length = 0
  · have hl := List.length_eq_zero_iff.1 h0
    subst hl
    refine (bring_nil x _ _ w).mono ?_
    rintro e w' ⟨rfl, rfl⟩
    exact ⟨false, [], rfl, brought_nil x, hr, only_refl _ _⟩
  · unfold ladr
    rw [if_neg h0]
    exact bring_any hMe ha hb hc ob rb hor l.length x pre l w (Nat.le_refl _) (by omega) hx hlow hml hred ho hr

theorem ko_drew {A B : World} (h : KeepsOthers A B) : KeepsOthers A B.drew := ⟨h.1, h.2⟩

theorem wpIn_cut {F : Fence} {n : Nat} {P : Program} {s : Code} {K : Act → World → Prop} {Q' : Exit → Act → World → Prop} {a : Act} {w : World} (R : Act → World → Prop)
    (first : ∀ K' : Act → World → Prop, (∀ a' w', R a' w' → K' a' w') → s.wpIn F n P (Exit.then K' Q') a w) (rest : ∀ a' w', R a' w' → K a' w') : s.wpIn F n P (Exit.then K Q') a w := by
  refine wpIn_mono (first R (fun _ _ q => q)) ?_
  intro e a' w' hq
  cases e with
  | normal => exact rest _ _ hq
  | exit id => exact hq
  | goto l => exact hq
  | ret => exact hq
  | panic ch => exact hq
  | outgrown => exact hq

/-- the state of put behind some letters -/
structure PutSt (M : Nat → Nat → Nat) (a b c mb ob rb n : Nat) (l : List Nat) (w : World) (pre : List Nat) (jk k : List Nat) (A : World) : Prop where
  made : MadeAt A mb ob rb jk k
  red : Red M k
  same : (mk k : G M) = mk (pre.reverse ++ l)
  low : ∀ y ∈ k, y < 3
  room : jk.length + k.length = n
  len : k.length ≤ pre.length + l.length
  ord : SBlk A ob 272 (ordCells a b c)
  box : SBlk A w.heap.size 198 [.pointer (some ⟨mb, 0, none⟩)]
  but : But (fun k => (k = mb ∨ k = rb) ∨ w.heap.size ≤ k) w A

/-- what put leaves -/
def RPut (M : Nat → Nat → Nat) (mb ob rb n : Nat) (xs l : List Nat) (w : World) (e : Ending) (w' : World) : Prop :=
  ∃ jk k, e = .returned (.tuple #[]) ∧ MadeAt w' mb ob rb jk k ∧ Red M k ∧ (mk k : G M) = mk (xs.reverse ++ l) ∧ (∀ y ∈ k, y < 3) ∧ jk.length + k.length = n ∧ k.length ≤ xs.length + l.length ∧ But (fun k => (k = mb ∨ k = rb) ∨ w.heap.size ≤ k) w w'

set_option maxRecDepth 100000 in
set_option maxHeartbeats 4000000 in
theorem put_any {M : Nat → Nat → Nat} {a b c : Nat} (hMe : M = Mo a b c) (ha : Lim a) (hb : Lim b) (hc : Lim c) (mb ob rb n gf : Nat) (cap : Array Value) (hor : ob ≠ rb) (hom : ob ≠ mb) (hmr : mb ≠ rb) (xs pre0 l : List Nat) (w : World)
    (eg : ∀ args w, (callFunc gf args).run Tryz.prog w = .ok (.enter gf args) w)
    (hit : ∀ o, IterL Fence.wide Tryz.prog gf cap encB (fun k => (k = mb ∨ k = rb) ∨ w.heap.size + 1 ≤ k) xs (w.alloc o))
    (h : MadeAt w mb ob rb pre0 l) (hn : pre0.length + l.length = n) (hn2 : n ≤ 140737488355328) (hroom : xs.length + l.length ≤ n) (hred : Red M l) (hlow : ∀ y ∈ l, y < 3) (hxs : ∀ y ∈ xs, y < 3) (ho : SBlk w ob 272 (ordCells a b c)) :
    Calls Tryz.prog 190 #[.pointer (some ⟨mb, 0, none⟩), .func (.func gf) #[] cap] w (RPut M mb ob rb n xs l w) := by
  have hmix : Tryz.prog.follows .mixedOrders = true := by kernel_rfl
  have hst : PutSt M a b c mb ob rb n l w [] pre0 l (w.alloc (.cells #[.pointer (some ⟨mb, 0, none⟩)] 198)) :=
    ⟨⟨h.m.alloc _, h.r.alloc _⟩, hred, rfl, hlow, hn, by simp, ho.alloc _, SBlk.new w 198 [.pointer (some ⟨mb, 0, none⟩)],
      But.of_below ((Below.refl _ w).alloc (Nat.le_refl _) _) (fun k _ h => .inr h)⟩
  have hmlt := h.m.lt
  have hrlt := h.r.lt
  have holt := ho.lt
  have HST := Lib.hid (And.intro hst hit)
  clear hst hit h hn hred hlow ho
  refine (callsIn_wide (n := 1)).1 ?_
  refine callsIn_of_wp_marks Tryz.func190 rfl trivial ?_ rfl
  simp only [Tryz.ntmps190, List.size_toArray, List.length_cons, List.length_nil, Nat.reduceAdd, Nat.reduceSub, Array.replicate_succ, Array.replicate_zero, List.push_toArray, List.append_toArray, List.nil_append, List.cons_append]
  gi_wp2_with fail
  obtain ⟨W0, hW0⟩ : ∃ W0, w.alloc (.cells #[.pointer (some ⟨mb, 0, none⟩)] 198) = W0 := ⟨_, rfl⟩
  have hsz : W0.heap.size = w.heap.size + 1 := by rw [← hW0]; simp
  have hit := HST.out.2 (.cells #[.pointer (some ⟨mb, 0, none⟩)] 198)
  have hst := HST.out.1
  rw [hW0] at hit hst ⊢
  rw [← hsz] at hit
  clear HST hW0
  refine rangeN (gf := gf) (cap := cap) (encs := encB) rfl trivial rfl eg (fun _ => rfl) (S := fun k => k = mb ∨ k = rb) hit
    (fun pre A => ∃ jk k, PutSt M a b c mb ob rb n l w pre jk k A) (fun _ _ => False) (fun _ _ => False)
    ?hI (fun _ _ _ h _ => h) ⟨_, _, hst⟩
    (fun pre x a' A => (∃ jk k, PutSt M a b c mb ob rb n l w pre jk k A) ∧ a' = { tmps := #[.pointer (some ⟨mb, 0, none⟩), .func (.func gf) #[] cap, .pointer (some ⟨w.heap.size, 0, none⟩), undef, .int .u8 x, .func (.func gf) #[] cap, .int .u8 x, undef, undef, undef, undef, undef, undef, undef, undef, undef, undef, undef, undef, undef, undef, undef, undef, undef, undef, undef, undef, undef, undef, undef, undef, undef, undef, undef, undef, undef, undef, undef, undef], defers := [] })
    ?hAx ?assign ?body ?done (fun _ _ h => h.elim) (fun _ _ h => h.elim)
  case hI =>
    rintro pre A B ⟨jk, k, h⟩ hs
    exact ⟨jk, k, ⟨hs.sblk h.made.m, hs.sblk h.made.r⟩, h.red, h.same, h.low, h.room, h.len, hs.sblk h.ord, hs.sblk h.box, hs.but h.but (by omega)⟩
  case hAx =>
    rintro pre x a' A B ⟨⟨jk, k, h⟩, rfl⟩ hs
    exact ⟨⟨jk, k, ⟨hs.sblk h.made.m, hs.sblk h.made.r⟩, h.red, h.same, h.low, h.room, h.len, hs.sblk h.ord, hs.sblk h.box, hs.but h.but (by omega)⟩, rfl⟩
  case assign =>
    intro l2 pre x rest A K hxs2 hI hK
    unfold encB
    gi_wp2_with fail
    exact hK _ _ (KeepsOthers.refl _) (But.refl _ _) ⟨hI, rfl⟩
  case body =>
    rintro l2 pre x rest a' A hxe ⟨⟨jk, k, h⟩, rfl⟩
    have hx3 : x < 3 := hxs x (by rw [hxe]; simp)
    have hpl : pre.length < xs.length := by rw [hxe]; simp
    have b0 := h.box.cell 0
    have m0 := h.made.m.cell 0
    simp only [List.getElem?_cons_zero] at b0 m0
    have H := Lib.hid h
    have hle := letters_any mb ob rb jk k
    have HL := Lib.hid hle
    have hbr := fun W => bring_at hMe ha hb hc ob rb hor x jk k W hx3 h.low (by rw [h.room]; exact hn2) h.red
    have HBR := Lib.hid hbr
    have HXE := Lib.hid hxe
    clear h hle hbr hxe
    gi_wp2_with fail
    refine wpIn_cut (fun a' w' => ∃ (u7 u8 u9 u10 u11 u12 u13 : Value) (bb : Bool) (y : List Nat), Brought M x k bb y ∧ SBlk w' rb 5 (cellsB (jk ++ y)) ∧ A.grownBy w' (some rb) ∧
      a' = { tmps := #[.pointer (some ⟨mb, 0, none⟩), .func (.func gf) #[] cap, .pointer (some ⟨w.heap.size, 0, none⟩), undef, .int .u8 x, .func (.func gf) #[] cap, .int .u8 x, u7, u8, u9, u10, u11, u12, u13, .bool bb, undef, undef, undef, undef, undef, undef, undef, undef, undef, undef, undef, undef, undef, undef, undef, undef, undef, undef, undef, undef, undef, undef, undef, undef], defers := [] }) ?first ?rest
    case first =>
      intro K' hK'
      gi_region_with_o (first
        | (refine ⟨trivial, rfl, ?_⟩; gi_at_call 192; refine (CallsIn.inRound l2 (callsIn_wide.2 (HL.out _ ⟨H.out.made.m.drew, H.out.made.r.drew⟩ (by rw [H.out.room]; exact hn2)))).mono ?_; rintro e w' ⟨rfl, q, rfl⟩)
        | (refine ⟨trivial, rfl, ?_⟩; gi_at_call 216; refine (CallsIn.inRound l2 (callsIn_wide.2 (HBR.out _ (by exact H.out.ord) (by exact H.out.made.r)))).mono ?_; rintro e w' ⟨bb, y, rfl, hbr, hsb, hgr⟩))
      all_goals exact hK' _ _ ⟨_, _, _, _, _, _, _, _, _, hbr, hsb, only_trans (only_drewN (only_refl A _) _) hgr, rfl⟩
    case rest =>
      rintro a' B ⟨u7, u8, u9, u10, u11, u12, u13, bb, y, hbr, hsb, hgr, rfl⟩
      have h := H.out
      have hbx := h.box.grown hgr (by intro e; injection e with e; omega)
      have hmm := h.made.m.grown hgr (by intro e; injection e with e; omega)
      have hoo := h.ord.grown hgr (by intro e; injection e with e; exact hor e)
      have hbut : But (fun k => (k = mb ∨ k = rb) ∨ w.heap.size ≤ k) w B := h.but.trans (But.of_grown hgr (.inl (.inr rfl)))
      have hko : KeepsOthers A B := KeepsOthers.of_only hgr h.made.r
      have b0 := hbx.cell 0
      have m1 := hmm.cell 1
      have m2 := hmm.cell 2
      have mf := hmm.frozen 2
      have rf := fun i => hsb.frozen i
      simp only [List.getElem?_cons_zero, List.getElem?_cons_succ] at b0 m1 m2
      have HN := Lib.hid (And.intro hbr (And.intro hsb (And.intro hgr (And.intro hbx (And.intro hmm (And.intro hoo (And.intro hbut hko)))))))
      have hrm := h.room
      have hjl : jk.length ≤ n := by omega
      have hkl := h.len
      have HRM := Lib.hid hrm
      clear h hbr hsb hgr hbx hmm hoo hbut hko hrm b0 m0
      have b0 := HN.out.2.2.2.1.cell 0
      simp only [List.getElem?_cons_zero] at b0
      rcases bb
      · obtain ⟨jk', z, hz⟩ : ∃ jk' z, jk = jk' ++ [z] := by
          have hj1 : 1 ≤ jk.length := by have := HRM.out; omega
          have hne : jk ≠ [] := by intro e; rw [e] at hj1; simp at hj1
          exact ⟨jk.dropLast, jk.getLast hne, (List.dropLast_concat_getLast hne).symm⟩
        have hjl2 : jk.length = jk'.length + 1 := by rw [hz]; simp
        rw [hjl2] at m1 m2 hjl
        have hcast : (((jk'.length + 1 : Nat) : Int)) = (jk'.length : Int) + 1 := by simp
        rw [hcast] at m2
        have k1 : (0 : Int) ≤ (jk'.length : Int) := by omega
        have k2 : (jk'.length : Int) < (jk'.length : Int) + 1 + (k.length : Int) := by omega
        have HZ := Lib.hid (And.intro hz hjl2)
        have rf2 := rf jk'.length
        have rc2 := HN.out.2.1.cell jk'.length
        rw [cellsB_get (x := z) (by rw [hz]; simp)] at rc2
        clear hz hjl2 rf hcast
        gi_wp2_with fail
        refine tail_round 10 hmix (by kernel_rfl) (noDefer_of (by kernel_rfl)) (by rintro ⟨_, _, h⟩; exact h) ?_
        simp only [List.take_succ_cons, List.take_zero, List.drop_succ_cons, List.drop_zero]
        repeat still_step
        refine wpStill_nil ?_
        go_wp2_with fail
        obtain ⟨hbr, hsb, hgr, hbx, hmm, hoo, hbut, hko⟩ := HN.out
        obtain ⟨hz, hjl2⟩ := HZ.out
        have h := H.out
        obtain ⟨hr2, hm2⟩ := put_no h.red hbr
        have hS1 : (fun k => (k = mb ∨ k = rb) ∨ W0.heap.size ≤ k) rb := .inl (.inr rfl)
        refine ⟨ko_drew ((hko.trans (KeepsOthers.setCell _ _ _)).trans (KeepsOthers.setCell _ _ _)), (((But.of_grown (S := fun k => (k = mb ∨ k = rb) ∨ W0.heap.size ≤ k) hgr hS1).setCell (p := ⟨mb, 2, none⟩) (.inl (.inl rfl)) _).setCell (p := ⟨rb, jk'.length, none⟩) hS1 _).drew, jk', x :: y, ⟨?_, ?_⟩, hr2, ?_, ?_, ?_, ?_, ?_, ?_, ?_⟩
        · have := (hmm.set 2 (.int .i64 (jk'.length : Int))).far (p := ⟨rb, jk'.length, none⟩) hmr (.int .u8 (x : Int))
          simp only [List.set_cons_succ, List.set_cons_zero] at this
          have e1 : jk'.length + (x :: y).length = jk.length + k.length := by have := hbr.len; simp; omega
          rw [e1]
          exact this
        · have := (hsb.far (p := ⟨mb, 2, none⟩) (Ne.symm hmr) (.int .i64 (jk'.length : Int))).set jk'.length (.int .u8 (x : Int))
          rw [← cellsB_set, hz, List.append_assoc, List.set_append_right _ _ (Nat.le_refl _)] at this
          refine SBlk.drew ?_
          simpa using this
        · rw [hm2, List.reverse_append, show (mk (x :: k) : G M) = mk [x] * mk k from rfl, h.same]; rfl
        · intro q hq
          rcases List.mem_cons.1 hq with rfl | hq
          · exact hx3
          · exact hbr.low h.low q hq
        · have := h.room; have := hbr.len; simp; omega
        · have := h.len; have := hbr.len; simp; omega
        · exact (hoo.far (p := ⟨mb, 2, none⟩) hom _).far (p := ⟨rb, jk'.length, none⟩) hor _
        · exact (hbx.far (p := ⟨mb, 2, none⟩) (by show w.heap.size ≠ mb; omega) _).far (p := ⟨rb, jk'.length, none⟩) (by show w.heap.size ≠ rb; omega) _
        · exact ((hbut.setCell (p := ⟨mb, 2, none⟩) (.inl (.inl rfl)) _).setCell (p := ⟨rb, jk'.length, none⟩) (.inl (.inr rfl)) _).drew
      · gi_wp2_with fail
        obtain ⟨hbr, hsb, hgr, hbx, hmm, hoo, hbut, hko⟩ := HN.out
        have h := H.out
        obtain ⟨y', rfl, hr2, hm2, hl2⟩ := put_yes h.red hbr
        have hne : k ≠ [] := by intro e; rw [e] at hl2; simp at hl2
        refine ⟨hko.trans (KeepsOthers.setCell _ _ _), (But.of_grown (S := fun k => (k = mb ∨ k = rb) ∨ W0.heap.size ≤ k) hgr (.inl (.inr rfl))).setCell (p := ⟨mb, 2, none⟩) (.inl (.inl rfl)) _, jk ++ [x], y', ⟨?_, ?_⟩, hr2, ?_, ?_, ?_, ?_, ?_, ?_, ?_⟩
        · have := hmm.set 2 (.int .i64 ((jk.length : Int) + 1))
          simp only [List.set_cons_succ, List.set_cons_zero] at this
          have e1 : (jk ++ [x]).length + y'.length = jk.length + k.length := by simp; omega
          have e2 : (((jk ++ [x]).length : Nat) : Int) = (jk.length : Int) + 1 := by simp
          rw [e1, e2]
          exact this
        · have := hsb.far (p := ⟨mb, 2, none⟩) (Ne.symm hmr) (.int .i64 ((jk.length : Int) + 1))
          rw [show jk ++ [x] ++ y' = jk ++ x :: y' by simp]
          exact this
        · rw [hm2, List.reverse_append, show (mk (x :: k) : G M) = mk [x] * mk k from rfl, h.same]; rfl
        · exact fun q hq => hbr.low h.low q (List.mem_cons_of_mem _ hq)
        · have := h.room; simp; omega
        · have := h.len; simp; omega
        · exact hoo.far (p := ⟨mb, 2, none⟩) hom _
        · exact hbx.far (p := ⟨mb, 2, none⟩) (by show w.heap.size ≠ mb; omega) _
        · exact hbut.setCell (p := ⟨mb, 2, none⟩) (.inl (.inl rfl)) _
  case done =>
    rintro B ⟨jk, k, h⟩ hK
    have H := Lib.hid h
    clear h
    gi_wp2_with fail
    refine ⟨by simp, .inl ⟨_, _, rfl, run_takeDeferred hK, ?_⟩⟩
    have hs : Soft W0.heap.size B (B.putObj W0.heap.size (.deferred none)) := Soft.put _ hK rfl (Nat.le_refl _)
    have h := H.out
    exact ⟨_, results_none rfl _ _ _, jk, k, rfl, ⟨hs.sblk h.made.m, hs.sblk h.made.r⟩, h.red, h.same, h.low, h.room, h.len, hs.but h.but (by omega)⟩
end Go.Proofs.YtcpeeopdaakbaaaGreat
