/- The reference's circle. -/
import Derived.Test.YtbioehaapcnjmaaGreatCor1
namespace Go.Proofs.YtbioehaapcnjmaaGreat
open Go.RowKit Go.Shelf Cx

theorem ringT_word {a b c m : Nat} (l : List Nat) (hl : ∀ y ∈ l, y < 3) (hm : m < 3) (i : Nat) : str (nfW a b c [str (l ++ alt (sideA m) (sideB m) i)]) = ringT m (mk l : G (Mo a b c)) i := by
  have hlow : ∀ y ∈ l ++ alt (sideA m) (sideB m) i, y < 3 := fun y hy => by
    rcases List.mem_append.1 hy with h | h
    · exact hl y h
    · exact alt_low (side_lt hm).1 (side_lt hm).2 i y h
  show str (nf _) = str (nf _)
  rw [cat_one, bytesN_str (low256 hlow), mk_mul]

set_option maxRecDepth 100000 in
set_option maxHeartbeats 8000000 in
theorem circle_R {a b c m : Nat} (hg : Good a b c) (hm : m < 3) (l : List Nat) (hl : ∀ y ∈ l, y < 3) (hs : l.length ≤ 1000) (w : World) :
    Calls Tryz.prog 25 #[.agg #[.int .i64 a, .int .i64 b, .int .i64 c], .string (str l), .int .i64 m] w fun e w' => ∃ v, e = .returned v ∧ ListAt w' w.heap.size v ((List.range (2 * ordC a b c m)).map (ringT m (mk l : G (Mo a b c)))) ∧ Below w.heap.size w w' := by
  have hord : ordC a b c m ≤ 12 := by
    rw [ordC_eq a b c hm]
    have := Mo_lim hg.1 hg.2 hg.3 (sideA m) (sideB m)
    rcases this with h | h <;> omega
  have hO := fun W => Order_R a b c m hm W
  have hW : ∀ i, i ≤ 24 → ∀ W, Calls Tryz.prog 47 #[.agg #[.int .i64 a, .int .i64 b, .int .i64 c], .string (str (l ++ alt (sideA m) (sideB m) i))] W fun e w' => e = .returned (.string (ringT m (mk l : G (Mo a b c)) i)) ∧ Below W.heap.size W w' := fun i hi W => by
    have hlow : ∀ y ∈ l ++ alt (sideA m) (sideB m) i, y < 3 := fun y hy => by
      rcases List.mem_append.1 hy with h | h
      · exact hl y h
      · exact alt_low (side_lt hm).1 (side_lt hm).2 i y h
    have := Word_ok hg (str (l ++ alt (sideA m) (sideB m) i)) (by rw [bytesN_str (low256 hlow)]; exact hlow) (by rw [str_size, List.length_append, alt_length]; omega) W
    rw [ringT_word l hl hm] at this
    exact this
  have HO := Lib.hid (And.intro hO (And.intro hW (And.intro (fun W => first_R m hm W) (fun W => second_R m hm W))))
  have HLt := Lib.hid (And.intro (fun W => letter_R (sideA m) (side_lt hm).1 W) (fun W => letter_R (sideB m) (side_lt hm).2 W))
  obtain ⟨o, ho⟩ : ∃ o, ordC a b c m = o := ⟨_, rfl⟩
  rw [ho] at HO hord ⊢
  generalize ringT m (mk l : G (Mo a b c)) = F at *
  clear hO hW ho hg hl
  have hadd : ∀ i, i ≤ 24 → ∀ W, (Op.stringOp .add (str (l ++ alt (sideA m) (sideB m) i)) (str [turn (sideA m) (sideB m) i])).run Tryz.prog W = .ok (.string (str (l ++ alt (sideA m) (sideB m) (i + 1)))) W := fun i hi W => by
    have h := run_string_add_sum (P := Tryz.prog) (w := W) (str (l ++ alt (sideA m) (sideB m) i)) (str [turn (sideA m) (sideB m) i]) (by rw [str_size, str_size, List.length_append, alt_length]; simp; omega)
    rw [str_cat] at h
    rw [alt_snoc, ← List.append_assoc]
    exact h
  have HA := Lib.hid hadd
  clear hadd
  generalize sideA m = p at *
  generalize sideB m = q at *
  have b1 := (Below.refl w.heap.size w).alloc (Nat.le_refl _) (.cells #[.int .i64 a, .int .i64 b, .int .i64 c] 23)
  have b2 := b1.alloc b1.size (.cells #[] 9)
  have q1 := (SBlk.new w 23 [.int .i64 a, .int .i64 b, .int .i64 c]).alloc (.cells #[] 9)
  have q2 := SBlk.new' (w.alloc (.cells #[.int .i64 a, .int .i64 b, .int .i64 c] 23)) 9 [] (w.heap.size + 1) (by simp)
  have HB := Lib.hid (And.intro q1 (And.intro q2 b2))
  have hst : ListAt ((w.alloc (.cells #[.int .i64 a, .int .i64 b, .int .i64 c] 23)).alloc (.cells #[] 9)) (w.heap.size + 1) (.slice (some ⟨w.heap.size + 1, 0, none⟩) 0 0) ((List.range 0).map F) := .inr ⟨w.heap.size + 1, 0, [], Nat.le_refl _, rfl, rfl, Nat.zero_le _, q2⟩
  have HST := Lib.hid hst
  clear b1 b2 q1 q2 hst hm
  have HS := Lib.hid (And.intro hord hs)
  clear hord hs
  go_enter Tryz.func25, Tryz.ntmps25
  go_wp2_with fail
  go_loopg [7, 8, 9] (2 * o) (fun g s7 s8 s9 wr => ∃ i : Nat, i ≤ 2 * o ∧ g = 2 * o - i ∧ s9 = .int .i64 (i : Int) ∧ s8 = .string (str (l ++ alt p q i)) ∧ Hid (ListAt wr (w.heap.size + 1) s7 ((List.range i).map F) ∧ SBlk wr w.heap.size 23 [.int .i64 a, .int .i64 b, .int .i64 c] ∧ Below w.heap.size w wr))
  case atStart => exact ⟨0, Nat.zero_le _, rfl, rfl, by show _ = Value.string (str (l ++ [])); rw [List.append_nil], Lib.hid ⟨HST.out, HB.out.1, HB.out.2.2⟩⟩
  case round =>
    clear HB HST
    obtain ⟨i, hi, rfl, rfl, rfl, HI⟩ := hrel
    have x0 := HI.out.2.1.cell 0
    have x1 := HI.out.2.1.cell 1
    have x2 := HI.out.2.1.cell 2
    simp only [List.getElem?_cons_zero, List.getElem?_cons_succ] at x0 x1 x2
    have hw2 : IntKind.i64.wrap (2 * (o : Int)) = 2 * (o : Int) := IntWalk.i64_in _ (by have := HS.out.1; omega)
    by_cases hlt : i < 2 * o
    · have hi2 : (i : Int) < 2 * (o : Int) := by omega
      have hwi : IntKind.i64.wrap ((i : Int) + 1) = (i : Int) + 1 := IntWalk.i64_in _ (by have := HS.out.1; omega)
      have ad := HA.out i (by have := HS.out.1; omega)
      have HWd := Lib.hid (HO.out.2.1 i (by have := HS.out.1; omega))
      obtain ⟨S0, hS0⟩ : ∃ z, str (l ++ alt p q i) = z := ⟨_, rfl⟩
      obtain ⟨S1, hS1⟩ : ∃ z, str (l ++ alt p q (i + 1)) = z := ⟨_, rfl⟩
      rw [hS0, hS1] at ad
      rw [hS0] at HWd ⊢
      have HN := Lib.hid (And.intro hS0 hS1)
      clear hS0 hS1
      go_wp2_with fail
      refine (HO.out.1 _).mono ?_
      rintro e W1 ⟨rfl, hb⟩
      have hk := kept3 HI.out.2.1 hb
      replace x0 := hk.2.1
      replace x1 := hk.2.2.1
      replace x2 := hk.2.2.2
      have H1 := Lib.hid (And.intro (HI.out.1.below hb) (And.intro hk.1 (HI.out.2.2.trans (hb.mono HI.out.2.2.size))))
      have HZ1 := Lib.hid (Nat.le_trans HI.out.2.1.lt hb.size)
      clear hk hb HI
      go_wp2_with fail
      refine (HWd.out _).mono ?_
      rintro e W2 ⟨rfl, hb⟩
      have hk := kept3 H1.out.2.1 hb
      have H2 := Lib.hid (And.intro (H1.out.1.below hb) (And.intro hk.1 (And.intro (H1.out.2.2.trans (hb.mono H1.out.2.2.size)) (Nat.le_trans HZ1.out hb.size))))
      clear hk hb H1 x0 x1 x2 HZ1
      by_cases hev : i % 2 = 0
      · have hev2 : (((i : Int) % 2) == 0) = true := by simp; omega
        have htu : turn p q i = p := by unfold turn; rw [if_pos hev]
        rw [htu] at ad
        clear htu hev
        go_wp2_with (at_builtin; ((have hA := H2.out.1.below ((Below.refl W2.heap.size W2).alloc (Nat.le_refl _) (.cells #[.string (F i)] 9))); (obtain ⟨v', w', hr, h1, h2⟩ := app_str _ _ _ _ hA (by have h1 := H2.out.2.2.2; simp; omega) (by have := HS.out.1; simp; omega) W2.heap.size 1 (F i) ((SBlk.new W2 9 [.string (F i)]).cell 0)); (have HR := Lib.hid (And.intro h1 h2)); (clear hA h1 h2); (refine Lib.wpList_append_run _ rfl (.tmp 20) (.tmp 24) 28 28 rfl _ _ rfl rfl _ _ hr ?_); clear hr))
        have hrest : ListAt w' (w.heap.size + 1) v' ((List.range (i + 1)).map F) ∧ SBlk w' w.heap.size 23 [.int .i64 a, .int .i64 b, .int .i64 c] ∧ Below w.heap.size w w' := by
          obtain ⟨h1, h2⟩ := HR.out
          obtain ⟨-, g2, g3, g4⟩ := H2.out
          have h3 : Below (w.heap.size + 1) W2 w' := ((Below.refl (w.heap.size + 1) W2).alloc g4 _).trans h2
          refine ⟨?_, g2.below h3 (by omega), g3.trans (h3.mono (by omega))⟩
          rw [List.range_succ, List.map_append]
          exact h1
        have H3 := Lib.hid hrest
        clear hrest HR H2
        refine (HO.out.2.2.1 _).mono ?_
        rintro e w'' ⟨rfl, rfl⟩
        go_wp2_with fail
        refine (HLt.out.1 _).mono ?_
        rintro e W4 ⟨rfl, hb⟩
        have H4 := Lib.hid (And.intro (H3.out.1.below hb) (And.intro (H3.out.2.1.below hb H3.out.2.1.lt) (H3.out.2.2.trans (hb.mono H3.out.2.2.size))))
        clear hb H3
        go_wp2_with fail
        go_roundg (2 * o - (i + 1))
        case measure => omega
        case rel => exact ⟨i + 1, by omega, rfl, by simp, by rw [HN.out.2], H4⟩
      · have hev2 : (((i : Int) % 2) == 0) = false := by simp; omega
        have htu : turn p q i = q := by unfold turn; rw [if_neg hev]
        rw [htu] at ad
        clear htu hev
        go_wp2_with (at_builtin; ((have hA := H2.out.1.below ((Below.refl W2.heap.size W2).alloc (Nat.le_refl _) (.cells #[.string (F i)] 9))); (obtain ⟨v', w', hr, h1, h2⟩ := app_str _ _ _ _ hA (by have h1 := H2.out.2.2.2; simp; omega) (by have := HS.out.1; simp; omega) W2.heap.size 1 (F i) ((SBlk.new W2 9 [.string (F i)]).cell 0)); (have HR := Lib.hid (And.intro h1 h2)); (clear hA h1 h2); (refine Lib.wpList_append_run _ rfl (.tmp 20) (.tmp 24) 28 28 rfl _ _ rfl rfl _ _ hr ?_); clear hr))
        have hrest : ListAt w' (w.heap.size + 1) v' ((List.range (i + 1)).map F) ∧ SBlk w' w.heap.size 23 [.int .i64 a, .int .i64 b, .int .i64 c] ∧ Below w.heap.size w w' := by
          obtain ⟨h1, h2⟩ := HR.out
          obtain ⟨-, g2, g3, g4⟩ := H2.out
          have h3 : Below (w.heap.size + 1) W2 w' := ((Below.refl (w.heap.size + 1) W2).alloc g4 _).trans h2
          refine ⟨?_, g2.below h3 (by omega), g3.trans (h3.mono (by omega))⟩
          rw [List.range_succ, List.map_append]
          exact h1
        have H3 := Lib.hid hrest
        clear hrest HR H2
        refine (HO.out.2.2.2 _).mono ?_
        rintro e w'' ⟨rfl, rfl⟩
        go_wp2_with fail
        refine (HLt.out.2 _).mono ?_
        rintro e W4 ⟨rfl, hb⟩
        have H4 := Lib.hid (And.intro (H3.out.1.below hb) (And.intro (H3.out.2.1.below hb H3.out.2.1.lt) (H3.out.2.2.trans (hb.mono H3.out.2.2.size))))
        clear hb H3
        go_wp2_with fail
        go_roundg (2 * o - (i + 1))
        case measure => omega
        case rel => exact ⟨i + 1, by omega, rfl, by simp, by rw [HN.out.2], H4⟩
    · obtain rfl : 2 * o = i := by omega
      have hend : decide (2 * (o : Int) < 2 * (o : Int)) = false := by simp
      go_wp2_with fail
      refine (HO.out.1 _).mono ?_
      rintro e W1 ⟨rfl, hb⟩
      have H1 := Lib.hid (And.intro (HI.out.1.below hb) (HI.out.2.2.trans (hb.mono HI.out.2.2.size)))
      clear hb HI
      go_wp2_with fail
      go_ret
      exact ⟨_, rfl, H1.out.1.lower (by omega), H1.out.2⟩
end Go.Proofs.YtbioehaapcnjmaaGreat
