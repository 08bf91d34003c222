/- bring: a letter is made the first one of a shortest word. -/
import Derived.Test.YtogchohpnbeldaaYa
import Derived.Lib.BufferWrite
import Derived.Lib.SlBuf
namespace Go.Proofs.Ytogchohpnbeldaa
open Go.RowKit Cx

/-- what bring leaves -/
def RBring (M : Nat → Nat → Nat) (x : Nat) (l pre : List Nat) (rb : Nat) (w : World) (e : Ending) (w' : World) : Prop :=
  ∃ b y, e = .returned (.bool b) ∧ Brought M x l b y ∧ SBlk w' rb 5 (cellsB (pre ++ y)) ∧ w.grownBy w' (some rb)

set_option maxRecDepth 100000 in
set_option maxHeartbeats 1000000 in
theorem bring_nil (x : Nat) (A : Option Addr) (V : Value) (w : World) :
    Calls Try.prog 95 #[V, .int .u8 x, .slice A 0 0] w fun e w' => e = .returned (.bool false) ∧ w = w' := by
  go_enter Try.func95, Try.ntmps95
  go_wp2_with fail
  go_ret
  exact ⟨rfl, rfl⟩

set_option maxRecDepth 100000 in
set_option maxHeartbeats 1000000 in
theorem bring_head (M : Nat → Nat → Nat) (x rb cap : Nat) (pre l : List Nat) (V : Value) (w : World) (hr : SBlk w rb 5 (cellsB (pre ++ x :: l))) :
    Calls Try.prog 95 #[V, .int .u8 x, .slice (some ⟨rb, pre.length, none⟩) (l.length + 1) cap] w (RBring M x (x :: l) pre rb w) := by
  have c0 := hr.cell pre.length
  rw [cellsB_get (x := x) (by simp)] at c0
  have HR := Lib.hid hr
  clear hr
  go_enter Try.func95, Try.ntmps95
  go_wp2_with fail
  go_ret
  exact ⟨true, _, rfl, brought_head x l, HR.out, only_refl _ _⟩

set_option maxRecDepth 100000 in
set_option maxHeartbeats 1000000 in
theorem bring_zero {M : Nat → Nat → Nat} (hM : Ords M) (ob x f rb cap a b c : Nat) (hMe : M = Mo a b c) (pre l : List Nat) (w : World) (ho : SBlk w ob 144 (ordCells a b c))
    (hr : SBlk w rb 5 (cellsB (pre ++ f :: l))) (hx : x < 3) (hf : f < 3) (hne : f ≠ x) (h0 : M f x = 0) (hred : Red M (f :: l)) :
    Calls Try.prog 95 #[.pointer (some ⟨ob, 0, none⟩), .int .u8 x, .slice (some ⟨rb, pre.length, none⟩) (l.length + 1) cap] w (RBring M x (f :: l) pre rb w) := by
  have c0 := hr.cell pre.length
  rw [cellsB_get (x := f) (by simp)] at c0
  have c1 := ho.cell (3 + f * 3 + x)
  rw [ordCells_row a b c hf hx] at c1
  unfold rowS at c1
  rw [← hMe, h0, show str (alt f x 0) = ⟨#[]⟩ from rfl] at c1
  have hq : ((l.length : Int) + 1 == 0) = false := by simp; omega
  have hb : ((f : Int) == (x : Int)) = false := by simp; omega
  have HR := Lib.hid (And.intro hr (brought_zero hM hne h0 hred))
  have i1 : (0 : Int) ≤ (f : Int) := by omega
  have i2 : (f : Int) < 3 := by omega
  have i3 : (0 : Int) ≤ (x : Int) := by omega
  have i4 : (x : Int) < 3 := by omega
  clear hr ho hMe h0 hred hM hne
  go_enter Try.func95, Try.ntmps95
  go_wp2_with fail
  go_ret
  exact ⟨false, _, rfl, HR.out.2, HR.out.1, only_refl _ _⟩

theorem str_get {l : List Nat} {i x : Nat} (h : l[i]? = some x) (hx : x < 256) (hi : i < (str l).size) : ((str l)[i]).toNat = x := by
  have hl : i < l.length := by rw [str_size] at hi; exact hi
  have e : (str l)[i] = UInt8.ofNat l[i] := by simp [str, ByteArray.getElem_eq_getElem_data]
  rw [List.getElem?_eq_getElem hl] at h
  injection h with h
  rw [e, h]
  simp; omega

/-- the loop's state in bring -/
def BrLoop (M : Nat → Nat → Nat) (f x : Nat) (l pre : List Nat) (rb m : Nat) (w : World) (i : Value) (wr : World) : Prop :=
  ∃ t v, t ≤ m ∧ i = .int .i64 ((t : Nat) : Int) ∧ Rowed M f x (f :: l) t v ∧ (t = 0 → v = f :: l) ∧ SBlk wr rb 5 (cellsB (pre ++ (alt f x t ++ v))) ∧ w.grownBy wr (some rb)

set_option maxRecDepth 100000 in
set_option maxHeartbeats 2000000 in
theorem bring_row {M : Nat → Nat → Nat} (hM : Ords M) (ob x f rb a b c n : Nat) (hMe : M = Mo a b c) (pre l : List Nat) (w : World) (ho : SBlk w ob 144 (ordCells a b c))
    (hor : ob ≠ rb) (hr : SBlk w rb 5 (cellsB (pre ++ f :: l))) (hx : x < 3) (hf : f < 3) (hne : f ≠ x) (h0 : M f x ≠ 0) (h12 : M f x ≤ 12) (hred : Red M (f :: l)) (hlow : ∀ y ∈ f :: l, y < 3)
    (hlen : l.length ≤ n) (hml : pre.length + l.length + 1 ≤ 140737488355328)
    (ih : ∀ (x' : Nat) (pre' v : List Nat) (W : World), v.length ≤ n → 0 < v.length → x' < 3 → (∀ y ∈ v, y < 3) → pre'.length + v.length ≤ 140737488355328 → Red M v → SBlk W ob 144 (ordCells a b c) → SBlk W rb 5 (cellsB (pre' ++ v)) →
      Calls Try.prog 95 #[.pointer (some ⟨ob, 0, none⟩), .int .u8 x', .slice (some ⟨rb, pre'.length, none⟩) v.length v.length] W (RBring M x' v pre' rb W)) :
    Calls Try.prog 95 #[.pointer (some ⟨ob, 0, none⟩), .int .u8 x, .slice (some ⟨rb, pre.length, none⟩) (l.length + 1) (l.length + 1)] w (RBring M x (f :: l) pre rb w) := by
  have c0 := hr.cell pre.length
  rw [cellsB_get (x := f) (by simp)] at c0
  have c1 := ho.cell (3 + f * 3 + x)
  rw [ordCells_row a b c hf hx] at c1
  unfold rowS at c1
  rw [← hMe] at c1
  have hq : ((l.length : Int) + 1 == 0) = false := by simp; omega
  have hb : ((f : Int) == (x : Int)) = false := by simp; omega
  have i1 : (0 : Int) ≤ (f : Int) := by omega
  have i2 : (f : Int) < 3 := by omega
  have i3 : (0 : Int) ≤ (x : Int) := by omega
  have i4 : (x : Int) < 3 := by omega
  have HR := Lib.hid (And.intro (And.intro hr hred) (And.intro ho hMe))
  have hsz : (str (alt f x (M f x))).size = M f x := by rw [str_size, alt_length]
  have hget : ∀ k (h : k < (str (alt f x (M f x))).size), ((str (alt f x (M f x)))[k]).toNat = turn f x k := by
    intro k h
    have h2 : k < (alt f x (M f x)).length := by rw [alt_length]; rw [hsz] at h; exact h
    refine str_get ?_ ?_ h
    · rw [List.getElem?_eq_getElem h2, alt_get]
    · unfold turn; split <;> omega
  have HG := Lib.hid (And.intro hsz hget)
  clear hr ho hMe hred hsz hget
  generalize str (alt f x (M f x)) = R at *
  have hRe : R.toList.isEmpty = false := by
    rw [ByteArray.toList_eq]
    cases h : R.data.toList with
    | nil =>
      exfalso
      have : R.size = 0 := by show R.data.size = 0; rw [← Array.length_toList, h]; rfl
      have := HG.out.1
      omega
    | cons _ _ => rfl
  go_enter Try.func95, Try.ntmps95
  go_wp2_with fail
  go_loopw [31] (fun i wr => BrLoop M f x l pre rb (M f x) w i wr) (fun i _ => M f x - (intOf i).toNat)
  case atStart => exact ⟨0, f :: l, Nat.zero_le _, rfl, rowed_start _ _ _, fun _ => rfl, HR.out.1.1, only_refl _ _⟩
  case round =>
    obtain ⟨t, v, ht, rfl, hrow, hv0, hwr, hgr⟩ := hrel
    have H := Lib.hid (And.intro (And.intro hrow hv0) (And.intro hwr hgr))
    have hvl : t + v.length = l.length + 1 := by have := hrow.len; simpa using this
    clear hrow hv0 hwr hgr
    by_cases hlt : t < M f x
    · have hlt2 : t < R.size := by rw [HG.out.1]; exact hlt
      have j1 : (0 : Int) ≤ (t : Int) := by omega
      have j2 : (t : Int) < (R.size : Int) := by omega
      have j3 : (t : Int) ≤ (l.length : Int) + 1 := by omega
      obtain ⟨y, hy⟩ : ∃ y, turn f x t = y := ⟨_, rfl⟩
      have hy3 : y < 3 := by rw [← hy]; unfold turn; split <;> assumption
      have hg1 : (R[t]).toNat = y := by rw [HG.out.2 t hlt2, hy]
      have HY := Lib.hid hy
      have hoW : SBlk wr ob 144 (ordCells a b c) := HR.out.2.1.grown H.out.2.2 (by simpa using hor)
      rcases Nat.eq_zero_or_pos v.length with hv | hv
      · -- the word has ended
        have e1 : l.length + 1 = t := by omega
        have hwr : SBlk wr rb 5 (cellsB (pre ++ (alt f x t ++ []))) := by
          have := H.out.2.1
          rwa [List.length_eq_zero_iff.1 hv] at this
        have hfin : Brought M x (f :: l) false (alt f x t ++ []) := by
          have hv2 := List.length_eq_zero_iff.1 hv
          have h1 := H.out.1.1
          rw [hv2] at h1
          exact h1.fails hM hne HR.out.1.2 hlt (brought_nil _) (by omega) hx
        have HW := Lib.hid (And.intro hwr hfin)
        clear hwr hy hoW hfin
        go_wp2_with fail
        go_region_with (go_at_call 95; refine (bring_nil y _ _ _).mono ?_; rintro e w' ⟨rfl, rfl⟩)
        all_goals
          go_wp2_with fail
          go_ret
          exact ⟨false, _, rfl, HW.out.2, HW.out.1, only_drew H.out.2.2⟩
      · have e1 : l.length + 1 - t = v.length := by omega
        have hnx : t < l.length + 1 := by omega
        have hj : (t : Int) < (l.length : Int) + 1 := by omega
        have hnt : (l.length + 1 = t) = False := by simp; omega
        have hc : ∀ W, SBlk W ob 144 (ordCells a b c) → SBlk W rb 5 (cellsB (pre ++ (alt f x t ++ v))) →
            Calls Try.prog 95 #[.pointer (some ⟨ob, 0, none⟩), .int .u8 y, .slice (some ⟨rb, pre.length + t, none⟩) (l.length + 1 - t) (l.length + 1 - t)] W (RBring M y v (pre ++ alt f x t) rb W) := by
          intro W h1 h2
          rw [← List.append_assoc] at h2
          have e2 : (pre ++ alt f x t).length = pre.length + t := by simp [alt_length]
          have hvr : Red M v := H.out.1.1.red HR.out.1.2
          rw [← e2, e1]
          rcases Nat.eq_zero_or_pos t with h | h
          · subst h
            have hvv := H.out.1.2 rfl
            subst hvv
            have hyf : y = f := by rw [← hy]; rfl
            subst hyf
            exact bring_head M y rb _ _ l _ W h2
          · exact ih y _ v W (by omega) hv hy3 (H.out.1.1.low hlow) (by rw [e2]; omega) hvr h1 h2
        have HC := Lib.hid hc
        have hwo : SBlk wr ob 144 (ordCells a b c) ∧ SBlk wr rb 5 (cellsB (pre ++ (alt f x t ++ v))) := ⟨hoW, H.out.2.1⟩
        have HW := Lib.hid hwo
        clear hc hwo hy hoW e1
        go_wp2_with fail
        go_region_with (go_at_call 95; (with_reducible refine (HC.out _ HW.out.1.drew HW.out.2.drew).mono ?_); rintro e w' ⟨b, z, rfl, hbr, hsb, hgr⟩; have HB := Lib.hid (And.intro hbr (And.intro hsb hgr)); clear hbr hsb hgr)
        all_goals
          rcases b
          · go_wp2_with fail
            go_ret
            obtain ⟨hbr, hsb, hgr⟩ := HB.out
            have ht0 : 0 < t := by
              rcases Nat.eq_zero_or_pos t with h | h
              · exfalso
                subst h
                have hvv := H.out.1.2 rfl
                subst hvv
                have hyf : y = f := by rw [← HY.out]; rfl
                subst hyf
                exact (hbr.no rfl).1 (ds_of_head HR.out.1.2)
              · exact h
            rw [List.append_assoc] at hsb
            rw [← HY.out] at hbr
            exact ⟨false, _, rfl, H.out.1.1.fails hM hne HR.out.1.2 hlt hbr ht0 hx, hsb, only_trans (only_drew H.out.2.2) hgr⟩
          · go_wp2_with fail
            go_roundw
            case measure => simp [intOf]; omega
            case rel =>
              obtain ⟨hbr, hsb, hgr⟩ := HB.out
              rw [← HY.out] at hbr
              obtain ⟨z', rfl, hnext⟩ := H.out.1.1.next hbr
              refine ⟨t + 1, z', by omega, by simp, hnext, fun h => by omega, ?_, only_trans (only_drew H.out.2.2) hgr⟩
              rw [List.append_assoc] at hsb
              rw [alt_snoc, List.append_assoc]
              exact hsb
    · obtain rfl : t = M f x := by omega
      have hoW : SBlk wr ob 144 (ordCells a b c) := HR.out.2.1.grown H.out.2.2 (by simpa using hor)
      have c2 := hoW.cell (3 + x * 3 + f)
      rw [ordCells_row a b c hx hf] at c2
      unfold rowS at c2
      rw [← HR.out.2.2, hM.symm x f] at c2
      have hlt3 : ¬ M f x < R.size := by rw [HG.out.1]; omega
      have hcp : ∀ ty, (Builtin.copy_ #[58, 9] ty #[.slice (some ⟨rb, pre.length, none⟩) (l.length + 1) (l.length + 1), .string (str (alt x f (M f x)))]).run Try.prog wr =
          .ok (goInt (str (alt x f (M f x))).size) (wr.setRow rb ((cellsB (pre ++ (alt f x (M f x) ++ v))).toArray.toList.take pre.length ++ Lib.byteCells (str (alt x f (M f x))).data.toList ++ (cellsB (pre ++ (alt f x (M f x) ++ v))).toArray.toList.drop (pre.length + (str (alt x f (M f x))).size)).toArray) :=
        fun ty => Lib.run_copy_row_string wr 58 9 ty 5 rb pre.length _ _ _ _ _ Try.underlying58 (by kernel_rfl) H.out.2.1 (by rw [str_size, alt_length]; omega) (by simp [cellsB_length, str_size, alt_length])
      have HCP := Lib.hid hcp
      clear hcp hoW
      generalize hRR : str (alt x f (M f x)) = R2 at *
      have HRR := Lib.hid hRR
      clear hRR
      go_wp2_with (refine Lib.wpList_copy_run _ rfl _ _ 58 9 rfl _ _ rfl rfl (HCP.out _) ?_)
      go_ret
      have hM0 : M f x = M x f := hM.symm f x
      have hs2 : R2.size = M f x := by rw [← HRR.out, str_size, alt_length]
      have hbytes : Lib.byteCells R2.data.toList = cellsB (alt x f (M f x)) := by
        rw [← HRR.out]
        unfold Lib.byteCells str cellsB
        simp only [List.map_map]
        refine List.map_congr_left fun y hy => ?_
        have hy3 := alt_low hx hf _ y hy
        simp; omega
      refine ⟨true, _, rfl, H.out.1.1.done h0 hx hf, ?_, only_trans H.out.2.2 ?_⟩
      · have e1 : List.take pre.length (cellsB (pre ++ (alt f x (M f x) ++ v))) ++ (Lib.byteCells R2.data.toList ++ List.drop (pre.length + R2.size) (cellsB (pre ++ (alt f x (M f x) ++ v)))) = cellsB (pre ++ (alt x f (M f x) ++ v)) := by
          rw [hbytes, hs2]
          simp only [cellsB_append]
          have e2 : cellsB pre ++ (cellsB (alt f x (M f x)) ++ cellsB v) = (cellsB pre ++ cellsB (alt f x (M f x))) ++ cellsB v := by rw [List.append_assoc]
          rw [List.take_left' (cellsB_length _), e2, List.drop_left' (by simp [cellsB_length, alt_length])]
        rw [e1]
        exact setRow_heap wr rb _ _ _ _ H.out.2.1
      · exact ⟨rfl, rfl, rfl, by simp [World.setRow], fun k hk hn => setRow_other wr rb k _ (by rintro rfl; exact hn rfl)⟩
end Go.Proofs.Ytogchohpnbeldaa
