/- The normal word of a word that is made. -/
import Derived.Test.YtogchohpnbeldaaYe
namespace Go.Proofs.Ytogchohpnbeldaa
open Go.RowKit Go.Shelf Cx

section
variable {M : Nat → Nat → Nat}
/-- the letters that are done are the least that can stand there -/
def DoneTo (M : Nat → Nat → Nat) (d r : List Nat) : Prop := ∀ u c v, d = u ++ c :: v → ∀ j, j < c → ¬ Ds (mk (c :: v ++ r) : G M) j

theorem DoneTo.nil (r : List Nat) : DoneTo M [] r := by
  intro u c v h
  cases u <;> cases h

theorem same_suffix {d r r' : List Nat} (h : (mk r : G M) = mk r') : (mk (d ++ r) : G M) = mk (d ++ r') := by rw [← mk_mul, h, mk_mul]

theorem DoneTo.more {d r y : List Nat} {c : Nat} (h : DoneTo M d r) (hs : (mk (c :: y) : G M) = mk r) (hl : ∀ j, j < c → ¬ Ds (mk (c :: y) : G M) j) : DoneTo M (d ++ [c]) y := by
  intro u c' v he j hj
  rcases List.append_eq_append_iff.1 he with ⟨a, rfl, h2⟩ | ⟨a, h1, h2⟩
  · -- u = d ++ a
    cases a with
    | nil => simp at h2; obtain ⟨rfl, rfl⟩ := h2; exact hl j hj
    | cons x a => simp at h2
  · cases a with
    | nil => simp at h2; obtain ⟨rfl, rfl⟩ := h2; exact hl j hj
    | cons x a =>
      simp only [List.cons_append, List.cons.injEq] at h2
      obtain ⟨rfl, rfl⟩ := h2
      have := h u c' a h1 j hj
      intro hd
      apply this
      have e : (mk (c' :: a ++ r) : G M) = mk (c' :: (a ++ [c]) ++ y) := by
        have := same_suffix (d := c' :: a) hs
        rw [← this]
        simp
      rw [e]; exact hd

theorem DoneTo.greedy {d : List Nat} (h : DoneTo M d []) (hr : Red M d) : Greedy M d := by
  induction d with
  | nil => exact .nil
  | cons c v ih =>
    refine .cons hr (fun j hj => ?_) (ih ?_ (red_tail hr))
    · have := h [] c v rfl j hj
      simpa using this
    · intro u c' v' he
      exact h (c :: u) c' v' (by rw [he]; rfl)
end

theorem run_str (w : World) (b o cap : Nat) (n : List Nat) (hlow : ∀ y ∈ n, y < 256) (hc : ∀ j (h : j < n.length), w.cell? ⟨b, o + j, none⟩ = some (.int .u8 ((n[j] : Nat) : Int))) :
    (convert 58 9 (.slice (some ⟨b, o, none⟩) n.length cap)).run Try.prog w = .ok (.string (str n)) w := by
  have h := run_convert_bytes_back (P := Try.prog) w 58 9 5 ⟨b, o, none⟩ cap (n.map UInt8.ofNat) Try.underlying58 Try.underlying5 Try.underlying9 (fun j hj => by
    have hj2 : j < n.length := by simpa using hj
    have e : Addr.add ⟨b, o, none⟩ j = ⟨b, o + j, none⟩ := by
      unfold Addr.add
      by_cases h0 : j = 0
      · subst h0; simp
      · simp [h0]
    rw [e, hc j hj2]
    have : n[j] < 256 := hlow _ (List.getElem_mem hj2)
    simp; omega)
  rw [List.length_map] at h
  exact h

/-- what normal leaves -/
def RNorm (M : Nat → Nat → Nat) (rb : Nat) (l : List Nat) (w : World) (e : Ending) (w' : World) : Prop :=
  e = .returned (.string (str (nf (mk l : G M)))) ∧ (∀ y ∈ nf (mk l : G M), y < 3) ∧ (nf (mk l : G M)).length = l.length ∧ w.grownBy w' (some rb)

set_option maxRecDepth 100000 in
set_option maxHeartbeats 1000000 in
theorem normal_any {M : Nat → Nat → Nat} {a b c : Nat} (hMe : M = Mo a b c) (ha : Lim a) (hb : Lim b) (hc : Lim c) (mb ob rb : Nat) (hor : ob ≠ rb) (hmr : mb ≠ rb) (pre l : List Nat) (w : World)
    (hm : MadeAt w mb ob rb pre l) (hlow : ∀ y ∈ l, y < 3) (hml : pre.length + l.length ≤ 140737488355328) (hred : Red M l) (ho : SBlk w ob 144 (ordCells a b c)) :
    Calls Try.prog 39 #[.pointer (some ⟨mb, 0, none⟩)] w (RNorm M rb l w) := by
  have hle := letters_any mb ob rb pre l w hm hml
  have HL := Lib.hid hle
  have H := Lib.hid (And.intro hm (And.intro hlow (And.intro hred ho)))
  clear hle hm hlow hred ho
  have had : (l.length = 0 → ladr rb pre l = some ⟨rb, 0, none⟩) ∧ (0 < l.length → ladr rb pre l = some ⟨rb, pre.length, none⟩) := by
    unfold ladr
    exact ⟨fun h => by rw [if_pos h], fun h => by rw [if_neg (by omega)]⟩
  obtain ⟨A, hA⟩ : ∃ A, ladr rb pre l = A := ⟨_, rfl⟩
  rw [hA] at had HL
  have HA := Lib.hid had
  clear had hA
  go_enter Try.func39, Try.ntmps39
  go_wp2_with (go_at_call 69; refine HL.out.mono ?_; rintro e w' ⟨rfl, q, rfl⟩)
  go_loopw [9] (fun i wr => ∃ (k : Nat) (d r : List Nat), i = .int .i64 (k : Int) ∧ d.length = k ∧ k + r.length = l.length ∧ (mk (d ++ r) : G M) = mk l ∧ (∀ y ∈ d ++ r, y < 3) ∧ DoneTo M d r ∧ SBlk wr rb 5 (cellsB (pre ++ (d ++ r))) ∧ w.grownBy wr (some rb)) (fun i _ => l.length - (intOf i).toNat)
  case atStart => exact ⟨0, [], l, rfl, rfl, by simp, rfl, H.out.2.1, DoneTo.nil _, H.out.1.r, only_drewN (only_refl _ _) q⟩
  case round =>
    obtain ⟨k, d, r, rfl, hdl, hrl, hs, hlw, hdo, hsb, hgr⟩ := hrel
    by_cases hkl : k < l.length
    · obtain rfl := HA.out.2 (by omega)
      cases r with
      | nil => simp at hrl; omega
      | cons f r =>
        have hmm := H.out.1.m.grown hgr (by intro e; injection e with e; exact hmr e)
        have hoo := H.out.2.2.2.grown hgr (by intro e; injection e with e; exact hor e)
        have hrd : Red M (d ++ f :: r) := red_same H.out.2.2.1 hs (by simp at hrl ⊢; omega)
        have e1 : (pre ++ d).length = pre.length + k := by simp [hdl]
        have e2 : r.length + 1 = l.length - k := by simp at hrl; omega
        have hc := least_any hMe ha hb hc mb ob rb f _ _ hor hmr (pre ++ d) r wr hmm (fun y hy => hlw y (List.mem_append_right _ hy)) (by rw [e1]; omega) (red_drop hrd) hoo (by rw [List.append_assoc]; exact hsb)
        rw [e1, e2] at hc
        have HC := Lib.hid hc
        have HX := Lib.hid (And.intro hdl (And.intro hrl (And.intro hs (And.intro hlw (And.intro hdo (And.intro hsb hgr))))))
        have j1 : (0 : Int) ≤ (k : Int) := by omega
        have j2 : (k : Int) ≤ (l.length : Int) := by omega
        have j3 : (l.length = k) = False := by simp; omega
        clear hc hdl hrl hs hlw hdo hsb hgr hmm hoo e1 e2
        go_wp2_with (go_at_call 70; refine HC.out.mono ?_; rintro e w' ⟨rfl, hq⟩; have HQ := Lib.hid hq; clear hq)
        go_roundw
        case measure => simp [intOf]; omega
        case rel =>
          obtain ⟨hdl, hrl, hs, hlw, hdo, hsb, hgr⟩ := HX.out
          obtain ⟨c, y, hcy, hyl, hcl, hcd, hsb2, hgr2⟩ := HQ.out
          refine ⟨k + 1, d ++ [c], y, by simp, by simp [hdl], by simp at hrl; omega, ?_, ?_, hdo.more hcy hcd, ?_, only_trans hgr hgr2⟩
          · rw [← hs]
            have := same_suffix (d := d) hcy
            rw [← this]; simp
          · intro q hq
            rw [List.append_assoc] at hq
            rcases List.mem_append.1 hq with h | h
            · exact hlw q (List.mem_append_left _ h)
            · exact hcl q h
          · simpa using hsb2
    · obtain rfl : k = l.length := by omega
      have hr0 : r = [] := List.length_eq_zero_iff.1 (by omega)
      subst hr0
      rw [List.append_nil] at hs hlw hsb
      have hg := hdo.greedy (red_same H.out.2.2.1 hs hdl)
      have hnf : nf (mk l : G M) = d := by rw [← hs]; exact nf_eq hg
      have hcv : (convert 58 9 (.slice A l.length l.length)).run Try.prog wr = .ok (.string (str d)) wr := by
        have hlow' : ∀ y ∈ d, y < 256 := fun y hy => by have := hlw y hy; omega
        rw [← hdl]
        rcases Nat.eq_zero_or_pos l.length with h0 | h0
        · rw [HA.out.1 h0]
          exact run_str wr rb 0 _ d hlow' (fun j hj => by omega)
        · rw [HA.out.2 h0]
          refine run_str wr rb pre.length _ d hlow' (fun j hj => ?_)
          rw [hsb.cell, cellsB_get (x := d[j])]
          rw [List.getElem?_append_right (by omega)]
          simp [List.getElem?_eq_getElem hj]
      have HX := Lib.hid (And.intro hnf (And.intro hlw (And.intro hdl hgr)))
      clear hnf hlw hdl hgr hs hdo hsb hg hrl
      go_wp2_with fail
      go_ret
      obtain ⟨hnf, hlw, hdl, hgr⟩ := HX.out
      exact ⟨by rw [hnf]; rfl, by rw [hnf]; exact hlw, by rw [hnf]; exact hdl, hgr⟩
end Go.Proofs.Ytogchohpnbeldaa
