/- given: orders and words that are handed over. -/
import Derived.Test.YtogchohpnbeldaaYj
namespace Go.Proofs.Ytogchohpnbeldaa
open Go.RowKit Go.Shelf Cx

/-- the first error of words -/
def errs : List ByteArray → Int
  | [] => 0
  | s :: ws => if checkS s = 0 then errs ws else checkS s

theorem check_ok (s : ByteArray) (w : World) (hs : s.size ≤ 140737488355328) (h : checkS s = 0) :
    Calls Try.prog 65 #[.string s] w fun e w' => e = .returned (.tuple #[]) ∧ Below w.heap.size w w' :=
  (check_any s w hs).mono fun e w' ⟨h1, h2⟩ => by rw [if_pos h] at h2; exact ⟨h2, h1⟩
theorem check_bad (s : ByteArray) (w : World) (hs : s.size ≤ 140737488355328) (h : checkS s ≠ 0) :
    Calls Try.prog 65 #[.string s] w fun e w' => e = .panicked (thrown (checkS s)) ∧ Below w.heap.size w w' :=
  (check_any s w hs).mono fun e w' ⟨h1, h2⟩ => by rw [if_neg h] at h2; exact ⟨h2, h1⟩

/-- what given does where the orders are allowed -/
def RGiven (a b c : Nat) (ws : List ByteArray) (w : World) (e : Ending) (w' : World) : Prop :=
  Below w.heap.size w w' ∧ ((errs ws = 0 ∧ ∃ ob, e = .returned (.pointer (some ⟨ob, 0, none⟩)) ∧ SBlk w' ob 144 (ordCells a b c) ∧ w.heap.size ≤ ob) ∨ (errs ws ≠ 0 ∧ e = .panicked (thrown (errs ws))))

set_option maxRecDepth 100000 in
set_option maxHeartbeats 2000000 in
theorem given_any (a b c : Nat) (ha : Lim a) (hb : Lim b) (hc : Lim c) (hf : faultS a b c = 0) (vb : Nat) (ws : List ByteArray) (w : World) (hv : SBlk w vb 9 (cellsS ws)) (hk : ws.length ≤ 140737488355328) (hn : ∀ s ∈ ws, s.size ≤ 140737488355328) :
    Calls Try.prog 37 #[.agg #[.int .i64 a, .int .i64 b, .int .i64 c], .slice (some ⟨vb, 0, none⟩) ws.length ws.length] w (RGiven a b c ws w) := by
  have hvlt := hv.lt
  have vcell : ∀ (W : World), SBlk W vb 9 (cellsS ws) → ∀ i (h : i < ws.length), W.cell? ⟨vb, i, none⟩ = some (.string ws[i]) := fun W hW i h => by
    rw [hW.cell]; simp [cellsS, List.getElem?_eq_getElem h]
  have HV := Lib.hid (And.intro hv vcell)
  have HO := Lib.hid (fun W => newOrders_any a b c ha hb hc hf W)
  have HN := Lib.hid hn
  clear hv vcell hn ha hb hc hf
  go_enter Try.func37, Try.ntmps37
  go_wp2_with (go_at_call 64; refine (HO.out _).mono ?_; rintro e w1 ⟨ob, rfl, hob, hle, hb1⟩; have HW := Lib.hid (And.intro hob (And.intro hle hb1)); clear hob hle hb1)
  go_loopw [12] (fun i wr => ∃ k : Nat, k ≤ ws.length ∧ i = .int .i64 (k : Int) ∧ errs ws = errs (ws.drop k) ∧ Below w.heap.size w wr ∧ SBlk wr ob 144 (ordCells a b c)) (fun i _ => ws.length - (intOf i).toNat)
  case atStart =>
    obtain ⟨hob, hle, hb1⟩ := HW.out
    exact ⟨0, Nat.zero_le _, rfl, rfl, ((Below.refl _ w).alloc (Nat.le_refl _) _).trans (hb1.mono (by simp)), hob⟩
  case round =>
    obtain ⟨k, hk2, rfl, he, hbel, hob⟩ := hrel
    have hle : w.heap.size ≤ ob := by have := HW.out.2.1; simp at this; omega
    by_cases hlt : k < ws.length
    · have hcell := HV.out.2 wr (HV.out.1.below hbel hvlt) k hlt
      have hd : errs (ws.drop k) = if checkS ws[k] = 0 then errs (ws.drop (k + 1)) else checkS ws[k] := by
        rw [List.drop_eq_getElem_cons hlt]; rfl
      have hsz := HN.out ws[k] (List.getElem_mem hlt)
      generalize ws[k] = s at *
      by_cases h0 : checkS s = 0
      · rw [if_pos h0] at hd
        have HC := Lib.hid (check_ok s wr hsz h0)
        have HX := Lib.hid (And.intro (he.trans hd) (And.intro hbel hob))
        clear he hd h0 hbel hob
        go_wp2_with (go_at_call 65; refine HC.out.mono ?_; rintro e w' ⟨rfl, hb2⟩; have HB := Lib.hid hb2; clear hb2)
        go_roundw
        case measure => simp [intOf]; omega
        case rel =>
          obtain ⟨he, hbel, hob⟩ := HX.out
          exact ⟨k + 1, by omega, by simp, he, hbel.trans (HB.out.mono hbel.size), hob.below HB.out hob.lt⟩
      · rw [if_neg h0] at hd
        have HC := Lib.hid (check_bad s wr hsz h0)
        have HX := Lib.hid (And.intro (he.trans hd) (And.intro hbel h0))
        clear he hd h0 hbel hob
        go_wp2_with (go_at_call 65; refine HC.out.mono ?_; rintro e w' ⟨rfl, hb2⟩; have HB := Lib.hid hb2; clear hb2)
        obtain ⟨he, hbel, h0⟩ := HX.out
        exact ⟨rfl, hbel.trans (HB.out.mono hbel.size), .inr ⟨by rw [he]; exact h0, by rw [he]⟩⟩
    · obtain rfl : k = ws.length := by omega
      rw [List.drop_length] at he
      have HX := Lib.hid (And.intro he (And.intro hbel hob))
      clear he hbel hob
      go_wp2_with fail
      go_ret
      obtain ⟨he, hbel, hob⟩ := HX.out
      exact ⟨hbel, .inl ⟨he, ob, rfl, hob, hle⟩⟩
end Go.Proofs.Ytogchohpnbeldaa
