/- The reference: errors of words. -/
import Derived.Test.YtogchohpnbeldaaYu
namespace Go.Proofs.Ytogchohpnbeldaa
open Go.RowKit Go.Shelf Cx

theorem all_take {s : ByteArray} {k : Nat} (h : k < s.size) (ha : ∀ y ∈ (bytesN s).take k, y < 3) (hx : (s[k]).toNat < 3) : ∀ y ∈ (bytesN s).take (k + 1), y < 3 := by
  intro y hy
  rw [fwd_take s h] at hy
  rcases List.mem_append.1 hy with h1 | h1
  · exact ha y h1
  · simp at h1; omega

set_option maxHeartbeats 1000000 in
theorem CheckWord_any (s : ByteArray) (w : World) (hs : s.size ≤ 9223372036854775807) :
    Calls Try.prog 33 #[.string s] w fun e w' => e = .returned (.int .i64 (checkS s)) ∧ w = w' := by
  go_enter Try.func33, Try.ntmps33
  go_wp2_with fail
  go_loop [3] (fun i => ∃ k : Nat, k ≤ s.size ∧ i = .int .i64 (k : Int) ∧ ∀ y ∈ (bytesN s).take k, y < 3) (fun i => s.size - (intOf i).toNat)
  case atStart => exact ⟨0, Nat.zero_le _, rfl, fun y hy => by simp at hy⟩
  case round =>
    obtain ⟨k, hk, rfl, ha⟩ := hrel
    have HA := Lib.hid ha
    clear ha
    by_cases hlt : k < s.size
    · have hn := all_take hlt HA.out
      have hmem : (s[k]).toNat ∈ bytesN s := by
        have := bytesN_get s hlt
        exact List.mem_of_getElem? this
      have HN := Lib.hid (And.intro hn hmem)
      clear hn hmem
      by_cases hx : 2 < (s[k]).toNat
      · have hx2 : (2 : Int) < ((s[k]).toNat : Int) := by omega
        have HX := Lib.hid hx
        clear hx
        go_wp2_with fail
        go_ret
        refine ⟨?_, rfl⟩
        have : checkS s = 1 := by
          unfold checkS
          rw [if_neg]
          intro h
          have := List.all_eq_true.1 h _ HN.out.2
          have := HX.out
          simp at *; omega
        rw [this]; rfl
      · have hx2 : ¬ (2 : Int) < ((s[k]).toNat : Int) := by omega
        have HX := Lib.hid hx
        clear hx
        go_wp2_with fail
        go_round
        case measure => simp [intOf]; omega
        case rel => exact ⟨k + 1, by omega, by simp, HN.out.1 (by have := HX.out; omega)⟩
    · obtain rfl : k = s.size := by omega
      have hall : (bytesN s).all (· < 3) = true := by
        rw [List.all_eq_true]; intro y hy
        have := HA.out y (by rw [List.take_of_length_le (by rw [bytesN_length]; exact Nat.le_refl _)]; exact hy)
        simpa using this
      have H1 := Lib.hid hall
      clear hall
      by_cases hl : 60 < s.size
      · have hck : checkS s = 4 := by unfold checkS; rw [if_pos H1.out, if_pos hl]
        have HC := Lib.hid hck
        clear hck
        go_wp2_with fail
        go_ret
        exact ⟨by rw [HC.out]; rfl, rfl⟩
      · have hck : checkS s = 0 := by unfold checkS; rw [if_pos H1.out, if_neg hl]
        have HC := Lib.hid hck
        clear hck
        go_wp2_with fail
        go_ret
        exact ⟨by rw [HC.out]; rfl, rfl⟩

/-- the error of orders and words -/
def errorsS (a b c : Int) (ws : List ByteArray) : Int := if allowedS a b c = 0 then errs ws else allowedS a b c

/-- words before the k-th are allowed -/
theorem errs_step {ws : List ByteArray} {k : Nat} (h : k < ws.length) (h0 : checkS ws[k] = 0) : errs (ws.drop k) = errs (ws.drop (k + 1)) := by
  rw [List.drop_eq_getElem_cons h]
  show (if checkS ws[k] = 0 then _ else _) = _
  rw [if_pos h0]
theorem errs_stop {ws : List ByteArray} {k : Nat} (h : k < ws.length) (h0 : checkS ws[k] ≠ 0) : errs (ws.drop k) = checkS ws[k] := by
  rw [List.drop_eq_getElem_cons h]
  show (if checkS ws[k] = 0 then _ else _) = _
  rw [if_neg h0]

set_option maxRecDepth 100000 in
set_option maxHeartbeats 2000000 in
theorem Errors_any (a b c : Int) (vb : Nat) (ws : List ByteArray) (w : World) (hv : SBlk w vb 9 (cellsS ws)) (hk : ws.length ≤ 140737488355328) (hn : ∀ s ∈ ws, s.size ≤ 9223372036854775807) :
    Calls Try.prog 21 #[.agg #[.int .i64 a, .int .i64 b, .int .i64 c], .slice (some ⟨vb, 0, none⟩) ws.length ws.length] w fun e w' => e = .returned (.int .i64 (errorsS a b c ws)) ∧ Below w.heap.size w w' := by
  have hvlt := hv.lt
  have vcell : ∀ (W : World), SBlk W vb 9 (cellsS ws) → ∀ i (h : i < ws.length), W.cell? ⟨vb, i, none⟩ = some (.string ws[i]) := fun W hW i h => by
    rw [hW.cell]; simp [cellsS, List.getElem?_eq_getElem h]
  have HV := Lib.hid (And.intro hv vcell)
  have HAl := Lib.hid (fun W => Allowed_any a b c W)
  have HN := Lib.hid hn
  clear hv vcell hn
  go_enter Try.func21, Try.ntmps21
  go_wp2_with (go_at_call 48; refine (HAl.out _).mono ?_; rintro e w1 ⟨rfl, hb1⟩; have HB := Lib.hid (below_a1 hb1); clear hb1)
  go_loop [5, 6] (fun v i => ∃ (k : Nat) (n : Int), k ≤ ws.length ∧ i = .int .i64 (k : Int) ∧ v = .int .i64 n ∧ errorsS a b c ws = (if n = 0 then errs (ws.drop k) else n)) (fun v i => 2 * (ws.length - (intOf i).toNat) + (if intOf v = 0 then 1 else 0))
  case atStart => exact ⟨0, allowedS a b c, Nat.zero_le _, rfl, rfl, rfl⟩
  case round =>
    obtain ⟨k, n, hk2, rfl, rfl, he⟩ := hrel
    have HE := Lib.hid he
    clear he
    by_cases hlt : k < ws.length
    · by_cases h0 : n = 0
      · subst h0
        have hcell := HV.out.2 w1 (HV.out.1.below HB.out hvlt) k hlt
        have hsz := HN.out ws[k] (List.getElem_mem hlt)
        have hd : errs (ws.drop k) = if checkS ws[k] = 0 then errs (ws.drop (k + 1)) else checkS ws[k] := by
          rw [List.drop_eq_getElem_cons hlt]; rfl
        generalize ws[k] = s at *
        have HC := Lib.hid (And.intro (fun W => CheckWord_any s W hsz) hd)
        clear hd
        go_wp2_with (go_at_call 33; refine (HC.out.1 _).mono ?_; rintro e w' ⟨rfl, rfl⟩)
        go_round
        case measure =>
          by_cases h : checkS s = 0 <;> simp [intOf, h] <;> omega
        case rel =>
          refine ⟨k + 1, checkS s, by omega, by simp, rfl, ?_⟩
          rw [HE.out, HC.out.2]; simp
      · go_wp2_with fail
        go_ret
        exact ⟨by rw [HE.out, if_neg h0]; rfl, HB.out⟩
    · obtain rfl : k = ws.length := by omega
      have hfin : errorsS a b c ws = n := by
        rw [HE.out, List.drop_length]
        by_cases h : n = 0
        · rw [if_pos h, h]; rfl
        · rw [if_neg h]
      have HF := Lib.hid hfin
      clear hfin
      go_wp2_with fail
      go_ret
      exact ⟨by rw [HF.out]; rfl, HB.out⟩

theorem errorsS_zero {a b c : Int} {ws : List ByteArray} (h : errorsS a b c ws = 0) : allowedS a b c = 0 ∧ ∀ s ∈ ws, checkS s = 0 := by
  unfold errorsS at h
  by_cases h0 : allowedS a b c = 0
  · rw [if_pos h0] at h; exact ⟨h0, errs_low h⟩
  · rw [if_neg h0] at h; exact absurd h h0
end Go.Proofs.Ytogchohpnbeldaa
