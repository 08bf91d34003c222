/- Words, one behind another; a word from its end to its beginning. -/
import Derived.Test.YtogchohpnbeldaaYf
namespace Go.Proofs.Ytogchohpnbeldaa
open Go.RowKit Go.Shelf Cx

/-- words one behind another -/
def cat (ws : List ByteArray) : List Nat := (ws.map bytesN).flatten

theorem cat_cons (s : ByteArray) (ws : List ByteArray) : cat (s :: ws) = bytesN s ++ cat ws := by simp [cat]
theorem cat_drop {ws : List ByteArray} {i : Nat} (h : i < ws.length) : cat (ws.drop i) = bytesN ws[i] ++ cat (ws.drop (i + 1)) := by
  rw [List.drop_eq_getElem_cons h, cat_cons]
theorem cat_take_length {ws : List ByteArray} {i : Nat} (h : i < ws.length) : (cat (ws.take (i + 1))).length = (cat (ws.take i)).length + (ws[i]).size := by
  have e : cat (ws.take (i + 1)) = cat (ws.take i) ++ bytesN ws[i] := by
    unfold cat
    rw [List.take_succ_eq_append_getElem h, List.map_append, List.flatten_append]
    simp
  rw [e, List.length_append, bytesN_length]
theorem cat_le {ws : List ByteArray} {i : Nat} (h : i < ws.length) : (cat (ws.take i)).length + (ws[i]).size ≤ (cat ws).length := by
  rw [← cat_take_length h]
  have : cat ws = cat (ws.take (i + 1)) ++ cat (ws.drop (i + 1)) := by
    unfold cat
    rw [← List.flatten_append, ← List.map_append, List.take_append_drop]
  rw [this]; simp
theorem cat_mem {ws : List ByteArray} {s : ByteArray} (h : s ∈ ws) {x : Nat} (hx : x ∈ bytesN s) : x ∈ cat ws := by
  unfold cat
  exact List.mem_flatten.2 ⟨bytesN s, List.mem_map.2 ⟨s, h, rfl⟩, hx⟩
theorem cat_drop_le (ws : List ByteArray) (i : Nat) : (cat (ws.drop i)).length ≤ (cat ws).length := by
  have : cat ws = cat (ws.take i) ++ cat (ws.drop i) := by
    unfold cat
    rw [← List.flatten_append, ← List.map_append, List.take_append_drop]
  rw [this]; simp

/-- strings in memory -/
def cellsS (ws : List ByteArray) : List Value := ws.map Value.string

/-- a word that is made, its room new -/
def RMade (M : Nat → Nat → Nat) (ob n : Nat) (ls : List Nat) (w : World) (e : Ending) (w' : World) : Prop :=
  ∃ mb rb pre l, e = .returned (.pointer (some ⟨mb, 0, none⟩)) ∧ MadeAt w' mb ob rb pre l ∧ Red M l ∧ (mk l : G M) = mk ls ∧ (∀ y ∈ l, y < 3) ∧ pre.length + l.length = n ∧ mb ≠ rb ∧ w.heap.size ≤ mb ∧ w.heap.size ≤ rb ∧ Below w.heap.size w w'

set_option maxRecDepth 100000 in
set_option maxHeartbeats 2000000 in
theorem product_any {M : Nat → Nat → Nat} {a b c : Nat} (hMe : M = Mo a b c) (ha : Lim a) (hb : Lim b) (hc : Lim c) (ob vb : Nat) (ws : List ByteArray) (w : World)
    (ho : SBlk w ob 144 (ordCells a b c)) (hv : SBlk w vb 9 (cellsS ws)) (hlow : ∀ y ∈ cat ws, y < 3) (hn : (cat ws).length ≤ 140737488355328) (hk : ws.length ≤ 140737488355328) :
    Calls Try.prog 38 #[.pointer (some ⟨ob, 0, none⟩), .slice (some ⟨vb, 0, none⟩) ws.length ws.length] w (RMade M ob (cat ws).length (cat ws) w) := by
  have hvlt := hv.lt
  have holt := ho.lt
  have H := Lib.hid (And.intro ho (And.intro hv hlow))
  have vcell : ∀ (W : World), SBlk W vb 9 (cellsS ws) → ∀ i (h : i < ws.length), W.cell? ⟨vb, i, none⟩ = some (.string ws[i]) := fun W hW i h => by
    rw [hW.cell]; simp [cellsS, List.getElem?_eq_getElem h]
  have HV := Lib.hid vcell
  clear vcell ho hv hlow
  go_enter Try.func38, Try.ntmps38
  go_wp2_with fail
  go_loop [5, 12] (fun s i => ∃ k : Nat, k ≤ ws.length ∧ i = .int .i64 (k : Int) ∧ s = .int .i64 (((cat (ws.take k)).length : Nat) : Int)) (fun _ i => ws.length - (intOf i).toNat)
  case atStart => exact ⟨0, Nat.zero_le _, rfl, rfl⟩
  case round =>
    obtain ⟨k, hk2, rfl, rfl⟩ := hrel
    by_cases hlt : k < ws.length
    · have hcell := HV.out w H.out.2.1 k hlt
      have hle := cat_le hlt
      have hsum := cat_take_length hlt
      have HS := Lib.hid hsum
      have e1 : (0 : Int) ≤ (((cat (ws.take k)).length : Nat) : Int) := by omega
      clear hsum
      generalize (cat (ws.take k)).length = q at *
      generalize hws : ws[k] = s at *
      have HW := Lib.hid hws
      clear hws
      go_wp2_with fail
      go_round
      case measure => simp [intOf]; omega
      case rel => exact ⟨k + 1, by omega, by simp, by rw [HS.out]; simp⟩
    · obtain rfl : k = ws.length := by omega
      rw [List.take_length]
      have hem := empty_any ob (cat ws).length w hn
      have HE := Lib.hid hem
      clear hem
      generalize hq : (cat ws).length = n at *
      have HQ := Lib.hid hq
      clear hq
      go_wp2_with (go_at_call 66; refine HE.out.mono ?_; rintro e w1 ⟨mb, rb, rfl, hmade, hmr, hmb, hrb, hbel⟩; have HM := Lib.hid (And.intro hmade (And.intro hmr (And.intro hmb (And.intro hrb hbel)))); clear hmade hmr hmb hrb hbel)
      go_loopw [26] (fun i wr => ∃ (k : Nat) (pre l : List Nat), k ≤ ws.length ∧ i = .int .i64 (k : Int) ∧ MadeAt wr mb ob rb pre l ∧ Red M l ∧ (mk l : G M) = mk (cat (ws.drop (ws.length - k))) ∧ (∀ y ∈ l, y < 3) ∧ pre.length + l.length = n ∧ l.length ≤ (cat (ws.drop (ws.length - k))).length ∧ Below w.heap.size w wr ∧ w1.heap.size ≤ wr.heap.size) (fun i _ => ws.length - (intOf i).toNat)
      case atStart =>
        obtain ⟨hmade, hmr, hmb, hrb, hbel⟩ := HM.out
        refine ⟨0, List.replicate n 0, [], Nat.zero_le _, rfl, hmade, red_nil, ?_, (fun y hy => by cases hy), by simp, by simp, hbel, Nat.le_refl _⟩
        rw [Nat.sub_zero, List.drop_length]; rfl
      case round =>
        obtain ⟨k, pre, l, hk3, rfl, hmade, hred, hs, hlw, hrm, hll, hbel, hsz⟩ := hrel
        by_cases hlt : k < ws.length
        · have hi : ws.length - 1 - k < ws.length := by omega
          have hvW : SBlk wr vb 9 (cellsS ws) := H.out.2.1.below hbel hvlt
          have hoW : SBlk wr ob 144 (ordCells a b c) := H.out.1.below hbel holt
          have hcell := HV.out wr hvW _ hi
          obtain ⟨hmade1, hmr, hmb, hrb, hbel1⟩ := HM.out
          have hcat : cat (ws.drop (ws.length - 1 - k)) = bytesN ws[ws.length - 1 - k] ++ cat (ws.drop (ws.length - k)) := by
            have := cat_drop hi
            rwa [show ws.length - 1 - k + 1 = ws.length - k by omega] at this
          have hmem : ws[ws.length - 1 - k] ∈ ws := List.getElem_mem hi
          have hdl := cat_drop_le ws (ws.length - 1 - k)
          have j1 : (0 : Int) ≤ (ws.length : Int) - 1 - (k : Int) := by omega
          have j2 : (ws.length : Int) - 1 - (k : Int) < (ws.length : Int) := by omega
          have j3 : (k : Int) < (ws.length : Int) := by omega
          generalize hws : ws[ws.length - 1 - k] = s at *
          have hsl : (cat (ws.drop (ws.length - 1 - k))).length = s.size + (cat (ws.drop (ws.length - k))).length := by rw [hcat, List.length_append, bytesN_length]
          have hbw := (callsIn_wide (n := 0)).1 (backward_in Fence.wide trivial rfl s wr)
          have HBW := Lib.hid hbw
          have hput : Calls Try.prog 67 #[.pointer (some ⟨mb, 0, none⟩), .func (.func 96) #[] #[.pointer (some ⟨wr.heap.size, 0, none⟩)]] (wr.alloc (.cells #[.string s] 9)) (RPut M mb ob rb n (bytesN s).reverse l (wr.alloc (.cells #[.string s] 9))) := by
            have hq := HQ.out
            have hmlt := hmade.m.lt
            have hrlt := hmade.r.lt
            refine put_any hMe ha hb hc mb ob rb n _ _ (by omega) (by omega) hmr (bytesN s).reverse pre l _ (enters_of Try.func96 (by kernel_rfl) rfl) (fun o => ?_) ⟨hmade.m.alloc _, hmade.r.alloc _⟩ hrm (by omega) (by simp [bytesN_length]; omega) hred hlw (fun y hy => H.out.2.2 y (cat_mem hmem (by simpa using hy))) (hoW.alloc _)
            refine backward_iter Fence.wide trivial rfl rfl wr.heap.size s (by omega) _ (by simp; omega) _ ?_
            exact (SBlk.new wr 9 [.string s]).alloc o
          have HP := Lib.hid hput
          have HX := Lib.hid (And.intro hcat (And.intro hs (And.intro hbel (And.intro hsz (And.intro hrm (And.intro hll (And.intro hmr (And.intro hmb (And.intro hrb hsl)))))))))
          clear hcat hs hbel hsz hrm hll hmr hmb hrb hsl hbw hput hmade hred hlw hvW hoW hmade1 hbel1 hmem hdl hws
          go_wp2_with (first
            | (go_at_call 68; refine HBW.out.mono ?_; rintro e w' ⟨rfl, rfl⟩)
            | (go_at_call 67; refine HP.out.mono ?_; rintro e w' ⟨jk, l', rfl, q1, q2, q3, q4, q5, q6, q7⟩; have HQ2 := Lib.hid (And.intro q1 (And.intro q2 (And.intro q3 (And.intro q4 (And.intro q5 (And.intro q6 q7)))))); clear q1 q2 q3 q4 q5 q6 q7))
          go_roundw
          case measure => simp [intOf]; omega
          case rel =>
            obtain ⟨hcat, hs, hbel, hsz, hrm, hll, hmr, hmb, hrb, hsl⟩ := HX.out
            obtain ⟨q1, q2, q3, q4, q5, q6, q7⟩ := HQ2.out
            refine ⟨k + 1, jk, l', by omega, by simp, q1, q2, ?_, q4, q5, ?_, ?_, ?_⟩
            · rw [q3, List.reverse_reverse, show ws.length - (k + 1) = ws.length - 1 - k by omega, hcat]
              exact same_suffix hs
            · rw [show ws.length - (k + 1) = ws.length - 1 - k by omega, hsl]
              simp [bytesN_length] at q6; omega
            · refine (hbel.trans (((Below.refl _ wr).alloc hbel.size _).trans (q7.below (n := w.heap.size) ?_ ?_)))
              · have := hbel.size; simp; omega
              · intro j hj
                have := hbel.size
                simp at hj; omega
            · have := q7.size; simp at this; omega
        · obtain rfl : k = ws.length := by omega
          have HX := Lib.hid (And.intro hmade (And.intro hred (And.intro hs (And.intro hlw (And.intro hrm (And.intro hbel hsz))))))
          clear hmade hred hs hlw hrm hbel hsz hll
          go_wp2_with fail
          go_ret
          obtain ⟨hmade, hred, hs, hlw, hrm, hbel, hsz⟩ := HX.out
          obtain ⟨hmade1, hmr, hmb, hrb, hbel1⟩ := HM.out
          rw [Nat.sub_self, List.drop_zero] at hs
          exact ⟨mb, rb, pre, l, rfl, hmade, hred, hs, hlw, hrm, hmr, hmb, hrb, hbel⟩

set_option maxRecDepth 100000 in
set_option maxHeartbeats 2000000 in
theorem inverse_any {M : Nat → Nat → Nat} {a b c : Nat} (hMe : M = Mo a b c) (ha : Lim a) (hb : Lim b) (hc : Lim c) (ob : Nat) (s : ByteArray) (w : World)
    (ho : SBlk w ob 144 (ordCells a b c)) (hlow : ∀ y ∈ bytesN s, y < 3) (hn : s.size ≤ 140737488355328) :
    Calls Try.prog 44 #[.pointer (some ⟨ob, 0, none⟩), .string s] w (RMade M ob s.size (bytesN s).reverse w) := by
  have holt := ho.lt
  have hem := empty_any ob s.size w hn
  have HE := Lib.hid hem
  have hfw := fun W => (callsIn_wide (n := 0)).1 (forward_in Fence.wide trivial rfl s W)
  have HF := Lib.hid hfw
  have HO := Lib.hid (And.intro ho hlow)
  clear hem hfw ho hlow
  go_enter Try.func44, Try.ntmps44
  go_wp2_with (go_at_call 66; refine HE.out.mono ?_; rintro e w1 ⟨mb, rb, rfl, hmade, hmr, hmb, hrb, hbel⟩; have HM := Lib.hid (And.intro hmade (And.intro hmr (And.intro hmb (And.intro hrb hbel)))); clear hmade hmr hmb hrb hbel)
  refine (HF.out _).mono ?_
  rintro e w' ⟨rfl, rfl⟩
  have hput : Calls Try.prog 67 #[.pointer (some ⟨mb, 0, none⟩), .func (.func 97) #[] #[.pointer (some ⟨w1.heap.size, 0, none⟩)]] (w1.alloc (.cells #[.string s] 9)) (RPut M mb ob rb s.size (bytesN s) [] (w1.alloc (.cells #[.string s] 9))) := by
    obtain ⟨hmade, hmr, hmb, hrb, hbel⟩ := HM.out
    have hmlt := hmade.m.lt
    have hrlt := hmade.r.lt
    refine put_any hMe ha hb hc mb ob rb s.size _ _ (by omega) (by omega) hmr (bytesN s) (List.replicate s.size 0) [] _ (enters_of Try.func97 (by kernel_rfl) rfl) (fun o => ?_) ⟨hmade.m.alloc _, hmade.r.alloc _⟩ (by simp) hn (by simp [bytesN_length]) red_nil (fun y hy => by cases hy) HO.out.2 ((HO.out.1.below hbel holt).alloc _)
    refine forward_iter Fence.wide trivial rfl rfl w1.heap.size s hn _ (by simp; omega) _ ?_
    exact (SBlk.new w1 9 [.string s]).alloc o
  have HP := Lib.hid hput
  clear hput
  go_wp2_with (go_at_call 67; refine HP.out.mono ?_; rintro e w' ⟨jk, l', rfl, q1, q2, q3, q4, q5, q6, q7⟩; have HQ2 := Lib.hid (And.intro q1 (And.intro q2 (And.intro q3 (And.intro q4 (And.intro q5 (And.intro q6 q7)))))); clear q1 q2 q3 q4 q5 q6 q7)
  go_ret
  obtain ⟨q1, q2, q3, q4, q5, q6, q7⟩ := HQ2.out
  obtain ⟨hmade, hmr, hmb, hrb, hbel⟩ := HM.out
  refine ⟨mb, rb, jk, l', rfl, q1, q2, by simpa using q3, q4, q5, hmr, hmb, hrb, hbel.trans (((Below.refl _ w1).alloc hbel.size _).trans (q7.below (n := w.heap.size) ?_ ?_))⟩
  · have := hbel.size; simp; omega
  · intro j hj
    have := hbel.size
    simp at hj; omega
end Go.Proofs.Ytogchohpnbeldaa
