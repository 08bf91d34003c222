/- bring of any word; words that are made: room, letters. -/
import Derived.Test.YtogchohpnbeldaaYb
import Derived.Test.YtogchohpnbeldaaYr
namespace Go.Proofs.Ytogchohpnbeldaa
open Go.RowKit Cx

theorem bring_any {M : Nat → Nat → Nat} {a b c : Nat} (hMe : M = Mo a b c) (ha : Lim a) (hb : Lim b) (hc : Lim c) (ob rb : Nat) (hor : ob ≠ rb) : ∀ (n x : Nat) (pre l : List Nat) (w : World),
    l.length ≤ n → 0 < l.length → x < 3 → (∀ y ∈ l, y < 3) → pre.length + l.length ≤ 140737488355328 → Red M l → SBlk w ob 144 (ordCells a b c) → SBlk w rb 5 (cellsB (pre ++ l)) →
    Calls Try.prog 95 #[.pointer (some ⟨ob, 0, none⟩), .int .u8 x, .slice (some ⟨rb, pre.length, none⟩) l.length l.length] w (RBring M x l pre rb w) := by
  have hM : Ords M := by rw [hMe]; exact Mo_ords ha hb hc
  intro n
  induction n with
  | zero => intro x pre l w h1 h2; omega
  | succ n ih =>
    intro x pre l w h1 h2 hx hlow hml hred ho hr
    cases l with
    | nil => simp at h2
    | cons f l =>
      have hf : f < 3 := hlow f (List.mem_cons_self)
      by_cases hne : f = x
      · subst hne
        exact bring_head M f rb _ pre l _ w hr
      · by_cases h0 : M f x = 0
        · exact bring_zero hM ob x f rb _ a b c hMe pre l w ho hr hx hf hne h0 hred
        · have h12 : M f x ≤ 12 := by
            have := Mo_lim ha hb hc f x
            rw [← hMe] at this
            rcases this with h | h <;> omega
          exact bring_row hM ob x f rb a b c n hMe pre l w ho hor hr hx hf hne h0 h12 hred hlow (by simpa using h1) (by simpa [Nat.add_assoc] using hml)
            (fun x' pre' v W hv hv0 hx' hlv hmv hrv hoW hrW => ih x' pre' v W hv hv0 hx' hlv hmv hrv hoW hrW)

/-- a word that is made: the letters l at the end of the room -/
structure MadeAt (w : World) (mb ob rb : Nat) (pre l : List Nat) : Prop where
  m : SBlk w mb 146 [.pointer (some ⟨ob, 0, none⟩), .slice (some ⟨rb, 0, none⟩) (pre.length + l.length) (pre.length + l.length), .int .i64 ((pre.length : Nat) : Int)]
  r : SBlk w rb 5 (cellsB (pre ++ l))

/-- where the letters begin -/
def ladr (rb : Nat) (pre l : List Nat) : Option Addr := if l.length = 0 then some ⟨rb, 0, none⟩ else some ⟨rb, pre.length, none⟩

set_option maxRecDepth 100000 in
set_option maxHeartbeats 1000000 in
theorem letters_any (mb ob rb : Nat) (pre l : List Nat) (w : World) (h : MadeAt w mb ob rb pre l) (_ : pre.length + l.length ≤ 140737488355328) :
    Calls Try.prog 69 #[.pointer (some ⟨mb, 0, none⟩)] w fun e w' => e = .returned (.slice (ladr rb pre l) l.length l.length) ∧ ∃ n, w' = w.drewN n := by
  have c1 := h.m.cell 1
  have c2 := h.m.cell 2
  simp only [List.getElem?_cons_succ, List.getElem?_cons_zero] at c1 c2
  have hfin : (if pre.length + l.length = pre.length then some (⟨rb, 0, none⟩ : Addr) else some ⟨rb, pre.length, none⟩) = ladr rb pre l := by
    unfold ladr
    by_cases e : l.length = 0
    · rw [if_pos e, if_pos (by omega)]
    · rw [if_neg e, if_neg (by omega)]
  have HF := Lib.hid hfin
  clear hfin h
  have j1 : (0 : Int) ≤ (pre.length : Int) := by omega
  have j2 : (pre.length : Int) ≤ (pre.length : Int) + (l.length : Int) := by omega
  go_enter Try.func69, Try.ntmps69
  go_wp2_with fail
  go_quiet (fail)
  go_wp2_with fail
  · go_ret
    exact ⟨rfl, _, rfl⟩
  · go_ret
    have hl : ¬ l = [] := by assumption
    have hl2 : ¬ pre.length + l.length = pre.length := by have := List.length_pos_iff.2 hl; omega
    refine ⟨?_, _, rfl⟩
    rw [← HF.out, if_neg hl2]
    rfl

/-- the bytes of a string -/
def bytesN (s : ByteArray) : List Nat := s.data.toList.map UInt8.toNat
theorem bytesN_length (s : ByteArray) : (bytesN s).length = s.size := by unfold bytesN; rw [List.length_map, Array.length_toList]; rfl
theorem bytesN_get (s : ByteArray) {k : Nat} (h : k < s.size) : (bytesN s)[k]? = some (s[k]).toNat := by
  have : k < s.data.toList.length := by simpa using h
  simp [bytesN, List.getElem?_eq_getElem this]
  rfl
theorem bytesN_lt (s : ByteArray) : ∀ x ∈ bytesN s, x < 256 := by
  intro x hx
  simp only [bytesN, List.mem_map] at hx
  obtain ⟨y, _, rfl⟩ := hx
  exact y.toNat_lt

/-- a letter as yield is handed it -/
def encB (x : Nat) : Array Value := #[.int .u8 x]

theorem yields {F : Fence} {m : Nat} {P : Program} {l : Nat} {args : Array Value} {W : World} {R : Ending → World → Prop} (h : YieldAt F m P l args W R) :
    ∃ fn tmps assign body, (Instr.yield l args).run P W = .ok (.round l fn tmps assign body) W ∧ RoundIn F m P l fn tmps assign body W R := h

/-- the place ahead of the k-th -/
def posI : Nat → Int
  | 0 => -1
  | k + 1 => (k : Int)
theorem posI_zero : posI 0 = -1 := rfl
theorem posI_succ (k : Nat) : posI (k + 1) = (k : Int) := rfl
theorem posI_sub (k : Nat) : (k : Int) - 1 = posI k := by
  cases k with
  | zero => rfl
  | succ k => simp [posI]

theorem rev_split (s : ByteArray) {k : Nat} (h : k < s.size) : (bytesN s).reverse = (bytesN s).reverse.take (s.size - (k + 1)) ++ (s[k]).toNat :: (bytesN s).reverse.drop (s.size - k) := by
  have hl := bytesN_length s
  have h1 : s.size - (k + 1) < (bytesN s).reverse.length := by simp [hl]; omega
  have h2 : (bytesN s).reverse[s.size - (k + 1)] = (s[k]).toNat := by
    have := bytesN_get s h
    rw [List.getElem?_eq_getElem (by omega)] at this
    injection this with this
    rw [List.getElem_reverse, ← this]
    congr 1
    omega
  have h3 := List.take_append_drop (s.size - (k + 1)) (bytesN s).reverse
  rw [List.drop_eq_getElem_cons h1, h2, show s.size - (k + 1) + 1 = s.size - k by omega] at h3
  exact h3.symm
theorem rev_take (s : ByteArray) {k : Nat} (h : k < s.size) : (bytesN s).reverse.take (s.size - k) = (bytesN s).reverse.take (s.size - (k + 1)) ++ [(s[k]).toNat] := by
  have h1 := rev_split s h
  have h2 : (bytesN s).reverse.take (s.size - k) = ((bytesN s).reverse.take (s.size - (k + 1)) ++ (s[k]).toNat :: (bytesN s).reverse.drop (s.size - k)).take (s.size - k) := by rw [← h1]
  have h4 : ((bytesN s).reverse.take (s.size - (k + 1))).length = s.size - (k + 1) := by simp [bytesN_length]
  rw [h2, List.take_append, h4, show s.size - k - (s.size - (k + 1)) = 1 by omega, List.take_of_length_le (by omega), List.take_succ_cons, List.take_zero]

set_option maxRecDepth 100000 in
set_option maxHeartbeats 2000000 in
theorem backward_iter (F : Fence) (hF : F.fn 96) (hro : F.round = none) (hdep : F.depth = none) (cb : Nat) (s : ByteArray) (hs : s.size ≤ 140737488355328) (S : Nat → Prop) (hS : ¬ S cb) (w : World) (hw : SBlk w cb 9 [.string s]) :
    IterL F Try.prog 96 #[.pointer (some ⟨cb, 0, none⟩)] encB S (bytesN s).reverse w := by
  intro l J Jx Jp W hW hJ hY hj0
  have hb := (hw.but hW hS)
  have c0 := hb.cell 0
  simp only [List.getElem?_cons_zero] at c0
  have hlen := bytesN_length s
  have hps := posI_sub s.size
  have HB := Lib.hid (And.intro hb (And.intro hlen hps))
  clear hb hw hW hlen hps
  refine callsIn_of_wp Try.func96 rfl hF ?_ hro
  simp only [Try.ntmps96, List.size_toArray, List.length_cons, List.length_nil, Nat.reduceAdd, Nat.reduceSub, Array.replicate_succ, Array.replicate_zero, List.push_toArray, List.append_toArray, List.nil_append, List.cons_append]
  gi_wp2_with fail
  rw [HB.out.2.2]
  gi_loopg [3] s.size (fun g i wr => ∃ k, k ≤ s.size ∧ g = k + 0 ∧ i = .int .i64 (posI k) ∧ SBlk wr cb 9 [.string s] ∧ J ((bytesN s).reverse.take (s.size - k)) wr)
  case atStart => exact ⟨s.size, Nat.le_refl _, rfl, rfl, HB.out.1, by simpa using hj0⟩
  case round =>
    obtain ⟨k, hk, hg, rfl, hbw, hj⟩ := hrel
    have HG := Lib.hid hg
    clear hg
    cases k with
    | zero =>
      have hj2 : J (bytesN s).reverse wr := by
        rw [Nat.sub_zero, List.take_of_length_le (by simp [bytesN_length])] at hj
        exact hj
      have HJ := Lib.hid hj2
      clear hj hj2 hbw
      simp only [posI_zero]
      gi_wp2_with fail
      go_end0
      exact .inl ⟨_, rfl, .inl HJ.out⟩
    | succ k =>
      have hk2 : k < s.size := by omega
      have c1 := hbw.cell 0
      simp only [List.getElem?_cons_zero] at c1
      obtain ⟨fn, tmps, assign, body, hy, hR⟩ := yields (hY _ _ _ wr (rev_split s hk2) hj)
      have HX := Lib.hid (And.intro hbw (rev_take s hk2))
      clear hj hbw
      have j1 : (0 : Int) ≤ (k : Int) := by omega
      have j2 : (k : Int) < (s.size : Int) := by omega
      simp only [posI_succ]
      unfold encB at hy
      gi_wp2_with fail
      refine hR.mono ?_
      rintro e W4 (⟨rfl, hj2, hk2⟩ | ⟨rfl, hj2⟩ | ⟨ch, rfl, hj2⟩)
      · have HK := Lib.hid (And.intro hj2 hk2)
        clear hj2 hk2
        have hps := posI_sub k
        gi_wp2_with fail
        gi_roundg (k + 0)
        case measure => have := HG.out; omega
        case rel =>
          obtain ⟨hj2, hk2⟩ := HK.out
          exact ⟨k, by omega, rfl, rfl, HX.out.1.but hk2 hS, by rw [HX.out.2]; exact hj2⟩
      · gi_wp2_with fail
        refine bodyPost_ret (results_none rfl _ _ _) rfl ?_
        exact .inl ⟨_, rfl, .inr hj2⟩
      · dsimp only
        exact And.intro rfl (Or.inr ⟨ch, rfl, hj2⟩)

theorem fwd_split (s : ByteArray) {k : Nat} (h : k < s.size) : bytesN s = (bytesN s).take k ++ (s[k]).toNat :: (bytesN s).drop (k + 1) := by
  have hl := bytesN_length s
  have h1 : k < (bytesN s).length := by omega
  have h2 : (bytesN s)[k] = (s[k]).toNat := by
    have := bytesN_get s h
    rw [List.getElem?_eq_getElem h1] at this
    injection this
  have h3 := List.take_append_drop k (bytesN s)
  rw [List.drop_eq_getElem_cons h1, h2] at h3
  exact h3.symm
theorem fwd_take (s : ByteArray) {k : Nat} (h : k < s.size) : (bytesN s).take (k + 1) = (bytesN s).take k ++ [(s[k]).toNat] := by
  rw [List.take_add_one, bytesN_get s h]; rfl

set_option maxRecDepth 100000 in
set_option maxHeartbeats 2000000 in
theorem forward_iter (F : Fence) (hF : F.fn 97) (hro : F.round = none) (hdep : F.depth = none) (cb : Nat) (s : ByteArray) (hs : s.size ≤ 140737488355328) (S : Nat → Prop) (hS : ¬ S cb) (w : World) (hw : SBlk w cb 9 [.string s]) :
    IterL F Try.prog 97 #[.pointer (some ⟨cb, 0, none⟩)] encB S (bytesN s) w := by
  intro l J Jx Jp W hW hJ hY hj0
  have hb := (hw.but hW hS)
  have c0 := hb.cell 0
  simp only [List.getElem?_cons_zero] at c0
  have hlen := bytesN_length s
  have HB := Lib.hid (And.intro hb hlen)
  clear hb hw hW hlen
  refine callsIn_of_wp Try.func97 rfl hF ?_ hro
  simp only [Try.ntmps97, List.size_toArray, List.length_cons, List.length_nil, Nat.reduceAdd, Nat.reduceSub, Array.replicate_succ, Array.replicate_zero, List.push_toArray, List.append_toArray, List.nil_append, List.cons_append]
  gi_wp2_with fail
  gi_loopg [6] s.size (fun g i wr => ∃ k : Nat, k ≤ s.size ∧ g = s.size - k ∧ i = .int .i64 (k : Int) ∧ SBlk wr cb 9 [.string s] ∧ J ((bytesN s).take k) wr)
  case atStart => exact ⟨0, Nat.zero_le _, rfl, rfl, HB.out.1, by simpa using hj0⟩
  case round =>
    obtain ⟨k, hk, hg, rfl, hbw, hj⟩ := hrel
    have HG := Lib.hid hg
    clear hg
    by_cases hk2 : k < s.size
    · have c1 := hbw.cell 0
      simp only [List.getElem?_cons_zero] at c1
      obtain ⟨fn, tmps, assign, body, hy, hR⟩ := yields (hY _ _ _ wr (fwd_split s hk2) hj)
      have HX := Lib.hid (And.intro hbw (fwd_take s hk2))
      clear hj hbw
      have j1 : (0 : Int) ≤ (k : Int) := by omega
      have j2 : (k : Int) < (s.size : Int) := by omega
      unfold encB at hy
      gi_wp2_with fail
      refine hR.mono ?_
      rintro e W4 (⟨rfl, hj2, hk2⟩ | ⟨rfl, hj2⟩ | ⟨ch, rfl, hj2⟩)
      · have HK := Lib.hid (And.intro hj2 hk2)
        clear hj2 hk2
        gi_wp2_with fail
        gi_roundg (s.size - (k + 1))
        case measure => have := HG.out; omega
        case rel =>
          obtain ⟨hj2, hk2⟩ := HK.out
          exact ⟨k + 1, by omega, rfl, by simp, HX.out.1.but hk2 hS, by rw [HX.out.2]; exact hj2⟩
      · gi_wp2_with fail
        refine bodyPost_ret (results_none rfl _ _ _) rfl ?_
        exact .inl ⟨_, rfl, .inr hj2⟩
      · dsimp only
        exact And.intro rfl (Or.inr ⟨ch, rfl, hj2⟩)
    · have hj2 : J (bytesN s) wr := by
        rw [List.take_of_length_le (by rw [bytesN_length]; omega)] at hj
        exact hj
      have HJ := Lib.hid hj2
      clear hj hj2 hbw
      gi_wp2_with fail
      go_end0
      exact .inl ⟨_, rfl, .inl HJ.out⟩

theorem makeFunc_run (fn : Fn) (first cap : Array Value) (w : World) : (Instr.makeFunc fn first cap).run Try.prog w = .ok (.func fn first cap) w := rfl

set_option maxRecDepth 100000 in
theorem backward_in (F : Fence) (hF : F.fn 68) (hro : F.round = none) (s : ByteArray) (w : World) :
    CallsIn F 0 Try.prog 68 #[.string s] w fun e w' => e = .returned (.func (.func 96) #[] #[.pointer (some ⟨w.heap.size, 0, none⟩)]) ∧ w' = w.alloc (.cells #[.string s] 9) := by
  have hmf := makeFunc_run
  refine callsIn_of_wp Try.func68 rfl hF ?_ hro
  simp only [Try.ntmps68, List.size_toArray, List.length_cons, List.length_nil, Nat.reduceAdd, Nat.reduceSub, Array.replicate_succ, Array.replicate_zero, List.push_toArray, List.append_toArray, List.nil_append, List.cons_append]
  gi_wp2_with fail
  go_ret
  exact ⟨rfl, rfl⟩

set_option maxRecDepth 100000 in
theorem forward_in (F : Fence) (hF : F.fn 72) (hro : F.round = none) (s : ByteArray) (w : World) :
    CallsIn F 0 Try.prog 72 #[.string s] w fun e w' => e = .returned (.func (.func 97) #[] #[.pointer (some ⟨w.heap.size, 0, none⟩)]) ∧ w' = w.alloc (.cells #[.string s] 9) := by
  have hmf := makeFunc_run
  refine callsIn_of_wp Try.func72 rfl hF ?_ hro
  simp only [Try.ntmps72, List.size_toArray, List.length_cons, List.length_nil, Nat.reduceAdd, Nat.reduceSub, Array.replicate_succ, Array.replicate_zero, List.push_toArray, List.append_toArray, List.nil_append, List.cons_append]
  gi_wp2_with fail
  go_ret
  exact ⟨rfl, rfl⟩
end Go.Proofs.Ytogchohpnbeldaa
