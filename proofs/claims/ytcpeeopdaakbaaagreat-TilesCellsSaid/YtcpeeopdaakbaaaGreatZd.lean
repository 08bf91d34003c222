/- Steps keep the tile: the words; letter, Between. -/
import Derived.Test.YtcpeeopdaakbaaaGreatZa
import Derived.Test.YtcpeeopdaakbaaaGreatYT
namespace Go.Proofs.YtcpeeopdaakbaaaGreat
open Go.RowKit Go.Shelf Cx

theorem bytesN_append (s t : ByteArray) : bytesN (s ++ t) = bytesN s ++ bytesN t := by
  unfold bytesN
  rw [ByteArray.data_append, Array.toList_append, List.map_append]

theorem str_bytes (s : ByteArray) : str (bytesN s) = s := by
  unfold str bytesN
  apply ByteArray.ext
  apply Array.ext'
  simp only [List.map_map]
  have : (List.map (UInt8.ofNat ∘ UInt8.toNat) s.data.toList) = s.data.toList := by
    conv => rhs; rw [← List.map_id s.data.toList]
    exact List.map_congr_left fun y _ => by simp
  simpa using this

theorem bytesN_take (s : ByteArray) (k : Nat) : bytesN (s.extract 0 k) = (bytesN s).take k := by
  have h := str_take (bytesN s) k
  rw [str_bytes] at h
  rw [h, bytesN_str]
  exact fun y hy => bytesN_lt s y (List.mem_of_mem_take hy)
theorem bytesN_drop (s : ByteArray) (k : Nat) : bytesN (s.extract k s.size) = (bytesN s).drop k := by
  have h := str_drop (bytesN s) k
  rw [str_bytes] at h
  rw [h, bytesN_str]
  exact fun y hy => bytesN_lt s y (List.mem_of_mem_drop hy)

/-- what a step leaves -/
structure StepTo (a b c : Nat) (s v : ByteArray) : Prop where
  same : (mk (bytesN v) : G (Mo a b c)) = mk (bytesN s)
  low : ∀ y ∈ bytesN v, y < 3
  len : v.size ≤ s.size + 2

theorem StepTo.refl {a b c : Nat} {s : ByteArray} (h : ∀ y ∈ bytesN s, y < 3) : StepTo a b c s s := ⟨rfl, h, by omega⟩

theorem step_two {a b c n m : Nat} {s : ByteArray} (h : ∀ y ∈ bytesN s, y < 3) (hm : m < 3) :
    StepTo a b c s (s.extract 0 n ++ str [m] ++ str [m] ++ s.extract n s.size) := by
  have hb : bytesN (s.extract 0 n ++ str [m] ++ str [m] ++ s.extract n s.size) = (bytesN s).take n ++ m :: m :: (bytesN s).drop n := by
    have h1 : bytesN (str [m]) = [m] := bytesN_str (by intro y hy; simp at hy; omega)
    rw [bytesN_append, bytesN_append, bytesN_append, bytesN_take, bytesN_drop, h1]
    simp
  refine ⟨?_, ?_, ?_⟩
  · rw [hb, mk_sq, List.take_append_drop]
  · rw [hb]
    intro y hy
    simp only [List.mem_append, List.mem_cons] at hy
    rcases hy with hy | rfl | rfl | hy
    · exact h y (List.mem_of_mem_take hy)
    · exact hm
    · exact hm
    · exact h y (List.mem_of_mem_drop hy)
  · rw [← bytesN_length, hb, ← bytesN_length s]
    simp
    omega

theorem step_cut {a b c n : Nat} {s : ByteArray} (h : ∀ y ∈ bytesN s, y < 3) (hn : n + 1 < s.size) (he : s[n] = s[n + 1]) :
    StepTo a b c s (s.extract 0 n ++ s.extract (n + 2) s.size) := by
  have hb : bytesN (s.extract 0 n ++ s.extract (n + 2) s.size) = (bytesN s).take n ++ (bytesN s).drop (n + 2) := by
    rw [bytesN_append, bytesN_take, bytesN_drop]
  have hs : bytesN s = (bytesN s).take n ++ (s[n]).toNat :: (s[n]).toNat :: (bytesN s).drop (n + 2) := by
    have h1 := fwd_split s (k := n) (by omega)
    have h2 : (bytesN s).drop (n + 1) = (s[n + 1]).toNat :: (bytesN s).drop (n + 2) := by
      have hl : n + 1 < (bytesN s).length := by rw [bytesN_length]; omega
      rw [List.drop_eq_getElem_cons hl]
      have := bytesN_get s (k := n + 1) hn
      rw [List.getElem?_eq_getElem hl] at this
      injection this with this
      rw [this]
    rw [h2, ← he] at h1
    exact h1
  refine ⟨?_, ?_, ?_⟩
  · rw [hb]
    conv => rhs; rw [hs]
    rw [mk_sq]
  · rw [hb]
    intro y hy
    simp only [List.mem_append] at hy
    rcases hy with hy | hy
    · exact h y (List.mem_of_mem_take hy)
    · exact h y (List.mem_of_mem_drop hy)
  · rw [← bytesN_length, hb, ← bytesN_length s]
    simp
    omega

theorem step_turn {a b c n x m : Nat} {s : ByteArray} (h : ∀ y ∈ bytesN s, y < 3) (hx : x < 3) (hm : m < 3) (hn : n + Mo a b c x m ≤ s.size)
    (hr : ∀ k, k < Mo a b c x m → (bytesN s)[n + k]? = some (turn x m k)) :
    StepTo a b c s (s.extract 0 n ++ str (alt m x (Mo a b c x m)) ++ s.extract (n + Mo a b c x m) s.size) := by
  have hb : bytesN (s.extract 0 n ++ str (alt m x (Mo a b c x m)) ++ s.extract (n + Mo a b c x m) s.size) = (bytesN s).take n ++ (alt m x (Mo a b c x m) ++ (bytesN s).drop (n + Mo a b c x m)) := by
    rw [bytesN_append, bytesN_append, bytesN_take, bytesN_drop, bytesN_str (low256 (alt_low hm hx _)), List.append_assoc]
  have hl := bytesN_length s
  have hs : bytesN s = (bytesN s).take n ++ (alt x m (Mo a b c x m) ++ (bytesN s).drop (n + Mo a b c x m)) := by
    have h1 : (bytesN s).drop n = alt x m (Mo a b c x m) ++ (bytesN s).drop (n + Mo a b c x m) := by
      have h2 := List.take_append_drop (Mo a b c x m) ((bytesN s).drop n)
      rw [List.drop_drop] at h2
      have h3 : ((bytesN s).drop n).take (Mo a b c x m) = alt x m (Mo a b c x m) := by
        apply List.ext_getElem
        · rw [List.length_take, List.length_drop, alt_length]; omega
        · intro k h4 h5
          rw [alt_get]
          rw [List.getElem_take, List.getElem_drop]
          have h6 : k < Mo a b c x m := by rw [alt_length] at h5; exact h5
          have h7 := hr k h6
          rw [List.getElem?_eq_getElem (by omega)] at h7
          injection h7
      rw [h3] at h2
      exact h2.symm
    rw [← h1, List.take_append_drop]
  refine ⟨?_, ?_, ?_⟩
  · rw [hb]
    conv => rhs; rw [hs]
    have := mk_br (M := Mo a b c) ((bytesN s).take n) ((bytesN s).drop (n + Mo a b c x m)) x m
    exact this.symm
  · rw [hb]
    intro y hy
    simp only [List.mem_append] at hy
    rcases hy with hy | hy | hy
    · exact h y (List.mem_of_mem_take hy)
    · exact alt_low hm hx _ y hy
    · exact h y (List.mem_of_mem_drop hy)
  · rw [← bytesN_length, hb, ← bytesN_length s]
    simp [alt_length]
    omega

set_option maxRecDepth 100000 in
theorem Between_any (a b c i j : Int) (w : World) :
    Calls Tryz.prog 110 #[.agg #[.int .i64 a, .int .i64 b, .int .i64 c], .int .i64 i, .int .i64 j] w fun e w' => e = .returned (.int .i64 (if wrap64 (i + j) = 1 then a else if wrap64 (i + j) = 3 then b else c)) ∧ Below w.heap.size w w' := by
  have HB := Lib.hid ((Below.refl w.heap.size w).alloc (Nat.le_refl _) (.cells #[.int .i64 a, .int .i64 b, .int .i64 c] 23))
  by_cases h1 : wrap64 (i + j) = 1
  · go_enter Tryz.func110, Tryz.ntmps110
    go_wp2_with fail
    go_ret
    exact ⟨rfl, HB.out⟩
  · by_cases h2 : wrap64 (i + j) = 3
    · go_enter Tryz.func110, Tryz.ntmps110
      go_wp2_with fail
      go_ret
      exact ⟨rfl, HB.out⟩
    · go_enter Tryz.func110, Tryz.ntmps110
      go_wp2_with fail
      go_ret
      exact ⟨rfl, HB.out⟩

set_option maxRecDepth 100000 in
theorem letter_any (m : Nat) (hm : m < 3) (w : World) :
    Calls Tryz.prog 138 #[.int .i64 m] w fun e w' => e = .returned (.string (str [m])) ∧ Below w.heap.size w w' := by
  have hr := run_str (w.alloc (.cells #[.int .u8 (m : Int)] 5)) w.heap.size 0 1 [m] (by intro y hy; simp at hy; omega) (by
    intro j hj
    obtain rfl : j = 0 := by simpa using hj
    rw [(SBlk.new w 5 [.int .u8 (m : Int)]).cell]
    rfl)
  simp only [List.length_cons, List.length_nil, Nat.zero_add] at hr
  have HB := Lib.hid ((Below.refl w.heap.size w).alloc (Nat.le_refl _) (.cells #[.int .u8 (m : Int)] 5))
  have hwr : IntKind.u8.wrap (m : Int) = m := by
    have : m = 0 ∨ m = 1 ∨ m = 2 := by omega
    rcases this with rfl | rfl | rfl <;> decide
  go_enter Tryz.func138, Tryz.ntmps138
  go_wp2_with fail
  go_ret
  exact ⟨rfl, HB.out⟩
end Go.Proofs.YtcpeeopdaakbaaaGreat
