/- The inverse of a word; a word from its end to its beginning. What the law of the group says of words. -/
import Derived.Test.YtcpeeopdaakbaaaGreatYW
import Derived.Test.YtcpeeopdaakbaaaGreatZf
import Derived.Test.YtcpeeopdaakbaaaGreatTorY
namespace Go.Proofs.YtcpeeopdaakbaaaGreat
open Go.RowKit Go.Shelf Cx

/-- a word from its end to its beginning -/
def turnS (s : ByteArray) : ByteArray := str (bytesN s).reverse

theorem turnS_bytes (s : ByteArray) : bytesN (turnS s) = (bytesN s).reverse := bytesN_str (fun y hy => bytesN_lt s y (by simpa using hy))
theorem turnS_size (s : ByteArray) : (turnS s).size = s.size := by unfold turnS; rw [str_size, List.length_reverse, bytesN_length]
theorem turnS_check {s : ByteArray} (h : checkS s = 0) : checkS (turnS s) = 0 := by
  have h1 := checkS_low h
  exact check_str (fun y hy => h1.1 y (by simpa using hy)) (by rw [List.length_reverse, bytesN_length]; exact h1.2)

theorem inverse_ok {a b c : Nat} (hg : Good a b c) (ob : Nat) (s : ByteArray) (he : checkS s = 0) (w : World) (ho : SBlk w ob 272 (ordCells a b c)) :
    Calls Tryz.prog 174 #[.pointer (some ⟨ob, 0, none⟩), .string s] w (RProd a b c ob [turnS s] w) := by
  have hl := checkS_low he
  have holt := ho.lt
  refine (inverse_any rfl hg.la hg.lb hg.lc ob s w ho hl.1 (by omega)).mono ?_
  rintro e w' ⟨mb, rb, pre, l, rfl, h1, h2, h3, h4, h5, h6, h7, h8, h9⟩
  have hc : cat [turnS s] = (bytesN s).reverse := by rw [cat_cons, turnS_bytes]; simp [cat]
  exact ⟨mb, rb, pre, l, rfl, h1, ho.below h9 holt, h2, by rw [hc]; exact h3, h4, by omega, h6, by omega, h8, h9⟩

set_option maxRecDepth 100000 in
set_option maxHeartbeats 4000000 in
theorem inverse1_ret (a b c pb wb : Nat) (s : ByteArray) (hg : Good a b c) (he : checkS s = 0) (w : World) (hp : SBlk w pb 23 [.int .i64 a, .int .i64 b, .int .i64 c]) (hw : SBlk w wb 9 [.string s]) :
    Calls Tryz.prog 173 #[.pointer (some ⟨pb, 0, none⟩), .pointer (some ⟨wb, 0, none⟩)] w fun e w' => e = .returned (.string (str (nfW a b c [turnS s]))) ∧ Below w.heap.size w w' := by
  have p0 := hp.cell 0
  have p1 := hp.cell 1
  have p2 := hp.cell 2
  have q0 := hw.cell 0
  simp only [List.getElem?_cons_zero, List.getElem?_cons_succ] at p0 p1 p2 q0
  have HP := Lib.hid (And.intro (And.intro hp hw) (And.intro hg (one_ok he)))
  have HR := Lib.hid (fun ob W h => inverse_ok hg ob s he W h)
  clear hp hw hg he
  go_enter Tryz.func173, Tryz.ntmps173
  go_wp2_with fail
  go_region_held3 (fun w' => w'.cell? ⟨pb, 0, none⟩ = some (.int .i64 a) ∧ w'.cell? ⟨pb, 1, none⟩ = some (.int .i64 b) ∧ w'.cell? ⟨pb, 2, none⟩ = some (.int .i64 c) ∧ w'.cell? ⟨wb, 0, none⟩ = some (.string s))
    (first | (with_reducible assumption) | exact ⟨kp.1, kp.2.1, kp.2.2, kq⟩ | (go_keep; done))
    (first
      | (go_at_call 142; (with_reducible refine (given_one HP.out.2.1 1 [s] [.string s] rfl rfl (by omega) HP.out.2.2 w).mono ?_); rintro e w1 ⟨ob, rfl, hob, hv, hz1⟩; have kp := (keptO HP.out.1.1 hz1); have kq := keptS HP.out.1.2 hz1; have HW1 := Lib.hid (And.intro hob hz1); clear hob hv hz1)
      | (go_at_call 174; (with_reducible refine (HR.out _ w1 HW1.out.1).mono ?_); rintro e w2 ⟨mb, rb, pre, l, rfl, h1, h2, h3, h4, h5, h6, h7, h8, h9, hb2⟩; have HW2 := Lib.hid (And.intro (And.intro h1 (And.intro h2 (And.intro h3 (And.intro h4 h5)))) (And.intro (And.intro h6 (And.intro h7 h8)) (And.intro (HW1.out.2.trans (hb2.mono HW1.out.2.size)) (Nat.le_trans HW1.out.2.size h9)))); have kp := (keptO HP.out.1.1 HW2.out.2.2.1); have kq := keptS HP.out.1.2 HW2.out.2.2.1; clear h1 h2 h3 h4 h5 h6 h7 h8 h9 hb2)
      | (go_at_call 144; (with_reducible refine (normal_ok HP.out.2.1 _ _ [turnS s] _ HW2.out.1.1 HW2.out.1.2.1 HW2.out.1.2.2.1 HW2.out.1.2.2.2.1 HW2.out.1.2.2.2.2 HW2.out.2.1.1 HW2.out.2.1.2.1 HW2.out.2.1.2.2).mono ?_); rintro e w3 ⟨rfl, hgr⟩; have HW3 := Lib.hid (below_only HW2.out.2.2.1 hgr HW2.out.2.2.2 HW2.out.2.2.1.size); have kp := (keptO HP.out.1.1 HW3.out); have kq := keptS HP.out.1.2 HW3.out; clear hgr))
  all_goals
    go_wp2_with fail
    go_ret
    exact ⟨rfl, HW3.out⟩

set_option maxRecDepth 100000 in
set_option maxHeartbeats 1000000 in
theorem Inverse_ok (a b c : Nat) (s : ByteArray) (hg : Good a b c) (he : checkS s = 0) (w : World) :
    Calls Tryz.prog 120 #[.agg #[.int .i64 a, .int .i64 b, .int .i64 c], .string s] w fun e w' => e = .returned (.tuple #[.string (str (nfW a b c [turnS s])), .int .i64 0]) ∧ Below w.heap.size w w' := by
  have hmf := makeFunc_run
  have hat := fun W => attempt_string_ret 173 #[.pointer (some ⟨w.heap.size, 0, none⟩), .pointer (some ⟨w.heap.size + 1, 0, none⟩)] (.string (str (nfW a b c [turnS s]))) W (enters_of Tryz.func173 (by kernel_rfl) rfl)
  have hcl : ∀ W, Below (w.heap.size + 2) ((w.alloc (.cells #[.int .i64 a, .int .i64 b, .int .i64 c] 23)).alloc (.cells #[.string s] 9)) W → Calls Tryz.prog 173 #[.pointer (some ⟨w.heap.size, 0, none⟩), .pointer (some ⟨w.heap.size + 1, 0, none⟩)] W fun e w' => e = .returned (.string (str (nfW a b c [turnS s]))) ∧ Below W.heap.size W w' := fun W hW =>
    inverse1_ret a b c _ _ s hg he W (((SBlk.new w 23 [.int .i64 a, .int .i64 b, .int .i64 c]).alloc _).below hW (by omega)) ((SBlk.new' _ 9 [.string s] _ (World.size_alloc _ _)).below hW (by omega))
  have HA := Lib.hid (And.intro hat hcl)
  clear hat hcl hg he
  generalize str (nfW a b c [turnS s]) = T at *
  go_enter Tryz.func120, Tryz.ntmps120
  go_wp2_with (go_at_call 140; refine (HA.out.1 _ (fun W hW => HA.out.2 W (hW.mono (by simp)))).mono ?_; rintro e w' ⟨rfl, hb⟩; have HB := Lib.hid (below_a2 hb); clear hb)
  go_ret2
  exact ⟨rfl, HB.out⟩

set_option maxRecDepth 100000 in
set_option maxHeartbeats 1000000 in
theorem Turned_any (s : ByteArray) (hs : s.size ≤ 1000000) (w : World) :
    Calls Tryz.prog 151 #[.string s] w fun e w' => e = .returned (.string (turnS s)) ∧ w' = w := by
  go_enter Tryz.func151, Tryz.ntmps151
  go_wp2_with fail
  go_loop [3, 4] (fun v i => ∃ k : Nat, k ≤ s.size ∧ i = .int .i64 (k : Int) ∧ v = .string (str ((bytesN s).take k).reverse)) (fun _ i => s.size - (intOf i).toNat)
  case atStart => exact ⟨0, Nat.zero_le _, rfl, rfl⟩
  case round =>
    obtain ⟨k, hk, rfl, rfl⟩ := hrel
    by_cases hlt : k < s.size
    · have h1 : s.extract k (k + 1) ++ str ((bytesN s).take k).reverse = str ((bytesN s).take (k + 1)).reverse := by
        have hb : s.extract k (k + 1) = str [(s[k]).toNat] := by
          apply ByteArray.ext
          apply Array.ext'
          simp only [str, ByteArray.data_extract]
          rw [Array.toList_extract]
          simp only [List.extract_eq_take_drop, Nat.add_sub_cancel_left]
          rw [List.drop_eq_getElem_cons (by simpa using hlt)]
          simp [ByteArray.getElem_eq_getElem_data]
        rw [hb, str_append, List.take_add_one, bytesN_get s hlt]
        simp
      have ad := fun W => run_string_add_sum (P := Tryz.prog) (w := W) (s.extract k (k + 1)) (str ((bytesN s).take k).reverse) (by rw [ByteArray.size_extract, str_size, List.length_reverse, List.length_take]; omega)
      rw [h1] at ad
      have i1 : (0 : Int) ≤ (k : Int) := by omega
      have i2 : (k : Int) + 1 ≤ (s.size : Int) := by omega
      clear h1
      go_wp2_with fail
      go_round
      case measure => show s.size - ((k : Int) + 1).toNat < s.size - (k : Int).toNat; omega
      case rel => exact ⟨k + 1, by omega, by simp, rfl⟩
    · obtain rfl : k = s.size := by omega
      have h1 : str ((bytesN s).take s.size).reverse = turnS s := by
        unfold turnS
        rw [List.take_of_length_le (by rw [bytesN_length]; exact Nat.le_refl _)]
      rw [h1]
      go_wp2_with fail
      go_ret
      exact ⟨rfl, rfl⟩
end Go.Proofs.YtcpeeopdaakbaaaGreat

namespace Go.Proofs.YtcpeeopdaakbaaaGreat
open Go.RowKit Go.Shelf Cx

theorem nfW_mk (a b c : Nat) (ws : List ByteArray) : (mk (nfW a b c ws) : G (Mo a b c)) = mk (cat ws) := mk_nf _
theorem nfW_low {a b c : Nat} {ws : List ByteArray} (h : ∀ y ∈ cat ws, y < 3) : ∀ y ∈ nfW a b c ws, y < 3 := red_low (nfW_mk a b c ws) h (nf_greedy _).red
theorem nfW_len (a b c : Nat) (ws : List ByteArray) : (nfW a b c ws).length ≤ (cat ws).length := (nf_greedy _).red _ (nfW_mk a b c ws).symm
theorem cat_one (s : ByteArray) : cat [s] = bytesN s := by simp [cat]
theorem cat_two (s t : ByteArray) : cat [s, t] = bytesN s ++ bytesN t := by simp [cat]
theorem bytes_nfW {a b c : Nat} {ws : List ByteArray} (h : ∀ y ∈ cat ws, y < 3) : bytesN (str (nfW a b c ws)) = nfW a b c ws := bytesN_str (low256 (nfW_low h))
theorem nfW_same {a b c : Nat} {ws vs : List ByteArray} (h : (mk (cat ws) : G (Mo a b c)) = mk (cat vs)) : nfW a b c ws = nfW a b c vs := by
  unfold nfW; rw [h]

theorem rep_conj {a b c : Nat} {u s t : ByteArray} (ht : bytesN t = bytesN u ++ bytesN s ++ (bytesN u).reverse) (n : Nat) : (mk (rep t n) : G (Mo a b c)) = cj (mk (bytesN u)) (mk (rep s n)) := by
  induction n with
  | zero =>
    have e : (mk (rep t 0) : G (Mo a b c)) = mk [] := by simp [rep]
    have e2 : (mk (rep s 0) : G (Mo a b c)) = mk [] := by simp [rep]
    rw [e, e2]
    unfold cj
    rw [mul_one, mul_inv]
  | succ n ih =>
    rw [rep_succ, rep_succ, ← mk_mul, ih, ht, ← mk_mul, ← mk_mul, ← mk_mul]
    unfold cj
    rw [inv_mk]
    have h2 : (mk (bytesN u).reverse * mk (bytesN u) : G (Mo a b c)) = mk [] := inv_mul_self (mk (bytesN u))
    simp only [mul_assoc]
    rw [← mul_assoc (mk (bytesN u).reverse) (mk (bytesN u)), h2, one_mul]

theorem cj_one_iff {M : Nat → Nat → Nat} (x t : G M) : cj x t = mk [] ↔ t = mk [] := by
  constructor
  · intro h
    have : cj x t = cj x (mk []) := by
      rw [h]; unfold cj; rw [mul_one, mul_inv]
    exact cj_inj this
  · rintro rfl
    unfold cj; rw [mul_one, mul_inv]

theorem round_conj {a b c : Nat} {u s t : ByteArray} (ht : bytesN t = bytesN u ++ bytesN s ++ (bytesN u).reverse) {n : Int} (h : RRound a b c s n) : RRound a b c t n := by
  have e : ∀ k, (mk (rep t k) : G (Mo a b c)) = mk [] ↔ (mk (rep s k) : G (Mo a b c)) = mk [] := fun k => by rw [rep_conj ht]; exact cj_one_iff _ _
  rcases h with ⟨h1, h2⟩ | ⟨k, h1, h2, h3, h4, h5⟩
  · exact .inl ⟨h1, fun j a b hh => h2 j a b ((e j).1 hh)⟩
  · exact .inr ⟨k, h1, h2, h3, (e k).2 h4, fun j a b hh => h5 j a b ((e j).1 hh)⟩

theorem round_exists (a b c : Nat) (s : ByteArray) : ∃ n, RRound a b c s n := by
  have key : ∀ m, (∃ k, 1 ≤ k ∧ k ≤ m ∧ (mk (rep s k) : G (Mo a b c)) = mk [] ∧ ∀ j, 1 ≤ j → j < k → (mk (rep s j) : G (Mo a b c)) ≠ mk []) ∨ ∀ j, 1 ≤ j → j ≤ m → (mk (rep s j) : G (Mo a b c)) ≠ mk [] := by
    intro m
    induction m with
    | zero => exact .inr fun j h1 h2 => by omega
    | succ m ih =>
      rcases ih with ⟨k, h1, h2, h3, h4⟩ | h
      · exact .inl ⟨k, h1, by omega, h3, h4⟩
      · by_cases hm : (mk (rep s (m + 1)) : G (Mo a b c)) = mk []
        · exact .inl ⟨m + 1, by omega, Nat.le_refl _, hm, fun j h1 h2 => h j h1 (by omega)⟩
        · refine .inr fun j h1 h2 => ?_
          by_cases e : j = m + 1
          · subst e; exact hm
          · exact h j h1 (by omega)
  rcases key (mostS a b c).toNat with ⟨k, h1, h2, h3, h4⟩ | h
  · exact ⟨k, .inr ⟨k, rfl, h1, by omega, h3, h4⟩⟩
  · exact ⟨0, .inl ⟨rfl, fun j h1 h2 => h j h1 (by omega)⟩⟩

/-- does n divide an order that is not 0? -/
def divB (n m : Int) : Bool := decide (0 < n) && (decide (0 < m) && (m % n == 0))

end Go.Proofs.YtcpeeopdaakbaaaGreat
