/- The reference's order of a word; WordsMakes. -/
import Derived.Test.YtogchohpnbeldaaXf
import Derived.Test.YtogchohpnbeldaaZb
namespace Go.Proofs.Ytogchohpnbeldaa
open Go.RowKit Go.Shelf Cx

/-- the least order is among those of the triangle -/
theorem least_orders {a b d : Nat} (hg : Good a b d) {s : ByteArray} (hs : checkS s = 0) {k : Nat} (h1 : 1 ≤ k) (h2 : (mk (rep s k) : G (Mo a b d)) = mk []) (h3 : ∀ j, 1 ≤ j → j < k → (mk (rep s j) : G (Mo a b d)) ≠ mk []) : (k : Int) ≤ mostS a b d := by
  have hm2 : ∀ {k : Nat}, k ≤ 2 → (k : Int) ≤ mostS a b d := by
    intro k hk
    obtain ⟨m, e, m2, _⟩ := mostS_nat (a := a) (b := b) (c := d) (by rcases hg.la with h | h <;> omega) (by rcases hg.lb with h | h <;> omega) (by rcases hg.lc with h | h <;> omega)
    rw [e]; omega
  have hma : ∀ {k : Nat}, k ≤ a → (k : Int) ≤ mostS a b d := by
    intro k hk; unfold mostS; split <;> split <;> split <;> omega
  have hmb : ∀ {k : Nat}, k ≤ b → (k : Int) ≤ mostS a b d := by
    intro k hk; unfold mostS; split <;> split <;> split <;> omega
  have hmd : ∀ {k : Nat}, k ≤ d → (k : Int) ≤ mostS a b d := by
    intro k hk; unfold mostS; split <;> split <;> split <;> omega
  obtain ⟨q, rfl⟩ : ∃ q, k = q + 1 := ⟨k - 1, by omega⟩
  rw [Rs.rep_rp] at h2
  have hmin : ∀ j, 1 ≤ j → j < q + 1 → (mk (Rs.rp (bytesN s) j) : G (Mo a b d)) ≠ mk [] := fun j a b => by rw [← Rs.rep_rp]; exact h3 j a b
  have hd := fun {p : Nat} (hp : (mk (Rs.rp (bytesN s) p) : G (Mo a b d)) = mk []) => Rs.least_dvd h1 h2 hmin hp
  have ho := Rs.orders_good hg (checkS_low hs).1 h2
  rcases ho with ⟨_, ho⟩ | ⟨_, ho | ⟨i, j, hi, hj, hij, h0, ho⟩⟩
  · have h4 : Rs.rp (bytesN s) 2 = bytesN s ++ bytesN s := by show bytesN s ++ (bytesN s ++ []) = _; rw [List.append_nil]
    exact hm2 (Nat.le_of_dvd (by omega) (hd (p := 2) ho))
  · have h4 : Rs.rp (bytesN s) 1 = bytesN s := by show bytesN s ++ [] = bytesN s; rw [List.append_nil]
    exact hm2 (Nat.le_trans (Nat.le_of_dvd (by omega) (hd (p := 1) (by rw [h4]; exact ho))) (by omega))
  · have hle := Nat.le_of_dvd (by omega) (hd ho)
    have hi' : i = 0 ∨ i = 1 ∨ i = 2 := by omega
    have hj' : j = 0 ∨ j = 1 ∨ j = 2 := by omega
    rcases hi' with rfl | rfl | rfl <;> rcases hj' with rfl | rfl | rfl <;> first | (exact absurd rfl hij) | (exact hma hle) | (exact hmb hle) | (exact hmd hle)

/-- what the reference's order is -/
def RR12 (a b c : Nat) (s : ByteArray) (n : Int) : Prop :=
  (n = 0 ∧ ∀ k : Nat, 1 ≤ k → k ≤ 12 → (mk (rep s k) : G (Mo a b c)) ≠ mk []) ∨
  (∃ k : Nat, n = (k : Int) ∧ 1 ≤ k ∧ k ≤ 12 ∧ (mk (rep s k) : G (Mo a b c)) = mk [] ∧ ∀ j : Nat, 1 ≤ j → j < k → (mk (rep s j) : G (Mo a b c)) ≠ mk [])

theorem round_rr {a b c : Nat} (hg : Good a b c) {s : ByteArray} (hs : checkS s = 0) {n : Int} (h : RRound a b c s n) : RR12 a b c s n := by
  obtain ⟨m, e, m2, m12⟩ := mostS_nat (a := a) (b := b) (c := c) (by rcases hg.la with h | h <;> omega) (by rcases hg.lb with h | h <;> omega) (by rcases hg.lc with h | h <;> omega)
  rcases h with ⟨h1, h2⟩ | ⟨k, h1, h2, h3, h4, h5⟩
  · refine .inl ⟨h1, ?_⟩
    intro k
    induction k using Nat.strongRecOn with
    | ind k ih =>
      intro k1 k12 hk
      have := least_orders hg hs k1 hk (fun j j1 j2 => ih j j2 j1 (by omega))
      exact h2 k k1 this hk
  · exact .inr ⟨k, h1, h2, by rw [e] at h3; omega, h4, h5⟩

theorem rep_snoc (s : ByteArray) (n : Nat) : rep s (n + 1) = rep s n ++ bytesN s := by
  unfold rep
  rw [List.replicate_succ']
  simp

theorem nfL_nil {M : Nat → Nat → Nat} {x : G M} : nf x = [] ↔ x = mk [] := by
  constructor
  · intro h; rw [← mk_nf x, h]
  · rintro rfl; exact nf_eq Greedy.nil

set_option maxRecDepth 100000 in
set_option maxHeartbeats 4000000 in
theorem R3Order_ok (a b c : Nat) (s : ByteArray) (n : Int) (hg : Good a b c) (hs : checkS s = 0) (hn : RR12 a b c s n) (w : World) :
    Calls Try.prog 19 #[.agg #[.int .i64 a, .int .i64 b, .int .i64 c], .string s] w fun e w' => e = .returned (.tuple #[.int .i64 n, .int .i64 0]) ∧ Below w.heap.size w w' := by
  have HE := Lib.hid (fun (vb : Nat) (W : World) (h : SBlk W vb 9 [.string s]) => by
    have h1 := Errors_any a b c vb [s] W h (by simp) (fun t ht => by have := (checkS_low (one_ok hs t ht)).2; omega)
    rw [errorsS_ok hg (one_ok hs)] at h1
    exact h1)
  have hb0 := (Below.refl w.heap.size w).alloc (Nat.le_refl _) (.cells #[.int .i64 a, .int .i64 b, .int .i64 c] 23)
  have HB0 := Lib.hid (hb0.alloc hb0.size (.cells #[.string s] 9))
  have HO0 := Lib.hid ((SBlk.new w 23 [.int .i64 a, .int .i64 b, .int .i64 c]).alloc (.cells #[.string s] 9))
  have hcs := checkS_low hs
  have hrl : ∀ k, ∀ y ∈ rep s k, y < 3 := fun k => rep_low hs k
  have hrn : ∀ k, (rep s k).length = k * s.size := by
    intro k
    induction k with
    | zero => simp [rep]
    | succ k ih => rw [rep_succ, List.length_append, ih, bytesN_length, Nat.add_mul]; omega
  have HR := Lib.hid (And.intro hg (And.intro hcs (And.intro hrl (And.intro hrn hn))))
  have hs60 := hcs.2
  clear hb0 hcs hrl hrn hn hs hg
  go_enter Try.func19, Try.ntmps19
  go_wp2_with fail
  refine (HE.out _ _ (SBlk.new' _ _ [.string s] _ (by simp))).mono ?_
  rintro e w1 ⟨rfl, hb1⟩
  have HB := Lib.hid (HB0.out.trans (hb1.mono HB0.out.size))
  have HO := Lib.hid (kept3 HO0.out hb1).1
  clear hb1 HE HB0 HO0
  go_wp2_with fail
  go_loopw [7, 8] (fun p i wr => ∃ k : Nat, k ≤ 12 ∧ i = .int .i64 ((k : Int) + 1) ∧ p = .string (str (nf (mk (rep s k) : G (Mo a b c)))) ∧ (∀ j, 1 ≤ j → j ≤ k → (mk (rep s j) : G (Mo a b c)) ≠ mk []) ∧ SBlk wr w.heap.size 23 [.int .i64 a, .int .i64 b, .int .i64 c] ∧ Below w.heap.size w wr) (fun _ i _ => 13 - (intOf i).toNat)
  case atStart =>
    refine ⟨0, by omega, rfl, ?_, fun j h1 h2 => by omega, HO.out, HB.out⟩
    have : (mk (rep s 0) : G (Mo a b c)) = mk [] := by simp [rep]
    rw [this, nfL_nil.2 rfl]
    rfl
  case round =>
    clear HO HB
    obtain ⟨k, hk, rfl, rfl, hno, hO, hB⟩ := hrel
    have x0 := hO.cell 0
    have x1 := hO.cell 1
    have x2 := hO.cell 2
    simp only [List.getElem?_cons_succ, List.getElem?_cons_zero] at x0 x1 x2
    by_cases hlt : k < 12
    · have hlt2 : (k : Int) + 1 ≤ 12 := by omega
      obtain ⟨hg, hcs, hrl, hrn, hn⟩ := HR.out
      have hlow := red_low (mk_nf (mk (rep s k) : G (Mo a b c))) (hrl k) (nf_greedy _).red
      have hlen : (nf (mk (rep s k) : G (Mo a b c))).length ≤ 12 * 60 := by
        have h1 := (nf_greedy (mk (rep s k) : G (Mo a b c))).red _ (mk_nf _).symm
        rw [hrn] at h1
        exact Nat.le_trans h1 (Nat.mul_le_mul (by omega) hcs.2)
      have hbt : bytesN (str (nf (mk (rep s k) : G (Mo a b c))) ++ s) = nf (mk (rep s k) : G (Mo a b c)) ++ bytesN s := by rw [bytesN_append, bytesN_str (low256 hlow)]
      have hW := fun W => Word_any hg.la hg.lb hg.lc (str (nf (mk (rep s k) : G (Mo a b c))) ++ s) W (by
        rw [hbt]
        intro y hy
        rcases List.mem_append.1 hy with h | h
        · exact hlow y h
        · exact hcs.1 y h) (by rw [ByteArray.size_append, str_size]; omega)
      rw [hbt, ← mk_mul, mk_nf, mk_mul, ← rep_snoc] at hW
      have ad := fun W => run_string_add_sum (P := Try.prog) (w := W) (str (nf (mk (rep s k) : G (Mo a b c)))) s (by rw [str_size]; omega)
      obtain ⟨N, hN⟩ : ∃ N, nf (mk (rep s (k + 1)) : G (Mo a b c)) = N := ⟨_, rfl⟩
      rw [hN] at hW
      have HW := Lib.hid hW
      generalize str (nf (mk (rep s k) : G (Mo a b c))) = P at *
      generalize hQ : P ++ s = Q at *
      have HX := Lib.hid (And.intro hno (And.intro hO (And.intro hB (And.intro hN hn))))
      clear hno hO hB hN hn hW hg hcs hrl hrn hlow hlen hbt hQ
      by_cases hnil : N = []
      · subst hnil
        have HW2 := Lib.hid (fun W => show Calls Try.prog 32 #[.agg #[.int .i64 a, .int .i64 b, .int .i64 c], .string Q] W (fun e w' => e = .returned (.string ⟨#[]⟩) ∧ Below W.heap.size W w') from HW.out W)
        clear HW
        go_wp2_with (go_at_call 32; (with_reducible refine (HW2.out _).mono ?_); rintro e w' ⟨rfl, hb⟩; have HB2 := Lib.hid hb; clear hb)
        go_ret2
        obtain ⟨hno, hO, hB, hN, hn⟩ := HX.out
        have hone := nfL_nil.1 hN
        rcases hn with ⟨_, h2⟩ | ⟨q, rfl, q1, q12, q2, q3⟩
        · exact absurd hone (h2 (k + 1) (by omega) (by omega))
        · have hq : q = k + 1 := by
            rcases Nat.lt_trichotomy q (k + 1) with h | h | h
            · exact absurd q2 (hno q q1 (by omega))
            · exact h
            · exact absurd hone (q3 (k + 1) (by omega) h)
          subst hq
          exact ⟨by simp, hB.trans (HB2.out.mono hB.size)⟩
      · have hne : (str N).toList.isEmpty = false := by
          rw [toList_str]
          cases N with
          | nil => exact absurd rfl hnil
          | cons _ _ => rfl
        have hne2 : ((str N).toList == []) = false := by
          rw [toList_str]
          cases N with
          | nil => exact absurd rfl hnil
          | cons _ _ => rfl
        generalize hS : str N = S at *
        have HS := Lib.hid hS
        clear hS
        go_wp2_with (go_at_call 32; (with_reducible refine (HW.out _).mono ?_); rintro e w' ⟨rfl, hb⟩; have HB2 := Lib.hid hb; clear hb)
        go_roundw
        case measure => show 13 - ((k : Int) + 1 + 1).toNat < 13 - ((k : Int) + 1).toNat; omega
        case rel =>
          obtain ⟨hno, hO, hB, hN, hn⟩ := HX.out
          refine ⟨k + 1, by omega, by simp, by rw [hN, HS.out], fun j h1 h2 => ?_, (kept3 hO HB2.out).1, hB.trans (HB2.out.mono hB.size)⟩
          by_cases e : j = k + 1
          · subst e
            intro h
            exact hnil (hN.symm.trans (nfL_nil.2 h))
          · exact hno j h1 (by omega)
    · obtain rfl : k = 12 := by omega
      have HX := Lib.hid (And.intro hno hB)
      clear hno hO hB
      go_wp2_with fail
      go_ret2
      obtain ⟨hno, hB⟩ := HX.out
      rcases HR.out.2.2.2.2 with ⟨rfl, _⟩ | ⟨q, rfl, q1, q12, q2, q3⟩
      · exact ⟨rfl, hB⟩
      · exact absurd q2 (hno q q1 q12)
end Go.Proofs.Ytogchohpnbeldaa
