/- Times; the number of rounds; Order. -/
import Derived.Test.YtcpeeopdaakbaaaGreatYL
namespace Go.Proofs.YtcpeeopdaakbaaaGreat
open Go.RowKit Go.Shelf Cx

set_option maxRecDepth 100000 in
set_option maxHeartbeats 4000000 in
theorem times1_ret (a b c pb ub vb : Nat) (u v : ByteArray) (hg : Good a b c) (hu : checkS u = 0) (hv : checkS v = 0) (w : World) (hp : SBlk w pb 23 [.int .i64 a, .int .i64 b, .int .i64 c]) (hwu : SBlk w ub 9 [.string u]) (hwv : SBlk w vb 9 [.string v]) :
    Calls Tryz.prog 175 #[.pointer (some ⟨pb, 0, none⟩), .pointer (some ⟨ub, 0, none⟩), .pointer (some ⟨vb, 0, none⟩)] w fun e w' => e = .returned (.string (str (nfW a b c [u, v]))) ∧ Below w.heap.size w w' := by
  have p0 := hp.cell 0
  have p1 := hp.cell 1
  have p2 := hp.cell 2
  have q0 := hwu.cell 0
  have r0 := hwv.cell 0
  simp only [List.getElem?_cons_zero, List.getElem?_cons_succ] at p0 p1 p2 q0 r0
  have HP := Lib.hid (And.intro (And.intro hp (And.intro hwu hwv)) (And.intro hg (two_ok hu hv)))
  clear hp hwu hwv hg hu hv
  go_enter Tryz.func175, Tryz.ntmps175
  go_wp2_with fail
  go_region_held3 (fun w' => w'.cell? ⟨pb, 0, none⟩ = some (.int .i64 a) ∧ w'.cell? ⟨pb, 1, none⟩ = some (.int .i64 b) ∧ w'.cell? ⟨pb, 2, none⟩ = some (.int .i64 c) ∧ w'.cell? ⟨ub, 0, none⟩ = some (.string u) ∧ w'.cell? ⟨vb, 0, none⟩ = some (.string v))
    (first | (with_reducible assumption) | exact ⟨kp.1, kp.2.1, kp.2.2, kq, kr⟩ | (go_keep; done))
    (first
      | (go_at_call 142; (with_reducible refine (given_one HP.out.2.1 2 [u, v] [.string u, .string v] rfl rfl (by omega) HP.out.2.2 w).mono ?_); rintro e w1 ⟨ob, rfl, hob, hv, hz1⟩; have kp := (keptO HP.out.1.1 hz1); have kq := keptS HP.out.1.2.1 hz1; have kr := keptS HP.out.1.2.2 hz1; have HW1 := Lib.hid (And.intro hob (And.intro (And.intro hv hv) hz1)); clear hob hv hz1)
      | (go_at_call 142; (with_reducible refine (given_two HP.out.2.1 2 [u, v] [u, v] [.string u, .string v] [.string u, .string v] rfl rfl rfl (by omega) HP.out.2.2 w).mono ?_); rintro e w1 ⟨ob, rfl, hob, hv, hz1⟩; have kp := (keptO HP.out.1.1 hz1); have kq := keptS HP.out.1.2.1 hz1; have kr := keptS HP.out.1.2.2 hz1; have HW1 := Lib.hid (And.intro hob (And.intro hv hz1)); clear hob hv hz1)
      | (go_at_call 142; (with_reducible refine (given_two' HP.out.2.1 2 [u, v] [u, v] [.string u, .string v] [.string u, .string v] rfl rfl rfl (by omega) HP.out.2.2 w).mono ?_); rintro e w1 ⟨ob, rfl, hob, hv, hz1⟩; have kp := (keptO HP.out.1.1 hz1); have kq := keptS HP.out.1.2.1 hz1; have kr := keptS HP.out.1.2.2 hz1; have HW1 := Lib.hid (And.intro hob (And.intro hv hz1)); clear hob hv hz1)
      | (go_at_call 143; (with_reducible refine (product_new HP.out.2.1 2 _ [u, v] [.string u, .string v] rfl rfl (by omega) HP.out.2.2 w1 HW1.out.1).mono ?_); rintro e w2 ⟨mb, rb, pre, l, rfl, h1, h2, h3, h4, h5, h6, h7, h8, h9, hb2⟩; have HW2 := Lib.hid (And.intro (And.intro h1 (And.intro h2 (And.intro h3 (And.intro h4 h5)))) (And.intro (And.intro h6 (And.intro h7 h8)) (And.intro (HW1.out.2.2.trans (hb2.mono HW1.out.2.2.size)) (Nat.le_trans HW1.out.2.2.size h9)))); have kp := (keptO HP.out.1.1 HW2.out.2.2.1); have kq := keptS HP.out.1.2.1 HW2.out.2.2.1; have kr := keptS HP.out.1.2.2 HW2.out.2.2.1; clear h1 h2 h3 h4 h5 h6 h7 h8 h9 hb2)
      | (go_at_call 143; (with_reducible refine (product_ok HP.out.2.1 2 _ _ [u, v] rfl (by omega) HP.out.2.2 w1 HW1.out.1 HW1.out.2.1.1).mono ?_); rintro e w2 ⟨mb, rb, pre, l, rfl, h1, h2, h3, h4, h5, h6, h7, h8, h9, hb2⟩; have HW2 := Lib.hid (And.intro (And.intro h1 (And.intro h2 (And.intro h3 (And.intro h4 h5)))) (And.intro (And.intro h6 (And.intro h7 h8)) (And.intro (HW1.out.2.2.trans (hb2.mono HW1.out.2.2.size)) (Nat.le_trans HW1.out.2.2.size h9)))); have kp := (keptO HP.out.1.1 HW2.out.2.2.1); have kq := keptS HP.out.1.2.1 HW2.out.2.2.1; have kr := keptS HP.out.1.2.2 HW2.out.2.2.1; clear h1 h2 h3 h4 h5 h6 h7 h8 h9 hb2)
      | (go_at_call 143; (with_reducible refine (product_ok HP.out.2.1 2 _ _ [u, v] rfl (by omega) HP.out.2.2 w1 HW1.out.1 HW1.out.2.1.2).mono ?_); rintro e w2 ⟨mb, rb, pre, l, rfl, h1, h2, h3, h4, h5, h6, h7, h8, h9, hb2⟩; have HW2 := Lib.hid (And.intro (And.intro h1 (And.intro h2 (And.intro h3 (And.intro h4 h5)))) (And.intro (And.intro h6 (And.intro h7 h8)) (And.intro (HW1.out.2.2.trans (hb2.mono HW1.out.2.2.size)) (Nat.le_trans HW1.out.2.2.size h9)))); have kp := (keptO HP.out.1.1 HW2.out.2.2.1); have kq := keptS HP.out.1.2.1 HW2.out.2.2.1; have kr := keptS HP.out.1.2.2 HW2.out.2.2.1; clear h1 h2 h3 h4 h5 h6 h7 h8 h9 hb2)
      | (go_at_call 144; (with_reducible refine (normal_ok HP.out.2.1 _ _ [u, v] _ HW2.out.1.1 HW2.out.1.2.1 HW2.out.1.2.2.1 HW2.out.1.2.2.2.1 HW2.out.1.2.2.2.2 HW2.out.2.1.1 HW2.out.2.1.2.1 HW2.out.2.1.2.2).mono ?_); rintro e w3 ⟨rfl, hgr⟩; have HW3 := Lib.hid (below_only HW2.out.2.2.1 hgr HW2.out.2.2.2 HW2.out.2.2.1.size); have kp := (keptO HP.out.1.1 HW3.out); have kq := keptS HP.out.1.2.1 HW3.out; have kr := keptS HP.out.1.2.2 HW3.out; clear hgr))
  all_goals
    go_wp2_with fail
    go_ret
    exact ⟨rfl, HW3.out⟩

/-- the greatest order -/
def mostS (a b c : Nat) : Int := if (c : Int) > (if (b : Int) > (if (a : Int) > 2 then (a : Int) else 2) then (b : Int) else (if (a : Int) > 2 then (a : Int) else 2)) then (c : Int) else (if (b : Int) > (if (a : Int) > 2 then (a : Int) else 2) then (b : Int) else (if (a : Int) > 2 then (a : Int) else 2))

theorem mostS_nat {a b c : Nat} (ha : a ≤ 12) (hb : b ≤ 12) (hc : c ≤ 12) : ∃ m : Nat, mostS a b c = (m : Int) ∧ 2 ≤ m ∧ m ≤ 12 := by
  refine ⟨(mostS a b c).toNat, ?_, ?_, ?_⟩ <;> unfold mostS <;> split <;> split <;> split <;> omega

theorem max4_run (a b c : Nat) (w : World) : (Builtin.max_ #[3, 3, 3, 3] 3 #[.int .i64 2, .int .i64 a, .int .i64 b, .int .i64 c]).run Tryz.prog w = .ok (.int .i64 (mostS a b c)) w := by
  simp [Builtin.max_, Builtin.max2, mostS]

theorem below_dN {n : Nat} {A B : World} (h : Below n A B) (k : Nat) : Below n A (B.drewN k) := ⟨h.os, h.tape, h.output, h.size, h.block⟩

/-- a word, n times -/
def rep (s : ByteArray) (n : Nat) : List Nat := (List.replicate n (bytesN s)).flatten
theorem rep_succ (s : ByteArray) (n : Nat) : rep s (n + 1) = bytesN s ++ rep s n := by simp [rep, List.replicate_succ]

/-- what rounds answers -/
def RRound (a b c : Nat) (s : ByteArray) (n : Int) : Prop :=
  (n = 0 ∧ ∀ k : Nat, 1 ≤ k → (k : Int) ≤ mostS a b c → (mk (rep s k) : G (Mo a b c)) ≠ mk []) ∨
  (∃ k : Nat, n = (k : Int) ∧ 1 ≤ k ∧ (k : Int) ≤ mostS a b c ∧ (mk (rep s k) : G (Mo a b c)) = mk [] ∧ ∀ j : Nat, 1 ≤ j → j < k → (mk (rep s j) : G (Mo a b c)) ≠ mk [])

end Go.Proofs.YtcpeeopdaakbaaaGreat
