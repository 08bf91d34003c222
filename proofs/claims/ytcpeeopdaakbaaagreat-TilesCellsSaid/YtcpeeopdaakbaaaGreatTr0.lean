/- How many words a ring has; their order as strings. -/
import Derived.Test.YtcpeeopdaakbaaaGreatCtA
import Derived.Test.YtcpeeopdaakbaaaGreatCuA
import Derived.Test.YtcpeeopdaakbaaaGreatTorY
import Derived.Test.YtcpeeopdaakbaaaGreatTc1
namespace Go.Proofs.YtcpeeopdaakbaaaGreat
open Go.RowKit Go.Shelf Cx

theorem lows_any {a b c : Nat} : Lows (Mo a b c) := fun _ _ h hv hr => red_low h hv hr
/-- no tile has three sides that lead back -/
theorem no_three {a b c : Nat} (hg : Good a b c) (x : G (Mo a b c)) (hx : Low x) : ¬ (Dr x 0 ∧ Dr x 1 ∧ Dr x 2) := by
  rintro ⟨d0, d1, d2⟩
  have hM := Mo_ords hg.la hg.lb hg.lc
  have hC := Rs.cc_ok hg.la hg.lb hg.lc
  obtain ⟨g, hgs⟩ := Rs.gs_ok hg
  have e : inv x = mk (nf x).reverse := by rw [← inv_mk, mk_nf]
  have hl : ∀ l ∈ (nf x).reverse, l < 3 := fun l h => hx l (List.mem_reverse.1 h)
  have hs := Rs.stands hM hC hgs hl
  unfold Dr at d0 d1 d2
  rw [e] at d0 d1 d2
  have n0 := (Rs.neg_any hM hC Rs.ones_set _ 0 d0).1 (fun h => (Rs.ones_pos h).nn)
  have n1 := (Rs.neg_any hM hC Rs.ones_set _ 1 d1).1 (fun h => (Rs.ones_pos h).nn)
  have n2 := (Rs.neg_any hM hC Rs.ones_set _ 2 d2).1 (fun h => (Rs.ones_pos h).nn)
  have cp : ∀ t, Rs.Pos (fun _ => g t) := fun t => ⟨g t / 2, Rs.half_pos (hgs.pos t), 0, fun n _ => by have := hgs.pos t; show g t / 2 < g t; grind⟩
  have s := ((n0.mul (cp 0) (Rs.set_const (g 0)).bnd).add (n1.mul (cp 1) (Rs.set_const (g 1)).bnd)).add (n2.mul (cp 2) (Rs.set_const (g 2)).bnd)
  refine Rs.Pos.not_nn (f := fun n => - Rs.Lf g (Rs.acts (Rs.cc a b c) (nf x).reverse Rs.ones) n) (hs.congr fun n => by grind) (s.congr fun n => ?_)
  unfold Rs.Lf
  grind
/-- a tile that is not the first has a side that leads back -/
theorem some_back {a b c : Nat} (x : G (Mo a b c)) (hx : Low x) (h : x ≠ mk []) : Dr x 0 ∨ Dr x 1 ∨ Dr x 2 := by
  obtain ⟨s, hd, he⟩ := nf_last h
  have h3 : s < 3 := hx s (by rw [he]; simp)
  have : s = 0 ∨ s = 1 ∨ s = 2 := by omega
  rcases this with rfl | rfl | rfl
  · exact .inl hd
  · exact .inr (.inl hd)
  · exact .inr (.inr hd)
theorem count_all {a b c : Nat} (hg : Good a b c) (n : Nat) : countS a b c n = IntKind.wrap .u64 ((ringS (Mo a b c) n).length : Int) := by
  have hser := all_series (Mo_ords hg.la hg.lb hg.lc) lows_any (no_three hg) (fun x hx h => some_back x hx h)
  have e : Ps.zz [Mo a b c 0 1, Mo a b c 1 2, Mo a b c 0 2] 3 = Ps.zz [a, b, c] 3 := rfl
  rw [e] at hser
  obtain ⟨L, hL, l1, l2, c1, c2⟩ := Ps.ser_co u64_cg (IntKind.wrap .u64 (-3)) (u64_cg _) [a, b, c] 3
  obtain ⟨e, dn, dd, p1, p2, he, hd, q1, q2⟩ := (Ps.part_all wrap_cg a b c).part
  have hz0 : (Ps.zz [a, b, c] 3).1 0 = 1 := by rw [q1, Ps.cv_head, he, hd]; rfl
  have k1 : Ps.Ce 18446744073709551616 (Ps.co (revS (serS (IntKind.wrap .u64) (IntKind.wrap .u64 (-3)) [a, b, c] 3).1)) (Ps.zz [a, b, c] 3).1 := by rw [Ps.revS_co, l1]; exact c1
  have k2 : Ps.Ce 18446744073709551616 (Ps.co (revS (serS (IntKind.wrap .u64) (IntKind.wrap .u64 (-3)) [a, b, c] 3).2)) (Ps.zz [a, b, c] 3).2 := by rw [Ps.revS_co, l2]; exact c2
  have k3 := Ps.coef_co u64_cg hz0 hser k1 k2 (n + 1) n (by omega) (n + 1) (Nat.le_refl _)
  rw [if_pos (by omega)] at k3
  have k4 : fa (Mo a b c) n = ((ringS (Mo a b c) n).length : Int) := by unfold fa; rw [all_eq]
  rw [k4] at k3
  exact Ps.cg_same (k3.trans (u64_cg _).symm) (Ps.inR_coef u64_in _ _ (Ps.inR_start (by decide) (Ps.inR_rev (Ps.inR_ser u64_in (by decide) _ _ 3)) _) _ n) (u64_in _)

theorem less_list : ∀ (u v : List Nat), (∀ y ∈ u, y < 256) → (∀ y ∈ v, y < 256) → Less u v → Go.Op.bytesLess (u.map UInt8.ofNat) (v.map UInt8.ofNat) = true
  | [], _, _, _, h => h.elim
  | _ :: _, [], _, _, h => h.elim
  | a :: u, b :: v, hu, hv, h => by
    have ha := hu a List.mem_cons_self
    have hb := hv b List.mem_cons_self
    show (decide (UInt8.ofNat a < UInt8.ofNat b) || (UInt8.ofNat a == UInt8.ofNat b && Go.Op.bytesLess (u.map UInt8.ofNat) (v.map UInt8.ofNat))) = true
    rcases h with h | ⟨rfl, h⟩
    · have : UInt8.ofNat a < UInt8.ofNat b := by
        rw [UInt8.lt_iff_toNat_lt]
        simp [Nat.mod_eq_of_lt ha, Nat.mod_eq_of_lt hb, h]
      simp [this]
    · rw [less_list u v (fun y hy => hu y (List.mem_cons_of_mem _ hy)) (fun y hy => hv y (List.mem_cons_of_mem _ hy)) h]
      simp
theorem less_str {u v : List Nat} (hu : ∀ y ∈ u, y < 3) (hv : ∀ y ∈ v, y < 3) (h : Less u v) : Go.Op.bytesLess (str u).toList (str v).toList = true := by
  rw [toList_str, toList_str]
  exact less_list u v (fun y hy => by have := hu y hy; omega) (fun y hy => by have := hv y hy; omega) h
end Go.Proofs.YtcpeeopdaakbaaaGreat
