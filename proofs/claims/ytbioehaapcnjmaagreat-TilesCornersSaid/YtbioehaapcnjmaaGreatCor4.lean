/- A corner that is asked for: the errors. -/
import Derived.Test.YtbioehaapcnjmaaGreatWeB
import Derived.Test.YtbioehaapcnjmaaGreatXjA
import Derived.Test.YtbioehaapcnjmaaGreatCor1
namespace Go.Proofs.YtbioehaapcnjmaaGreat
open Go.RowKit Go.Shelf Cx

/-- the error of a corner -/
def askS (a b c : Int) (s : ByteArray) (m : Int) : Int := if errorsS a b c [s] = 0 then (if m < 0 ∨ 2 < m then 1 else if ordC a.toNat b.toNat c.toNat m.toNat = 0 then 4 else 0) else errorsS a b c [s]

set_option maxRecDepth 100000 in
set_option maxHeartbeats 1000000 in
theorem Asked_any (a b c : Int) (s : ByteArray) (m : Int) (hs : s.size ≤ 9223372036854775807) (w : World) :
    Calls Tryz.prog 5 #[.agg #[.int .i64 a, .int .i64 b, .int .i64 c], .string s, .int .i64 m] w fun e w' => e = .returned (.int .i64 (askS a b c s m)) ∧ Below w.heap.size w w' := by
  have HE := Lib.hid (fun (vb : Nat) (W : World) (h : SBlk W vb 9 [.string s]) => Errors_any a b c vb [s] W h (by simp) (fun t ht => by rw [List.mem_singleton.1 ht]; exact hs))
  have HZero := Lib.hid (fun h : errorsS a b c [s] = 0 => errorsS_zero h)
  unfold askS
  generalize errorsS a b c [s] = er at *
  have hb0 := (Below.refl w.heap.size w).alloc (Nat.le_refl _) (.cells #[.int .i64 a, .int .i64 b, .int .i64 c] 23)
  have HB0 := Lib.hid (And.intro ((SBlk.new w 23 [.int .i64 a, .int .i64 b, .int .i64 c]).alloc (.cells #[.string s] 9)) (hb0.alloc hb0.size (.cells #[.string s] 9)))
  clear hb0 hs
  rcases Decidable.em (¬ er = 0) with her | her
  · rw [if_neg her]
    have her2 : (er != 0) = true := by simpa using her
    clear her HZero
    go_enter Tryz.func5, Tryz.ntmps5
    go_wp2_with fail
    refine (HE.out _ _ (SBlk.new' _ _ [.string s] _ (by simp))).mono ?_
    rintro e W1 ⟨rfl, hb⟩
    have HB1 := Lib.hid (HB0.out.2.trans (hb.mono HB0.out.2.size))
    clear hb
    go_wp2_with fail
    go_ret
    exact ⟨rfl, HB1.out⟩
  have her := Decidable.of_not_not her
  subst her
  rw [if_pos rfl]
  obtain ⟨h1, -⟩ := HZero.out rfl
  obtain ⟨hg, ea, eb, ec⟩ := allowed_good h1
  clear h1 HZero
  generalize a.toNat = a' at *
  generalize b.toNat = b' at *
  generalize c.toNat = c' at *
  subst ea eb ec
  rcases Decidable.em (m < 0) with hm | hm
  · rw [if_pos (.inl hm)]
    go_enter Tryz.func5, Tryz.ntmps5
    go_wp2_with fail
    refine (HE.out _ _ (SBlk.new' _ _ [.string s] _ (by simp))).mono ?_
    rintro e W1 ⟨rfl, hb⟩
    have HB1 := Lib.hid (HB0.out.2.trans (hb.mono HB0.out.2.size))
    clear hb
    go_wp2_with fail
    go_ret
    exact ⟨rfl, HB1.out⟩
  have hm1 : decide (m < 0) = false := decide_eq_false hm
  rcases Decidable.em (2 < m) with hm2 | hm2
  · rw [if_pos (.inr hm2)]
    clear hm
    go_enter Tryz.func5, Tryz.ntmps5
    go_wp2_with fail
    refine (HE.out _ _ (SBlk.new' _ _ [.string s] _ (by simp))).mono ?_
    rintro e W1 ⟨rfl, hb⟩
    have HB1 := Lib.hid (HB0.out.2.trans (hb.mono HB0.out.2.size))
    clear hb
    go_wp2_with fail
    go_ret
    exact ⟨rfl, HB1.out⟩
  have hm3 : decide (2 < m) = false := decide_eq_false hm2
  rw [if_neg (by omega)]
  obtain ⟨m', rfl⟩ : ∃ k : Nat, m = (k : Int) := ⟨m.toNat, by omega⟩
  rw [Int.toNat_natCast]
  have HO := Lib.hid (fun W => Order_R a' b' c' m' (by omega) W)
  generalize ordC a' b' c' m' = o at *
  have hm1 : ¬ ((m' : Int) < 0) := hm
  have hm3 : ¬ (2 < m') := by omega
  have hm4 : ¬ (2 < (m' : Int)) := hm2
  clear hg
  go_enter Tryz.func5, Tryz.ntmps5
  go_wp2_with fail
  refine (HE.out _ _ (SBlk.new' _ _ [.string s] _ (by simp))).mono ?_
  rintro e W1 ⟨rfl, hb⟩
  have hk := kept3 HB0.out.1 hb
  have HB1 := Lib.hid (HB0.out.2.trans (hb.mono HB0.out.2.size))
  have x0 := hk.2.1
  have x1 := hk.2.2.1
  have x2 := hk.2.2.2
  clear hb hk
  go_wp2_with fail
  refine (HO.out _).mono ?_
  rintro e W2 ⟨rfl, hb⟩
  have HB2 := Lib.hid (HB1.out.trans (hb.mono HB1.out.size))
  clear hb x0 x1 x2
  by_cases ho : o = 0
  · subst ho
    go_wp2_with fail
    go_ret
    exact ⟨rfl, HB2.out⟩
  · have ho2 : ((o : Int) == 0) = false := by simp; omega
    go_wp2_with fail
    go_ret
    exact ⟨rfl, HB2.out⟩
end Go.Proofs.YtbioehaapcnjmaaGreat
