/- tiles.Far. -/
import Derived.Test.YtcpeeopdaakbaaaGreatXA
import Derived.Test.YtcpeeopdaakbaaaGreatXjA
import Derived.Test.YtcpeeopdaakbaaaGreatXf
namespace Go.Proofs.YtcpeeopdaakbaaaGreat
open Go.RowKit Go.Shelf Cx

/-- the way from the tile of u to that of v -/
noncomputable def wayS (a b c : Nat) (u v : ByteArray) : List Nat := nf (mk ((bytesN u).reverse ++ bytesN v) : G (Mo a b c))

theorem way_nfW {a b c : Nat} {u : ByteArray} (hu : checkS u = 0) (v : ByteArray) : nfW a b c [str (nfW a b c [turnS u]), v] = wayS a b c u v := by
  have cu := checkS_low hu
  have lt1 : ∀ y ∈ cat [turnS u], y < 3 := by rw [cat_one, turnS_bytes]; intro y hy; exact cu.1 y (by simpa using hy)
  show nf _ = nf _
  rw [cat_two, bytes_nfW lt1, ← mk_mul, nfW_mk, cat_one, turnS_bytes, mk_mul]

theorem back_check {a b c : Nat} {u : ByteArray} (hu : checkS u = 0) : checkS (str (nfW a b c [turnS u])) = 0 := by
  have cu := checkS_low hu
  have lt1 : ∀ y ∈ cat [turnS u], y < 3 := by rw [cat_one, turnS_bytes]; intro y hy; exact cu.1 y (by simpa using hy)
  exact check_str (nfW_low lt1) (by have := nfW_len a b c [turnS u]; rw [cat_one, turnS_bytes, List.length_reverse, bytesN_length] at this; omega)

set_option maxRecDepth 100000 in
set_option maxHeartbeats 1000000 in
theorem far_calls (o1 o2 o3 : Int) (u v B T : ByteArray) (k : Int)
    (h1 : ∀ W, Calls Tryz.prog 120 #[.agg #[.int .i64 o1, .int .i64 o2, .int .i64 o3], .string u] W fun e w' => e = .returned (.tuple #[.string B, .int .i64 0]) ∧ Below W.heap.size W w')
    (h2 : ∀ W, Calls Tryz.prog 121 #[.agg #[.int .i64 o1, .int .i64 o2, .int .i64 o3], .string B, .string v] W fun e w' => e = .returned (.tuple #[.string T, .int .i64 k]) ∧ Below W.heap.size W w') (w : World) :
    Calls Tryz.prog 65 #[.agg #[.int .i64 o1, .int .i64 o2, .int .i64 o3], .string u, .string v] w fun e w' => e = .returned (.tuple #[.int .i64 T.size, .int .i64 k]) ∧ Below w.heap.size w w' := by
  have HA := Lib.hid (And.intro h1 h2)
  clear h1 h2
  go_enter Tryz.func65, Tryz.ntmps65
  go_wp2_with (go_at_call 120; refine (HA.out.1 _).mono ?_; rintro e w1 ⟨rfl, hb1⟩; have hc := (((SBlk.new w 23 [.int .i64 o1, .int .i64 o2, .int .i64 o3])).below hb1 (by simp)); have p0 := hc.cell 0; have p1 := hc.cell 1; have p2 := hc.cell 2; simp only [List.getElem?_cons_zero, List.getElem?_cons_succ] at p0 p1 p2; have HB1 := Lib.hid (below_a1 hb1); clear hb1 hc)
  go_wp2_with (go_at_call 121; refine (HA.out.2 _).mono ?_; rintro e w2 ⟨rfl, hb2⟩; have HB2 := Lib.hid hb2; clear hb2)
  go_ret2
  exact ⟨rfl, HB1.out.trans (HB2.out.mono HB1.out.size)⟩

set_option maxRecDepth 100000 in
set_option maxHeartbeats 1000000 in
theorem far_bad (o1 o2 o3 : Int) (u v : ByteArray) (k : Int) (hk : k ≠ 0)
    (h1 : ∀ W, Calls Tryz.prog 120 #[.agg #[.int .i64 o1, .int .i64 o2, .int .i64 o3], .string u] W fun e w' => e = .returned (.tuple #[.string ⟨#[]⟩, .int .i64 k]) ∧ Below W.heap.size W w') (w : World) :
    Calls Tryz.prog 65 #[.agg #[.int .i64 o1, .int .i64 o2, .int .i64 o3], .string u, .string v] w fun e w' => e = .returned (.tuple #[.int .i64 0, .int .i64 k]) ∧ Below w.heap.size w w' := by
  have HA := Lib.hid h1
  have hk2 : (k == 0) = false := by simp [hk]
  clear h1
  go_enter Tryz.func65, Tryz.ntmps65
  go_wp2_with (go_at_call 120; refine (HA.out _).mono ?_; rintro e w1 ⟨rfl, hb1⟩; have HB1 := Lib.hid (below_a1 hb1); clear hb1)
  go_ret2
  exact ⟨rfl, HB1.out⟩

theorem errs_one (s : ByteArray) : errs [s] = checkS s := by
  show (if checkS s = 0 then _ else _) = _
  split
  · rename_i h; rw [h]; rfl
  · rfl

/-- Far answers the way's length, where the orders and both words are allowed -/
theorem Far_ok (a b c : Nat) (u v : ByteArray) (hg : Good a b c) (hu : checkS u = 0) (hv : checkS v = 0) (w : World) :
    Calls Tryz.prog 65 #[.agg #[.int .i64 a, .int .i64 b, .int .i64 c], .string u, .string v] w fun e w' => e = .returned (.tuple #[.int .i64 (wayS a b c u v).length, .int .i64 0]) ∧ Below w.heap.size w w' := by
  have h := far_calls a b c u v (str (nfW a b c [turnS u])) (str (nfW a b c [str (nfW a b c [turnS u]), v])) 0 (fun W => Inverse_ok a b c u hg hu W) (fun W => Times_ok a b c _ v hg (back_check hu) hv W) w
  rw [str_size, way_nfW hu] at h
  exact h

theorem errorsS_two (a b c : Int) (u v : ByteArray) : errorsS a b c [u, v] = if errorsS a b c [u] = 0 then (if checkS v = 0 then 0 else checkS v) else errorsS a b c [u] := by
  unfold errorsS
  have e : errs [u, v] = if checkS u = 0 then errs [v] else checkS u := rfl
  rw [e, errs_one, errs_one]
  by_cases h : allowedS a b c = 0
  · simp only [h, if_true]
    by_cases h2 : checkS u = 0
    · by_cases h3 : checkS v = 0
      · simp [h2, h3]
      · simp [h2, h3]
    · simp [h2]
  · simp [h]

/-- Far answers the error, where there is one -/
theorem Far_err (a b c : Int) (u v : ByteArray) (hs : ∀ x ∈ ([u, v] : List ByteArray), x.size ≤ 9223372036854775807) (he : errorsS a b c [u, v] ≠ 0) (w : World) :
    Calls Tryz.prog 65 #[.agg #[.int .i64 a, .int .i64 b, .int .i64 c], .string u, .string v] w fun e w' => e = .returned (.tuple #[.int .i64 0, .int .i64 (errorsS a b c [u, v])]) ∧ Below w.heap.size w w' := by
  by_cases h1 : errorsS a b c [u] = 0
  · have hal : allowedS a b c = 0 := by
      unfold errorsS at h1
      by_cases h : allowedS a b c = 0
      · exact h
      · simp [h] at h1
    have hu : checkS u = 0 := by
      unfold errorsS at h1
      rw [if_pos hal, errs_one] at h1
      exact h1
    obtain ⟨hg, ea, eb, ec⟩ := allowed_good hal
    generalize a.toNat = n1 at hg ea
    generalize b.toNat = n2 at hg eb
    generalize c.toNat = n3 at hg ec
    subst ea eb ec
    have e2 : errorsS n1 n2 n3 [u, v] = errorsS n1 n2 n3 [str (nfW n1 n2 n3 [turnS u]), v] := by
      have hb := back_check (a := n1) (b := n2) (c := n3) hu
      unfold errorsS
      rw [if_pos hal, if_pos hal]
      show (if checkS u = 0 then _ else _) = (if checkS _ = 0 then _ else _)
      rw [if_pos hu, if_pos hb]
    rw [e2]
    refine far_calls n1 n2 n3 u v (str (nfW n1 n2 n3 [turnS u])) ⟨#[]⟩ _ (fun W => Inverse_ok n1 n2 n3 u hg hu W) (fun W => Times_err n1 n2 n3 _ v ?_ (e2 ▸ he) W) w
    intro x hx
    rcases List.mem_cons.1 hx with rfl | hx
    · have := (checkS_low (back_check (a := n1) (b := n2) (c := n3) hu)).2
      omega
    · exact hs x (List.mem_cons_of_mem _ hx)
  · have e : errorsS a b c [u, v] = errorsS a b c [u] := by rw [errorsS_two, if_neg h1]
    rw [e]
    exact far_bad a b c u v _ h1 (fun W => Inverse_err a b c u (fun x hx => hs x (by rw [List.mem_singleton.1 hx]; exact List.mem_cons_self)) h1 W) w
end Go.Proofs.YtcpeeopdaakbaaaGreat
