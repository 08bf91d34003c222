/- Normal, Same of orders and words that are allowed. -/
import Derived.Test.YtogchohpnbeldaaYn
namespace Go.Proofs.Ytogchohpnbeldaa
open Go.RowKit Go.Shelf Cx

set_option maxRecDepth 100000 in
set_option maxHeartbeats 1000000 in
theorem Normal_ok (a b c : Nat) (s : ByteArray) (hg : Good a b c) (he : checkS s = 0) (w : World) :
    Calls Try.prog 12 #[.agg #[.int .i64 a, .int .i64 b, .int .i64 c], .string s] w fun e w' => e = .returned (.tuple #[.string (str (nfW a b c [s])), .int .i64 0]) ∧ Below w.heap.size w w' := by
  have hmf := makeFunc_run
  have hat := fun W => attempt_string_ret 36 #[.pointer (some ⟨w.heap.size, 0, none⟩), .pointer (some ⟨w.heap.size + 1, 0, none⟩)] (.string (str (nfW a b c [s]))) W (enters_of Try.func36 (by kernel_rfl) rfl)
  have hcl : ∀ W, Below (w.heap.size + 2) ((w.alloc (.cells #[.int .i64 a, .int .i64 b, .int .i64 c] 23)).alloc (.cells #[.string s] 9)) W → Calls Try.prog 36 #[.pointer (some ⟨w.heap.size, 0, none⟩), .pointer (some ⟨w.heap.size + 1, 0, none⟩)] W fun e w' => e = .returned (.string (str (nfW a b c [s]))) ∧ Below W.heap.size W w' := fun W hW =>
    normal1_ret a b c _ _ s hg he W (((SBlk.new w 23 [.int .i64 a, .int .i64 b, .int .i64 c]).alloc _).below hW (by omega)) ((SBlk.new' _ 9 [.string s] _ (World.size_alloc _ _)).below hW (by omega))
  have HA := Lib.hid (And.intro hat hcl)
  clear hat hcl hg he
  go_enter Try.func12, Try.ntmps12
  go_wp2_with (go_at_call 35; refine (HA.out.1 _ (fun W hW => HA.out.2 W (hW.mono (by simp)))).mono ?_; rintro e w' ⟨rfl, hb⟩; have HB := Lib.hid (below_a2 hb); clear hb)
  go_ret2
  exact ⟨rfl, HB.out⟩

set_option maxRecDepth 100000 in
set_option maxHeartbeats 1000000 in
theorem Same_ok (a b c : Nat) (u v : ByteArray) (hg : Good a b c) (hu : checkS u = 0) (hv : checkS v = 0) (w : World) :
    Calls Try.prog 14 #[.agg #[.int .i64 a, .int .i64 b, .int .i64 c], .string u, .string v] w fun e w' => e = .returned (.tuple #[.bool (eqB (str (nfW a b c [u])) (str (nfW a b c [v]))), .int .i64 0]) ∧ Below w.heap.size w w' := by
  have hmf := makeFunc_run
  have hat := fun W => attempt_bool_ret 41 #[.pointer (some ⟨w.heap.size, 0, none⟩), .pointer (some ⟨w.heap.size + 1, 0, none⟩), .pointer (some ⟨w.heap.size + 2, 0, none⟩)] (.bool (eqB (str (nfW a b c [u])) (str (nfW a b c [v])))) W (enters_of Try.func41 (by kernel_rfl) rfl)
  have hcl : ∀ W, Below (w.heap.size + 3) (((w.alloc (.cells #[.int .i64 a, .int .i64 b, .int .i64 c] 23)).alloc (.cells #[.string u] 9)).alloc (.cells #[.string v] 9)) W → Calls Try.prog 41 #[.pointer (some ⟨w.heap.size, 0, none⟩), .pointer (some ⟨w.heap.size + 1, 0, none⟩), .pointer (some ⟨w.heap.size + 2, 0, none⟩)] W fun e w' => e = .returned (.bool (eqB (str (nfW a b c [u])) (str (nfW a b c [v])))) ∧ Below W.heap.size W w' := fun W hW =>
    same1_ret a b c _ _ _ u v hg hu hv W ((((SBlk.new w 23 [.int .i64 a, .int .i64 b, .int .i64 c]).alloc _).alloc _).below hW (by omega)) (((SBlk.new' _ 9 [.string u] _ (World.size_alloc _ _)).alloc _).below hW (by omega)) ((SBlk.new' _ 9 [.string v] (w.heap.size + 2) (by simp)).below hW (by omega))
  have HA := Lib.hid (And.intro hat hcl)
  generalize eqB (str (nfW a b c [u])) (str (nfW a b c [v])) = r at *
  clear hat hcl hg hu hv
  go_enter Try.func14, Try.ntmps14
  go_wp2_with (go_at_call 40; refine (HA.out.1 _ (fun W hW => HA.out.2 W (hW.mono (by simp)))).mono ?_; rintro e w' ⟨rfl, hb⟩; have HB := Lib.hid (below_a1 (below_a2 hb)); clear hb)
  go_ret2
  exact ⟨rfl, HB.out⟩
end Go.Proofs.Ytogchohpnbeldaa
