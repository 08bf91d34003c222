/- Stepped, whatever the step. -/
import Derived.Test.YtogchohpnbeldaaZf
namespace Go.Proofs.Ytogchohpnbeldaa
open Go.RowKit Go.Shelf Cx

theorem Stepped_any (a b c : Nat) (hg : Good a b c) (s : ByteArray) (hs : ∀ y ∈ bytesN s, y < 3) (hl : s.size ≤ 60) (K At M : Int) (w : World) :
    Calls Try.prog 22 #[.agg #[.int .i64 a, .int .i64 b, .int .i64 c], .string s, .agg #[.int .i64 K, .int .i64 At, .int .i64 M]] w (RStep a b c s w) := by
  by_cases hout : At < 0 ∨ (s.size : Int) < At ∨ M < 0 ∨ 2 < M
  · exact Stepped_none a b c s hs K At M hout w
  · obtain ⟨n, rfl⟩ : ∃ n : Nat, At = (n : Int) := ⟨At.toNat, by omega⟩
    obtain ⟨m, rfl⟩ : ∃ m : Nat, M = (m : Int) := ⟨M.toNat, by omega⟩
    by_cases k0 : K = 0
    · subst k0; exact Stepped_0 a b c s hs hl n m (by omega) (by omega) w
    · by_cases k1 : K = 1
      · subst k1; exact Stepped_1 a b c s hs hl n m (by omega) (by omega) w
      · by_cases k2 : K = 2
        · subst k2; exact Stepped_2 a b c hg s hs hl n m (by omega) (by omega) w
        · exact Stepped_3 a b c s hs K k0 k1 k2 n m (by omega) (by omega) w
end Go.Proofs.Ytogchohpnbeldaa
