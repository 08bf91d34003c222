/- The fraction of the series, reckoned. -/
import Derived.Test.YtcpeeopdaakbaaaGreatTg1
import Derived.Test.YtcpeeopdaakbaaaGreatRvA
import Derived.Test.YtcpeeopdaakbaaaGreatTh1
namespace Go.Proofs.YtcpeeopdaakbaaaGreat

/-- one more summand -/
def serStep (wr : Int → Int) (f : List Int × List Int) (m : Nat) : List Int × List Int :=
  if m = 0 then f else (plusN wr f.1 f.2 [1] (prodS wr [1, 1] (List.replicate m 1) 2), plusD wr f.2 (prodS wr [1, 1] (List.replicate m 1) 2))
/-- 1 / f(1/t) behind k orders -/
def serS (wr : Int → Int) (x : Int) (l : List Nat) : Nat → List Int × List Int
  | 0 => (plusN wr [1] [1] [x] [1, 1], plusD wr [1] [1, 1])
  | k + 1 => serStep wr (serS wr x l k) (l.getD k 0)

theorem serS_len (wr : Int → Int) (x : Int) (l : List Nat) (hl : ∀ k, l.getD k 0 ≤ 12) : ∀ k, 0 < (serS wr x l k).1.length ∧ 0 < (serS wr x l k).2.length ∧ (serS wr x l k).1.length ≤ 2 + 12 * k ∧ (serS wr x l k).2.length ≤ 2 + 12 * k
  | 0 => by
    show 0 < (plusN wr [1] [1] [x] [1, 1]).length ∧ 0 < (plusD wr [1] [1, 1]).length ∧ (plusN wr [1] [1] [x] [1, 1]).length ≤ _ ∧ (plusD wr [1] [1, 1]).length ≤ _
    rw [plusN_length, plusD_length]
    simp
  | k + 1 => by
    have ih := serS_len wr x l hl k
    have hm := hl k
    show 0 < (serStep wr (serS wr x l k) (l.getD k 0)).1.length ∧ 0 < (serStep wr (serS wr x l k) (l.getD k 0)).2.length ∧ (serStep wr (serS wr x l k) (l.getD k 0)).1.length ≤ _ ∧ (serStep wr (serS wr x l k) (l.getD k 0)).2.length ≤ _
    generalize l.getD k 0 = m at hm
    unfold serStep
    split
    · omega
    · show 0 < (plusN wr _ _ _ _).length ∧ 0 < (plusD wr _ _).length ∧ (plusN wr _ _ _ _).length ≤ _ ∧ (plusD wr _ _).length ≤ _
      rw [plusN_length, plusD_length, prodS_length, List.length_replicate]
      simp only [List.length_cons, List.length_nil]
      omega

end Go.Proofs.YtcpeeopdaakbaaaGreat
