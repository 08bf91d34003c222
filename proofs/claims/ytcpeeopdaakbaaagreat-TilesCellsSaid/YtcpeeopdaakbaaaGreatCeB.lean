/- A graph that has all tiles of the rings: its nodes are these tiles. The reference's graph of the tiles of the rings. The reference counts corners, sides and tiles. -/
import Derived.Test.YtcpeeopdaakbaaaGreatTl1
import Derived.Test.YtcpeeopdaakbaaaGreatCe3
import Derived.Test.YtcpeeopdaakbaaaGreatCor1
namespace Go.Proofs.YtcpeeopdaakbaaaGreat
set_option linter.unusedVariables false
set_option linter.unusedSimpArgs false
set_option linter.unusedSectionVars false
open Go.RowKit Go.Shelf Cx
open Classical

section
variable {a b c : Nat}

/-- all sides of a node lead to nodes -/
def Led (M : Nat → Nat → Nat) (ns : List Nd) (i : Nat) : Prop := ∀ s, s < 3 → ∃ r, r < ns.length ∧ El M ns r = El M ns i * mk [s]
theorem Led.ext {M : Nat → Nat → Nat} {q i : Nat} {ns ns' : List Nd} (he : Ext M q ns ns') (hi : i < ns.length) (h : Led M ns i) : Led M ns' i := fun s hs => by
  obtain ⟨r, hr, e⟩ := h s hs
  exact ⟨r, Nat.lt_of_lt_of_le hr he.size, by rw [he.el hr, he.el hi, e]⟩

/-- a graph of all tiles of at most n letters -/
structure Whole (M : Nat → Nat → Nat) (n : Nat) (ns : List Nd) : Prop where
  full : AllF M ns
  len : ∀ i, i < ns.length → (nd ns i).len = ln (El M ns i)
  low : ∀ i, i < ns.length → Low (El M ns i)
  inj : ∀ i j, i < ns.length → j < ns.length → El M ns i = El M ns j → i = j
  all : ∀ x : G M, Low x → ln x ≤ n → ∃ j, j < ns.length ∧ El M ns j = x

theorem whole_of {n : Nat} {ns : List Nd} (hok : Ok (Mo a b c) (Near (n + 1)) ns) (hF : AllF (Mo a b c) ns) (hd : ∀ i, i < ns.length → (nd ns i).len ≤ n → Led (Mo a b c) ns i) : Whole (Mo a b c) n ns where
  full := hF
  len := hok.len
  low := fun i hi => near_word hok hi
  inj := hok.inj
  all := by
    intro x
    obtain ⟨k, hk⟩ : ∃ k, ln x = k := ⟨_, rfl⟩
    induction k using Nat.strongRecOn generalizing x with
    | ind k ih =>
      intro hx hn
      by_cases h1 : x = mk []
      · exact ⟨0, hok.pos, by rw [hok.first, h1]⟩
      · have key : ∀ s, s < 3 → Dr x s → ∃ j, j < ns.length ∧ El (Mo a b c) ns j = x := fun s hs hD => by
          have hl := ln_down hD
          obtain ⟨j, hj, e⟩ := ih (ln (x * mk [s])) (by omega) (x * mk [s]) rfl (low_mul lows_any hx (fun y hy => by rw [List.mem_singleton.1 hy]; exact hs)) (by omega)
          obtain ⟨r, hr, e2⟩ := hd j hj (by rw [hok.len j hj, e]; omega) s hs
          exact ⟨r, hr, by rw [e2, e, two_let]⟩
        rcases some_back x hx h1 with h | h | h
        · exact key 0 (by omega) h
        · exact key 1 (by omega) h
        · exact key 2 (by omega) h

/-- the normal words of the first nodes of at most n letters -/
noncomputable def wordsTo (M : Nat → Nat → Nat) (ns : List Nd) (n : Nat) : Nat → List (List Nat)
  | 0 => []
  | i + 1 => if (nd ns i).len ≤ n then wordsTo M ns n i ++ [nf (El M ns i)] else wordsTo M ns n i
theorem wordsTo_yes {M : Nat → Nat → Nat} {ns : List Nd} {n i : Nat} (h : (nd ns i).len ≤ n) : wordsTo M ns n (i + 1) = wordsTo M ns n i ++ [nf (El M ns i)] := if_pos h
theorem wordsTo_no {M : Nat → Nat → Nat} {ns : List Nd} {n i : Nat} (h : ¬ (nd ns i).len ≤ n) : wordsTo M ns n (i + 1) = wordsTo M ns n i := if_neg h
theorem wordsTo_length (M : Nat → Nat → Nat) (ns : List Nd) (n : Nat) : ∀ i, (wordsTo M ns n i).length ≤ i
  | 0 => Nat.le_refl _
  | i + 1 => by
    have ih := wordsTo_length M ns n i
    by_cases h : (nd ns i).len ≤ n
    · rw [wordsTo_yes h, List.length_append, List.length_singleton]; omega
    · rw [wordsTo_no h]; omega
theorem wordsTo_mem {M : Nat → Nat → Nat} {ns : List Nd} {n : Nat} {w : List Nat} : ∀ {i}, w ∈ wordsTo M ns n i ↔ ∃ j, j < i ∧ (nd ns j).len ≤ n ∧ w = nf (El M ns j)
  | 0 => by
    constructor
    · intro h; cases h
    · rintro ⟨j, hj, _⟩; omega
  | i + 1 => by
    have ih := @wordsTo_mem M ns n w i
    by_cases h : (nd ns i).len ≤ n
    · rw [wordsTo_yes h, List.mem_append, ih, List.mem_singleton]
      constructor
      · rintro (⟨j, hj, h1, h2⟩ | h2)
        · exact ⟨j, by omega, h1, h2⟩
        · exact ⟨i, by omega, h, h2⟩
      · rintro ⟨j, hj, h1, h2⟩
        rcases Nat.lt_or_ge j i with h3 | h3
        · exact .inl ⟨j, h3, h1, h2⟩
        · obtain rfl : j = i := by omega
          exact .inr h2
    · rw [wordsTo_no h, ih]
      constructor
      · rintro ⟨j, hj, h1⟩; exact ⟨j, by omega, h1⟩
      · rintro ⟨j, hj, h1, h2⟩
        have : j ≠ i := by rintro rfl; exact h h1
        exact ⟨j, by omega, h1, h2⟩
theorem wordsTo_nodup {M : Nat → Nat → Nat} {ns : List Nd} {n : Nat} (hinj : ∀ i j, i < ns.length → j < ns.length → El M ns i = El M ns j → i = j) : ∀ i, i ≤ ns.length → (wordsTo M ns n i).Nodup
  | 0, _ => by simp [wordsTo]
  | i + 1, hi => by
    have ih := wordsTo_nodup (n := n) hinj i (by omega)
    by_cases h : (nd ns i).len ≤ n
    · rw [wordsTo_yes h, List.nodup_append]
      refine ⟨ih, by simp, fun u hu v hv e => ?_⟩
      rw [List.mem_singleton] at hv
      subst e
      obtain ⟨j, hj, _, e2⟩ := wordsTo_mem.1 hu
      have := hinj j i (by omega) (by omega) (by rw [← mk_nf (El M ns j), ← e2, hv, mk_nf])
      omega
    · rw [wordsTo_no h]; exact ih
/-- they are the tiles of the rings -/
theorem words_perm {n : Nat} {ns : List Nd} (h : Whole (Mo a b c) n ns) : List.Perm (wordsTo (Mo a b c) ns n ns.length) (tilesTo (Mo a b c) (n + 1)) := by
  refine (List.perm_ext_iff_of_nodup (wordsTo_nodup h.inj _ (Nat.le_refl _)) (tiles_nodup _ _)).2 fun w => ?_
  rw [wordsTo_mem, tiles_mem]
  constructor
  · rintro ⟨j, hj, h1, rfl⟩
    have h2 := h.len j hj
    unfold ln at h2
    exact ⟨by rw [mk_nf], by omega, h.low j hj⟩
  · rintro ⟨h1, h2, h3⟩
    have hln : ln (mk w : G (Mo a b c)) = w.length := by unfold ln; rw [h1]
    obtain ⟨j, hj, e⟩ := h.all (mk w) (by intro y hy; rw [h1] at hy; exact h3 y hy) (by omega)
    exact ⟨j, hj, by rw [h.len j hj, e]; omega, by rw [e, h1]⟩

/-- the corners whose first tile is a tile, opposite to the first mirrors -/
noncomputable def oN (x : G (Mo a b c)) : Nat → Nat
  | 0 => 0
  | j + 1 => oN x j + if Own a b c x j then 1 else 0
theorem oN_le (x : G (Mo a b c)) : ∀ j, oN x j ≤ j
  | 0 => Nat.le_refl _
  | j + 1 => by
    have := oN_le x j
    show oN x j + (if Own a b c x j then 1 else 0) ≤ j + 1
    split <;> omega
theorem oN_yes {x : G (Mo a b c)} {j : Nat} (h : Own a b c x j) : oN x (j + 1) = oN x j + 1 := by
  show oN x j + (if Own a b c x j then 1 else 0) = _
  rw [if_pos h]
theorem oN_no {x : G (Mo a b c)} {j : Nat} (h : ¬ Own a b c x j) : oN x (j + 1) = oN x j := by
  show oN x j + (if Own a b c x j then 1 else 0) = _
  rw [if_neg h]; rfl
theorem own_count (t : List Nat) : (ownL a b c t).length = oN (mk t : G (Mo a b c)) 3 := by
  have hu : oN (mk t : G (Mo a b c)) 3 = (((0 + if Own a b c (mk t : G (Mo a b c)) 0 then 1 else 0) + if Own a b c (mk t : G (Mo a b c)) 1 then 1 else 0) + if Own a b c (mk t : G (Mo a b c)) 2 then 1 else 0) := rfl
  rw [hu]
  unfold ownL
  simp only [List.filter_cons, List.filter_nil, decide_eq_true_eq]
  by_cases d0 : Own a b c (mk t : G (Mo a b c)) 0 <;> by_cases d1 : Own a b c (mk t : G (Mo a b c)) 1 <;> by_cases d2 : Own a b c (mk t : G (Mo a b c)) 2 <;> simp [d0, d1, d2]
theorem cS_snoc (L : List (List Nat)) (t : List Nat) : cS a b c (L ++ [t]) = cS a b c L + oN (mk t : G (Mo a b c)) 3 := by simp [cS, own_count]
theorem cS_le (L : List (List Nat)) : cS a b c L ≤ 3 * L.length := by
  induction L with
  | nil => simp [cS]
  | cons t L ih =>
    have h1 := oN_le (mk t : G (Mo a b c)) 3
    rw [← own_count] at h1
    unfold cS at ih ⊢
    simp only [List.map_cons, List.sum_cons, List.length_cons]
    omega
theorem cS_perm {L K : List (List Nat)} (h : List.Perm L K) : cS a b c L = cS a b c K := (h.map _).sum_nat
theorem eS_perm {L K : List (List Nat)} (h : List.Perm L K) : eS a b c L = eS a b c K := (h.map _).sum_nat
end
end Go.Proofs.YtcpeeopdaakbaaaGreat

namespace Go.Proofs.YtcpeeopdaakbaaaGreat
set_option linter.unusedVariables false
set_option linter.unusedSimpArgs false
set_option linter.unusedSectionVars false
open Go.RowKit Go.Shelf Cx

theorem near_bound {a b c n : Nat} (hn : n ≤ 14) {ns : List Nd} (h : Ok (Mo a b c) (Near (n + 1)) ns) : ns.length ≤ 50000000 := by
  have h1 := near_count h
  have h2 := tiles_small (Mo a b c) (n + 1 + 1)
  have h3 : 3 ^ (n + 1 + 1) ≤ 3 ^ 16 := Nat.pow_le_pow_right (by omega) (by omega)
  have h4 : (3 : Nat) ^ 16 ≤ 50000000 := by decide
  omega

set_option maxRecDepth 100000 in
set_option maxHeartbeats 4000000 in
theorem Tiles_R {a b c : Nat} (hg : Good a b c) (n : Nat) (hn : n ≤ 14) (w : World) :
    Calls Tryz.prog 72 #[.agg #[.int .i64 a, .int .i64 b, .int .i64 c], .int .i64 n] w fun e w' => ∃ gb nb cap ns rest, e = .returned (.pointer (some ⟨gb, 0, none⟩)) ∧ GAt w' gb nb cap a b c ns rest ∧ Whole (Mo a b c) n ns ∧ ns.length ≤ 50000000 ∧ w.heap.size ≤ gb ∧ w.heap.size ≤ nb ∧ Below w.heap.size w w' := by
  obtain ⟨K, hK⟩ : ∃ K : G (Mo a b c) → Prop, Near (n + 1) = K := ⟨_, rfl⟩
  have hst : ∀ (ns : List Nd) (x s : Nat) (W : World) (gb nb cap : Nat) (rest : List Value), GAt W gb nb cap a b c ns rest → Ok (Mo a b c) K ns → AllF (Mo a b c) ns → x < ns.length → (nd ns x).len ≤ n → s < 3 →
    Calls Tryz.prog 86 #[.pointer (some ⟨gb, 0, none⟩), .int .i64 (x : Int), .int .i64 (s : Int)] W (fun e w' =>
      ∃ (r : Nat) (ns' : List Nd) (nb' cap' : Nat) (rest' : List Value), e = .returned (.int .i64 (r : Int)) ∧ GAt w' gb nb' cap' a b c ns' rest' ∧ Ok (Mo a b c) K ns' ∧ AllF (Mo a b c) ns' ∧ Ext (Mo a b c) ((nd ns x).len + 1) ns ns' ∧ r < ns'.length ∧ El (Mo a b c) ns' r = El (Mo a b c) ns x * mk [s] ∧
        (nb' = nb ∨ W.heap.size ≤ nb') ∧ But (fun k => k = gb ∨ k = nb ∨ W.heap.size ≤ k) W w') := fun ns x s W gb nb cap rest h1 h2 h3 h4 h5 h6 => by
    subst hK
    exact Step_near hg.1 hg.2 hg.3 (by omega) ns x s W gb nb cap rest h1 h2 h3 h4 (by omega) h6
  have hbd : ∀ ns, Ok (Mo a b c) K ns → ns.length ≤ 50000000 := fun ns h => by subst hK; exact near_bound hn h
  have hwh : ∀ ns, Ok (Mo a b c) K ns → AllF (Mo a b c) ns → (∀ i, i < ns.length → (nd ns i).len ≤ n → Led (Mo a b c) ns i) → Whole (Mo a b c) n ns := fun ns h1 h2 h3 => by subst hK; exact whole_of h1 h2 h3
  have hng := fun W => NewGraph_any a b c W
  have hok0 : Ok (Mo a b c) K [nd0] := ok0 _ (by subst hK; show ln (mk []) ≤ n + 1; rw [ln_one]; omega)
  have HC := Lib.hid (And.intro hst (And.intro hbd (And.intro hwh (And.intro hng hok0))))
  clear hst hbd hwh hng hok0 hg hn hK
  have hB0 := Lib.hid ((Below.refl w.heap.size w).alloc (Nat.le_refl _) (.cells #[.int .i64 a, .int .i64 b, .int .i64 c] 23))
  go_enter Tryz.func72, Tryz.ntmps72
  go_wp2_with fail
  refine (HC.out.2.2.2.1 _).mono ?_
  rintro e w1 ⟨gb, nb, rfl, hG, hgb, hnb, hb1⟩
  have HI : Hid (w.heap.size ≤ gb ∧ ∃ ns1 nb1 cap1 rest1, w.heap.size ≤ nb1 ∧ GAt w1 gb nb1 cap1 a b c ns1 rest1 ∧ Ok (Mo a b c) K ns1 ∧ AllF (Mo a b c) ns1 ∧ 0 ≤ ns1.length ∧ (∀ j, j < 0 → (nd ns1 j).len ≤ n → Led (Mo a b c) ns1 j) ∧ Below w.heap.size w w1) := Lib.hid (by
    have := hb1.mono hB0.out.size
    simp at hgb hnb
    exact ⟨by omega, [nd0], nb, 1, [], by omega, hG, HC.out.2.2.2.2, allF0 _, Nat.zero_le _, fun j hj => by omega, hB0.out.trans this⟩)
  clear hG hgb hnb hb1 hB0
  go_wp2_with fail
  go_loopg [6, 7] 50000001 (fun g s6 s7 wr => ∃ (i : Nat), g = 50000001 - i ∧ s6 = .int .i64 (i : Int) ∧ Hid (∃ ns1 nb1 cap1 rest1, w.heap.size ≤ nb1 ∧ GAt wr gb nb1 cap1 a b c ns1 rest1 ∧ Ok (Mo a b c) K ns1 ∧ AllF (Mo a b c) ns1 ∧ i ≤ ns1.length ∧ (∀ j, j < i → (nd ns1 j).len ≤ n → Led (Mo a b c) ns1 j) ∧ Below w.heap.size w wr))
  case atStart => exact ⟨0, rfl, rfl, Lib.hid HI.out.2⟩
  case round =>
    obtain ⟨i, rfl, rfl, HJ⟩ := hrel
    obtain ⟨ns1, nb1, cap1, rest1, hnb1, hG1, hok1, hF1, hi1, hled, hbw⟩ := HJ.out
    have hbnd := HC.out.2.1 ns1 hok1
    have g3 := hG1.g.cell 3
    simp only [List.getElem?_cons_succ, List.getElem?_cons_zero] at g3
    by_cases hlt : i < ns1.length
    · have hlti : (i : Int) < (ns1.length : Int) := by omega
      have cl := hG1.rlen hlt
      have hwi : IntKind.i64.wrap ((i : Int) + 1) = (i : Int) + 1 := IntWalk.i64_in _ (by omega)
      obtain ⟨l, hl⟩ : ∃ l, (nd ns1 i).len = l := ⟨_, rfl⟩
      rw [hl] at cl
      have HL := Lib.hid hl
      have HB := Lib.hid (And.intro hlt hbnd)
      by_cases hle : l ≤ n
      · have d1 : decide ((l : Int) > (n : Int)) = false := by simp; omega
        have d2 : decide (n < l) = false := by simp; omega
        have HS : Hid (∃ ns2 nb2 cap2 rest2, w.heap.size ≤ nb2 ∧ GAt wr gb nb2 cap2 a b c ns2 rest2 ∧ Ok (Mo a b c) K ns2 ∧ AllF (Mo a b c) ns2 ∧ i < ns2.length ∧ (nd ns2 i).len ≤ n ∧ (∀ j, j < i → (nd ns2 j).len ≤ n → Led (Mo a b c) ns2 j) ∧ (∀ q, q < 0 → ∃ r, r < ns2.length ∧ El (Mo a b c) ns2 r = El (Mo a b c) ns2 i * mk [q]) ∧ Below w.heap.size w wr) := Lib.hid ⟨ns1, nb1, cap1, rest1, hnb1, hG1, hok1, hF1, hlt, by omega, hled, fun q hq => by omega, hbw⟩
        clear hG1 hok1 hF1 hi1 hled hbw hbnd hnb1 hl
        go_wp2_with fail
        clear g3 cl d1 d2 hlti
        go_loopg [7] 3 (fun g s7 wi => ∃ (s : Nat), s ≤ 3 ∧ g = 3 - s ∧ s7 = .int .i64 (s : Int) ∧ Hid (∃ ns2 nb2 cap2 rest2, w.heap.size ≤ nb2 ∧ GAt wi gb nb2 cap2 a b c ns2 rest2 ∧ Ok (Mo a b c) K ns2 ∧ AllF (Mo a b c) ns2 ∧ i < ns2.length ∧ (nd ns2 i).len ≤ n ∧ (∀ j, j < i → (nd ns2 j).len ≤ n → Led (Mo a b c) ns2 j) ∧ (∀ q, q < s → ∃ r, r < ns2.length ∧ El (Mo a b c) ns2 r = El (Mo a b c) ns2 i * mk [q]) ∧ Below w.heap.size w wi))
        case atStart => exact ⟨0, by omega, rfl, rfl, HS⟩
        case round =>
          obtain ⟨s, hs3, rfl, rfl, HT⟩ := hrel
          by_cases hs : s < 3
          · have hsi : (s : Int) < 3 := by omega
            have hws : IntKind.i64.wrap ((s : Int) + 1) = (s : Int) + 1 := IntWalk.i64_in _ (by omega)
            obtain ⟨ns2, nb2, cap2, rest2, k0, k1, k2, k3, k4, k5, k6, k7, k8⟩ := HT.out
            have hcall := HC.out.1 ns2 i s wr gb nb2 cap2 rest2 k1 k2 k3 k4 k5 hs
            have HCa := Lib.hid hcall
            have HQ := Lib.hid (And.intro k0 (And.intro k1 (And.intro k4 (And.intro k5 (And.intro k6 (And.intro k7 k8))))))
            clear k0 k1 k2 k3 k4 k5 k6 k7 k8 hcall HT HS
            go_wp2_with (go_at_call 86; (with_reducible refine HCa.out.mono ?_); rintro e w' ⟨r2, ns3, nb3, cap3, rest3, rfl, hstep⟩; have HR3 := Lib.hid hstep; clear hstep)
            go_roundg (3 - (s + 1))
            case measure => omega
            case rel =>
              obtain ⟨k0, k1, k4, k5, k6, k7, k8⟩ := HQ.out
              obtain ⟨b1, b2, b3, b4, b5, b6, b7, b8⟩ := HR3.out
              refine ⟨s + 1, by omega, rfl, by simp, Lib.hid ⟨ns3, nb3, cap3, rest3, ?_, b1, b2, b3, Nat.lt_of_lt_of_le k4 b4.size, by rw [b4.len i k4]; exact k5, fun j hj hl => ?_, fun q hq => ?_, ?_⟩⟩
              · rcases b7 with h | h
                · rw [h]; exact k0
                · have := k8.size; omega
              · have hjn : j < ns2.length := by omega
                rw [b4.len j hjn] at hl
                exact (k6 j hj hl).ext b4 hjn
              · rcases Nat.lt_or_ge q s with h | h
                · obtain ⟨r, hr, e⟩ := k7 q h
                  exact ⟨r, Nat.lt_of_lt_of_le hr b4.size, by rw [b4.el hr, b4.el k4, e]⟩
                · obtain rfl : q = s := by omega
                  exact ⟨r2, b5, by rw [b6, b4.el k4]⟩
              · refine k8.trans (b8.below k8.size fun k hk => ?_)
                have := HI.out.1
                have := k8.size
                rcases hk with h | h | h <;> omega
          · obtain rfl : s = 3 := by omega
            go_wp2_with fail
            go_roundg (50000001 - (i + 1))
            case measure => have := HB.out; omega
            case rel =>
              obtain ⟨ns2, nb2, cap2, rest2, k0, k1, k2, k3, k4, k5, k6, k7, k8⟩ := HT.out
              refine ⟨i + 1, rfl, by simp, Lib.hid ⟨ns2, nb2, cap2, rest2, k0, k1, k2, k3, k4, fun j hj hl => ?_, k8⟩⟩
              rcases Nat.lt_or_ge j i with h | h
              · exact k6 j h hl
              · obtain rfl : j = i := by omega
                exact k7
      · have d1 : decide ((l : Int) > (n : Int)) = true := by simp; omega
        have d2 : n < l := by omega
        have HN : Hid (∃ ns1 nb1 cap1 rest1, w.heap.size ≤ nb1 ∧ GAt wr gb nb1 cap1 a b c ns1 rest1 ∧ Ok (Mo a b c) K ns1 ∧ AllF (Mo a b c) ns1 ∧ i + 1 ≤ ns1.length ∧ (∀ j, j < i + 1 → (nd ns1 j).len ≤ n → Led (Mo a b c) ns1 j) ∧ Below w.heap.size w wr) := Lib.hid ⟨ns1, nb1, cap1, rest1, hnb1, hG1, hok1, hF1, by omega, fun j hj hl2 => by
          rcases Nat.lt_or_ge j i with h | h
          · exact hled j h hl2
          · obtain rfl : j = i := by omega
            omega, hbw⟩
        clear hG1 hok1 hF1 hi1 hled hbw hbnd hnb1 hl
        go_wp2_with fail
        go_roundg (50000001 - (i + 1))
        case measure => have := HB.out; omega
        case rel =>
          exact ⟨i + 1, rfl, by simp, HN⟩
    · have hlti : ¬ (i : Int) < (ns1.length : Int) := by omega
      have d1 : decide ((i : Int) < (ns1.length : Int)) = false := by simp; omega
      have d2 : ¬ i < ns1.length := hlt
      have HF : Hid (GAt wr gb nb1 cap1 a b c ns1 rest1 ∧ Whole (Mo a b c) n ns1 ∧ ns1.length ≤ 50000000 ∧ w.heap.size ≤ gb ∧ w.heap.size ≤ nb1 ∧ Below w.heap.size w wr) := Lib.hid ⟨hG1, HC.out.2.2.1 ns1 hok1 hF1 (fun j hj hl => hled j (by omega) hl), hbnd, HI.out.1, hnb1, hbw⟩
      clear hG1 hok1 hF1 hi1 hled hbw hbnd hnb1
      go_wp2_with fail
      go_ret
      obtain ⟨h1, h2⟩ := HF.out
      exact ⟨gb, rfl, nb1, cap1, ns1, ⟨rest1, h1⟩, h2⟩
end Go.Proofs.YtcpeeopdaakbaaaGreat

namespace Go.Proofs.YtcpeeopdaakbaaaGreat
set_option linter.unusedVariables false
set_option linter.unusedSimpArgs false
set_option linter.unusedSectionVars false
open Go.RowKit Go.Shelf Cx
open Classical

theorem nodeC_three {x : Nd} (h : x.to.length = 3 ∧ x.down.length = 3) : nodeC x = [.int .i64 x.len, .int .i64 (tb x 0), .int .i64 (tb x 1), .int .i64 (tb x 2), .bool (db x 0), .bool (db x 1), .bool (db x 2), .string (str x.word)] := by
  obtain ⟨l, t, d, wd⟩ := x
  obtain ⟨h1, h2⟩ := h
  match t, h1, d, h2 with
  | [t0, t1, t2], _, [d0, d1, d2], _ => rfl

/-- what one round counts -/
def cutC (o : Nat) (d1 d2 : Bool) : Nat := if o = 0 then 0 else if d1 then 0 else if d2 then 0 else 1
theorem cutC_own {a b c : Nat} {ns : List Nd} {i s : Nat} (hf : Full (Mo a b c) ns i) (hs : s < 3) : oN (El (Mo a b c) ns i) (s + 1) = oN (El (Mo a b c) ns i) s + cutC (ordC a b c s) (db (nd ns i) (sideA s)) (db (nd ns i) (sideB s)) := by
  have h1 := hf.down _ (side_lt hs).1
  have h2 := hf.down _ (side_lt hs).2
  unfold cutC
  by_cases h0 : ordC a b c s = 0
  · rw [if_pos h0, oN_no (fun h => h.1 h0)]; rfl
  · rw [if_neg h0]
    cases e1 : db (nd ns i) (sideA s)
    · cases e2 : db (nd ns i) (sideB s)
      · have hown : Own a b c (El (Mo a b c) ns i) s := ⟨h0, fun h => (by rw [h1.2 h] at e1; cases e1), fun h => (by rw [h2.2 h] at e2; cases e2)⟩
        rw [oN_yes hown]; rfl
      · rw [oN_no (fun h => h.2.2 (h2.1 e2))]; rfl
    · rw [oN_no (fun h => h.2.1 (h1.1 e1))]; rfl
theorem upS_next {a b c : Nat} {ns : List Nd} {i s : Nat} (hf : Full (Mo a b c) ns i) (hs : s < 3) : upS (El (Mo a b c) ns i) (s + 1) = upS (El (Mo a b c) ns i) s + if db (nd ns i) s then 0 else 1 := by
  have h1 := hf.down _ hs
  cases e : db (nd ns i) s
  · rw [upS_no (fun h => by rw [h1.2 h] at e; cases e)]; rfl
  · rw [upS_yes (h1.1 e)]; rfl

set_option maxRecDepth 100000 in
set_option maxHeartbeats 8000000 in
theorem CellsOf_R {a b c : Nat} (hg : Good a b c) (n : Nat) (hn : n ≤ 14) (w : World) :
    Calls Tryz.prog 21 #[.agg #[.int .i64 a, .int .i64 b, .int .i64 c], .int .i64 n] w fun e w' => e = .returned (.agg #[.int .i64 (cS a b c (tilesTo (Mo a b c) (n + 1)) : Nat), .int .i64 (eS a b c (tilesTo (Mo a b c) (n + 1)) : Nat), .int .i64 ((tilesTo (Mo a b c) (n + 1)).length : Nat)]) ∧ Below w.heap.size w w' := by
  have HT := Lib.hid (fun W => Tiles_R hg n hn W)
  have HO := Lib.hid (And.intro (fun s (hs : s < 3) W => Order_R a b c s hs W) (And.intro (fun s (hs : s < 3) W => first_R s hs W) (fun s (hs : s < 3) W => second_R s hs W)))
  have q1 := (SBlk.new w 23 [.int .i64 a, .int .i64 b, .int .i64 c]).alloc (.cells #[.int .i64 0, .int .i64 0, .int .i64 0] 42)
  have q2 := SBlk.new' (w.alloc (.cells #[.int .i64 a, .int .i64 b, .int .i64 c] 23)) 42 [.int .i64 0, .int .i64 0, .int .i64 0] (w.heap.size + 1) (by simp)
  have b1 := (Below.refl w.heap.size w).alloc (Nat.le_refl _) (.cells #[.int .i64 a, .int .i64 b, .int .i64 c] 23)
  have b2 := b1.alloc b1.size (.cells #[.int .i64 0, .int .i64 0, .int .i64 0] 42)
  have HQ := Lib.hid (And.intro q1 (And.intro q2 b2))
  clear q1 q2 b1 b2 hg hn
  go_enter Tryz.func21, Tryz.ntmps21
  go_wp2_with fail
  refine (HT.out _).mono ?_
  rintro e w1 ⟨gb, nb, cap, ns, rest, rfl, hG, hW, hlen, hgb, hnb, hb1⟩
  have hsz : w.heap.size + 2 ≤ w1.heap.size := by have := hb1.size; simp at this; omega
  have r1 := HQ.out.1.below hb1 (by simp; omega)
  have r2 := HQ.out.2.1.below hb1 (by simp)
  have hbw := HQ.out.2.2.trans (hb1.mono HQ.out.2.2.size)
  have HA := Lib.hid (show w.heap.size + 2 ≤ w1.heap.size ∧ SBlk w1 w.heap.size 23 [.int .i64 a, .int .i64 b, .int .i64 c] ∧ SBlk w1 (w.heap.size + 1) 42 [.int .i64 0, .int .i64 0, .int .i64 0] ∧ Below w.heap.size w w1 ∧ GAt w1 gb nb cap a b c ns rest ∧ Whole (Mo a b c) n ns ∧ ns.length ≤ 50000000 from ⟨hsz, r1, r2, hbw, hG, hW, hlen⟩)
  have hc0 := SBlk.new w1 42 [.int .i64 0, .int .i64 0, .int .i64 0]
  have hb0 := (Below.refl w1.heap.size w1).alloc (Nat.le_refl _) (.cells #[.int .i64 0, .int .i64 0, .int .i64 0] 42)
  have H0 := Lib.hid (And.intro hc0 hb0)
  clear hG hW hlen hgb hnb hb1 hsz r1 r2 hbw hc0 hb0 HT HQ
  go_wp2_with fail
  go_loopg [7, 8, 9] (ns.length + 1) (fun g s7 s8 s9 wr => ∃ (i : Nat), i ≤ ns.length ∧ g = ns.length + 1 - i ∧ s7 = .int .i64 (i : Int) ∧ Hid (SBlk wr w1.heap.size 42 [.int .i64 (cS a b c (wordsTo (Mo a b c) ns n i) : Nat), .int .i64 (eS a b c (wordsTo (Mo a b c) ns n i) : Nat), .int .i64 ((wordsTo (Mo a b c) ns n i).length : Nat)] ∧ Below w1.heap.size w1 wr))
  case atStart => exact ⟨0, Nat.zero_le _, rfl, rfl, H0⟩
  case round =>
    obtain ⟨i, hi, rfl, rfl, HJ⟩ := hrel
    have hG := HA.out.2.2.2.2.1.below HJ.out.2 HA.out.2.2.2.2.1.g.lt HA.out.2.2.2.2.1.n.lt
    have g3 := hG.g.cell 3
    simp only [List.getElem?_cons_succ, List.getElem?_cons_zero] at g3
    have hbnd := HA.out.2.2.2.2.2.2
    by_cases hlt : i < ns.length
    · have hlti : (i : Int) < (ns.length : Int) := by omega
      have hwi : IntKind.i64.wrap ((i : Int) + 1) = (i : Int) + 1 := IntWalk.i64_in _ (by omega)
      have hfull := HA.out.2.2.2.2.2.1.full i hlt
      have hnode := nodeC_three (hG.shp i hlt)
      have k0 := hG.cell hlt (j := 0) (by omega)
      have k1 := hG.cell hlt (j := 1) (by omega)
      have k2 := hG.cell hlt (j := 2) (by omega)
      have k3 := hG.cell hlt (j := 3) (by omega)
      have k4 := hG.cell hlt (j := 4) (by omega)
      have k5 := hG.cell hlt (j := 5) (by omega)
      have k6 := hG.cell hlt (j := 6) (by omega)
      have k7 := hG.cell hlt (j := 7) (by omega)
      rw [hnode] at k0 k1 k2 k3 k4 k5 k6 k7
      simp only [List.getElem?_cons_succ, List.getElem?_cons_zero, Nat.add_zero] at k0 k1 k2 k3 k4 k5 k6 k7
      have hcs := cS_le (a := a) (b := b) (c := c) (wordsTo (Mo a b c) ns n i)
      have hes := eS_le a b c (wordsTo (Mo a b c) ns n i)
      have hls := wordsTo_length (Mo a b c) ns n i
      have HB := Lib.hid (And.intro hlt (And.intro hfull (And.intro hbnd (And.intro hcs (And.intro hes hls)))))
      have hlen : (nd ns i).len = ln (El (Mo a b c) ns i) := HA.out.2.2.2.2.2.1.len i hlt
      obtain ⟨l, hl⟩ : ∃ l, (nd ns i).len = l := ⟨_, rfl⟩
      rw [hl] at k0
      have HL := Lib.hid hl
      by_cases hle : l ≤ n
      · have d1 : decide ((l : Int) > (n : Int)) = false := by simp; omega
        have d2 : decide (n < l) = false := by simp; omega
        have hca := HJ.out.1.alloc (.cells #[.int .i64 l, .int .i64 (tb (nd ns i) 0), .int .i64 (tb (nd ns i) 1), .int .i64 (tb (nd ns i) 2), .bool (db (nd ns i) 0), .bool (db (nd ns i) 1), .bool (db (nd ns i) 2), .string (str (nd ns i).word)] 126)
        have c2 := hca.cell 2
        have f2 := hca.frozen 2
        simp only [List.getElem?_cons_succ, List.getElem?_cons_zero] at c2
        have hwl : IntKind.i64.wrap (((wordsTo (Mo a b c) ns n i).length : Int) + 1) = ((wordsTo (Mo a b c) ns n i).length : Int) + 1 := IntWalk.i64_in _ (by omega)
        have hxb := SBlk.new wr 126 [.int .i64 l, .int .i64 (tb (nd ns i) 0), .int .i64 (tb (nd ns i) 1), .int .i64 (tb (nd ns i) 2), .bool (db (nd ns i) 0), .bool (db (nd ns i) 1), .bool (db (nd ns i) 2), .string (str (nd ns i).word)]
        have hab := (Below.refl wr.heap.size wr).alloc (Nat.le_refl _) (.cells #[.int .i64 l, .int .i64 (tb (nd ns i) 0), .int .i64 (tb (nd ns i) 1), .int .i64 (tb (nd ns i) 2), .bool (db (nd ns i) 0), .bool (db (nd ns i) 1), .bool (db (nd ns i) 2), .string (str (nd ns i).word)] 126)
        have HX := Lib.hid (And.intro hxb (And.intro hab hca))
        clear hca hG hbnd hlt hfull hnode hcs hes hls hlen hl hxb hab
        obtain ⟨T0, hT0⟩ : ∃ T0, (wordsTo (Mo a b c) ns n i).length = T0 := ⟨_, rfl⟩
        obtain ⟨C0, hC0⟩ : ∃ C0, cS a b c (wordsTo (Mo a b c) ns n i) = C0 := ⟨_, rfl⟩
        obtain ⟨E0, hE0⟩ : ∃ E0, eS a b c (wordsTo (Mo a b c) ns n i) = E0 := ⟨_, rfl⟩
        rw [hT0] at HX c2 hwl
        rw [hC0, hE0] at HX
        have HT0 := Lib.hid (And.intro hT0 (And.intro hC0 hE0))
        clear hT0 hC0 hE0
        go_wp2_with fail
        have HI : Hid (SBlk ((wr.alloc (.cells #[.int .i64 l, .int .i64 (tb (nd ns i) 0), .int .i64 (tb (nd ns i) 1), .int .i64 (tb (nd ns i) 2), .bool (db (nd ns i) 0), .bool (db (nd ns i) 1), .bool (db (nd ns i) 2), .string (str (nd ns i).word)] 126)).setCell ⟨w1.heap.size, 2, none⟩ (.int .i64 ((T0 : Int) + 1))) w1.heap.size 42 [.int .i64 (C0 + 0 : Nat), .int .i64 (E0 + 0 : Nat), .int .i64 (T0 + 1 : Nat)] ∧
            SBlk ((wr.alloc (.cells #[.int .i64 l, .int .i64 (tb (nd ns i) 0), .int .i64 (tb (nd ns i) 1), .int .i64 (tb (nd ns i) 2), .bool (db (nd ns i) 0), .bool (db (nd ns i) 1), .bool (db (nd ns i) 2), .string (str (nd ns i).word)] 126)).setCell ⟨w1.heap.size, 2, none⟩ (.int .i64 ((T0 : Int) + 1))) wr.heap.size 126 (nodeC (nd ns i)) ∧
            Below w1.heap.size w1 ((wr.alloc (.cells #[.int .i64 l, .int .i64 (tb (nd ns i) 0), .int .i64 (tb (nd ns i) 1), .int .i64 (tb (nd ns i) 2), .bool (db (nd ns i) 0), .bool (db (nd ns i) 1), .bool (db (nd ns i) 2), .string (str (nd ns i).word)] 126)).setCell ⟨w1.heap.size, 2, none⟩ (.int .i64 ((T0 : Int) + 1)))) := Lib.hid (by
          have h1 := HX.out.2.2.set 2 (.int .i64 ((T0 : Int) + 1))
          have hlt1 : w1.heap.size < wr.heap.size := HJ.out.1.lt
          refine ⟨h1, ?_, ((HJ.out.2.trans (HX.out.2.1.mono HJ.out.2.size)).setCell (p := ⟨w1.heap.size, 2, none⟩) (Nat.le_refl _) _)⟩
          have h2 := HX.out.1.far (p := ⟨w1.heap.size, 2, none⟩) (by show wr.heap.size ≠ w1.heap.size; omega) (.int .i64 ((T0 : Int) + 1))
          have h3 := nodeC_three ((HA.out.2.2.2.2.1.below HJ.out.2 HA.out.2.2.2.2.1.g.lt HA.out.2.2.2.2.1.n.lt).shp i HB.out.1)
          rw [HL.out] at h3
          rw [h3]
          exact h2)
        generalize (wr.alloc (.cells #[.int .i64 l, .int .i64 (tb (nd ns i) 0), .int .i64 (tb (nd ns i) 1), .int .i64 (tb (nd ns i) 2), .bool (db (nd ns i) 0), .bool (db (nd ns i) 1), .bool (db (nd ns i) 2), .string (str (nd ns i).word)] 126)).setCell ⟨w1.heap.size, 2, none⟩ (.int .i64 ((T0 : Int) + 1)) = wk at *
        obtain ⟨xb, hxb⟩ : ∃ xb, wr.heap.size = xb := ⟨_, rfl⟩
        rw [hxb] at HI ⊢
        have HXB := Lib.hid (show w1.heap.size < xb by have := HJ.out.1.lt; omega)
        clear c2 f2 hwl HX k0 k1 k2 k3 k4 k5 k6 k7 g3 d1 d2 hxb
        go_loopg [9] 3 (fun g s9 wi => ∃ s : Nat, s ≤ 3 ∧ g = 3 - s ∧ s9 = .int .i64 (s : Int) ∧ Hid (SBlk wi w1.heap.size 42 [.int .i64 (C0 + oN (El (Mo a b c) ns i) s : Nat), .int .i64 (E0 + upS (El (Mo a b c) ns i) s : Nat), .int .i64 (T0 + 1 : Nat)] ∧ SBlk wi xb 126 (nodeC (nd ns i)) ∧ Below w1.heap.size w1 wi))
        case atStart => exact ⟨0, by omega, rfl, rfl, HI⟩
        case round =>
          obtain ⟨s, hs3, rfl, rfl, HK⟩ := hrel
          clear HI
          by_cases hs : s < 3
          · have hsi : (s : Int) < 3 := by omega
            have hws : IntKind.i64.wrap ((s : Int) + 1) = (s : Int) + 1 := IntWalk.i64_in _ (by omega)
            have HN := Lib.hid (And.intro (cutC_own HB.out.2.1 hs) (upS_next HB.out.2.1 hs))
            have hup := upS_le (El (Mo a b c) ns i) s
            have hon := oN_le (El (Mo a b c) ns i) s
            have hsh : (nd ns i).to.length = 3 ∧ (nd ns i).down.length = 3 := HA.out.2.2.2.2.1.shp i HB.out.1
            obtain ⟨C1, hC1⟩ : ∃ C1, C0 + oN (El (Mo a b c) ns i) s = C1 := ⟨_, rfl⟩
            obtain ⟨E1, hE1⟩ : ∃ E1, E0 + upS (El (Mo a b c) ns i) s = E1 := ⟨_, rfl⟩
            rw [hC1, hE1] at HK
            have hbC : C1 ≤ 200000000 := by have := HB.out; have := HT0.out; omega
            have hbE : E1 ≤ 200000000 := by have := HB.out; have := HT0.out; omega
            have hwC : IntKind.i64.wrap ((C1 : Int) + 1) = (C1 : Int) + 1 := IntWalk.i64_in _ (by omega)
            have hwE : IntKind.i64.wrap ((E1 : Int) + 1) = (E1 : Int) + 1 := IntWalk.i64_in _ (by omega)
            have HCE := Lib.hid (And.intro hC1 hE1)
            have ce := HK.out.1.cell 1
            have fe := HK.out.1.frozen 1
            simp only [List.getElem?_cons_succ, List.getElem?_cons_zero] at ce
            have dn : wr.cell? ⟨xb, 4 + s, none⟩ = some (.bool (db (nd ns i) s)) := by rw [HK.out.2.1.cell, nodeC_down hsh hs]
            obtain ⟨d0, hd0⟩ : ∃ d, db (nd ns i) s = d := ⟨_, rfl⟩
            rw [hd0] at dn HN
            have HSH := Lib.hid hsh
            clear hC1 hE1 hbC hbE hup hon hd0 hsh
            go_upto_if 46 with (fail)
            go_cut [] from 47 to 50 (fun wx => Hid (SBlk wx w1.heap.size 42 [.int .i64 (C1 : Nat), .int .i64 (E1 + (if d0 then 0 else 1) : Nat), .int .i64 (T0 + 1 : Nat)] ∧ SBlk wx xb 126 (nodeC (nd ns i)) ∧ Below w1.heap.size w1 wx))
            case first =>
              cases d0
              · go_wp2_with fail
                go_meet
                refine Lib.hid ⟨HK.out.1.set 1 (.int .i64 ((E1 : Int) + 1)), HK.out.2.1.far (p := ⟨w1.heap.size, 1, none⟩) (by show xb ≠ w1.heap.size; have := HXB.out; omega) _, HK.out.2.2.setCell (p := ⟨w1.heap.size, 1, none⟩) (Nat.le_refl _) _⟩
              · go_wp2_with fail
                go_meet
                exact HK
            case rest =>
              clear ce fe dn HK
              have HM := hcut
              clear hcut
              have hO := fun W => HO.out.1 s hs W
              have hp := fun W => HO.out.2.1 s hs W
              have hq := fun W => HO.out.2.2 s hs W
              have c0 := HM.out.1.cell 0
              have f0 := HM.out.1.frozen 0
              simp only [List.getElem?_cons_succ, List.getElem?_cons_zero] at c0
              have ob := HA.out.2.1.below HM.out.2.2 HA.out.2.1.lt
              have hkp : ∀ W, Below wc.heap.size wc W → (W.cell? ⟨w.heap.size, 0, none⟩ = some (.int .i64 a) ∧ W.cell? ⟨w.heap.size, 1, none⟩ = some (.int .i64 b) ∧ W.cell? ⟨w.heap.size, 2, none⟩ = some (.int .i64 c)) ∧ W.cell? ⟨xb, 4 + sideA s, none⟩ = some (.bool (db (nd ns i) (sideA s))) ∧ W.cell? ⟨xb, 4 + sideB s, none⟩ = some (.bool (db (nd ns i) (sideB s))) := fun W hW => by
                have q1 := kept3 ob hW
                have q2 := HM.out.2.1.below hW HM.out.2.1.lt
                exact ⟨q1.2, by rw [q2.cell, nodeC_down HSH.out (side_lt hs).1], by rw [q2.cell, nodeC_down HSH.out (side_lt hs).2]⟩
              have k1 := hkp wc (Below.refl _ _)
              obtain ⟨⟨x0, x1, x2⟩, y0, y1⟩ := k1
              have hpl : (sideA s : Int) < 3 := by have := (side_lt hs).1; omega
              have hql : (sideB s : Int) < 3 := by have := (side_lt hs).2; omega
              obtain ⟨p, hp1⟩ : ∃ p, sideA s = p := ⟨_, rfl⟩
              obtain ⟨q, hq1⟩ : ∃ q, sideB s = q := ⟨_, rfl⟩
              obtain ⟨o, ho1⟩ : ∃ o, ordC a b c s = o := ⟨_, rfl⟩
              rw [hp1] at hkp hp y0 HN hpl
              rw [hq1] at hkp hq y1 HN hql
              rw [ho1] at hO HN
              obtain ⟨d1, hd1⟩ : ∃ d, db (nd ns i) p = d := ⟨_, rfl⟩
              obtain ⟨d2, hd2⟩ : ∃ d, db (nd ns i) q = d := ⟨_, rfl⟩
              rw [hd1] at hkp y0 HN
              rw [hd2] at hkp y1 HN
              have HKP := Lib.hid hkp
              have HC3 := Lib.hid (And.intro hO (And.intro hp hq))
              clear hkp hO hp hq hp1 hq1 ho1 hd1 hd2 ob c0 f0 y0 y1
              go_wp2_with fail
              refine (HC3.out.1 _).mono ?_
              rintro e W1 ⟨rfl, hb⟩
              have kp := HKP.out W1 hb
              obtain ⟨-, y0, y1⟩ := kp
              have c0 := (HM.out.1.below hb HM.out.1.lt).cell 0
              have f0 := (HM.out.1.below hb HM.out.1.lt).frozen 0
              simp only [List.getElem?_cons_succ, List.getElem?_cons_zero] at c0
              have HB1 := Lib.hid hb
              clear hb x0 x1 x2
              by_cases ho : o = 0
              · subst ho
                go_wp2_with fail
                go_roundg (3 - (s + 1))
                case measure => omega
                case rel =>
                  obtain ⟨m1, m2, m3⟩ := HM.out
                  have hE : E0 + upS (El (Mo a b c) ns i) (s + 1) = E1 + (if d0 then 0 else 1) := by rw [HN.out.2, ← HCE.out.2]; omega
                  have hC : C0 + oN (El (Mo a b c) ns i) (s + 1) = C1 + 0 := by rw [HN.out.1, ← HCE.out.1]; unfold cutC; rw [if_pos rfl]; omega
                  refine ⟨s + 1, by omega, rfl, by simp, ?_⟩
                  rw [hE, hC]
                  exact Lib.hid ⟨m1.below HB1.out m1.lt, m2.below HB1.out m2.lt, m3.trans (HB1.out.mono m3.size)⟩
              · have ho1 : ((o : Int) != 0) = true := by simp; omega
                have ho2 : ¬ (o : Int) = 0 := by omega
                cases d1
                · cases d2
                  · go_wp2_with (first | (go_at_call 73; refine (HC3.out.2.1 _).mono ?_; rintro e w2 ⟨rfl, rfl⟩) | (go_at_call 74; refine (HC3.out.2.2 _).mono ?_; rintro e w2 ⟨rfl, rfl⟩))
                    go_roundg (3 - (s + 1))
                    case measure => omega
                    case rel =>
                      obtain ⟨m1, m2, m3⟩ := HM.out
                      have hE : E0 + upS (El (Mo a b c) ns i) (s + 1) = E1 + (if d0 then 0 else 1) := by rw [HN.out.2, ← HCE.out.2]; omega
                      have hC : C0 + oN (El (Mo a b c) ns i) (s + 1) = C1 + 1 := by rw [HN.out.1, ← HCE.out.1]; unfold cutC; rw [if_neg ho]; simp; omega
                      refine ⟨s + 1, by omega, rfl, by simp, ?_⟩
                      rw [hE, hC]
                      exact Lib.hid ⟨(m1.below HB1.out m1.lt).set 0 (.int .i64 ((C1 : Int) + 1)), (m2.below HB1.out m2.lt).far (p := ⟨w1.heap.size, 0, none⟩) (by show xb ≠ w1.heap.size; have := HXB.out; omega) _, (m3.trans (HB1.out.mono m3.size)).setCell (p := ⟨w1.heap.size, 0, none⟩) (Nat.le_refl _) _⟩
                  · go_wp2_with (first | (go_at_call 73; refine (HC3.out.2.1 _).mono ?_; rintro e w2 ⟨rfl, rfl⟩) | (go_at_call 74; refine (HC3.out.2.2 _).mono ?_; rintro e w2 ⟨rfl, rfl⟩))
                    go_roundg (3 - (s + 1))
                    case measure => omega
                    case rel =>
                      obtain ⟨m1, m2, m3⟩ := HM.out
                      have hE : E0 + upS (El (Mo a b c) ns i) (s + 1) = E1 + (if d0 then 0 else 1) := by rw [HN.out.2, ← HCE.out.2]; omega
                      have hC : C0 + oN (El (Mo a b c) ns i) (s + 1) = C1 + 0 := by rw [HN.out.1, ← HCE.out.1]; unfold cutC; rw [if_neg ho]; simp
                      refine ⟨s + 1, by omega, rfl, by simp, ?_⟩
                      rw [hE, hC]
                      exact Lib.hid ⟨m1.below HB1.out m1.lt, m2.below HB1.out m2.lt, m3.trans (HB1.out.mono m3.size)⟩
                · go_wp2_with (first | (go_at_call 73; refine (HC3.out.2.1 _).mono ?_; rintro e w2 ⟨rfl, rfl⟩) | (go_at_call 74; refine (HC3.out.2.2 _).mono ?_; rintro e w2 ⟨rfl, rfl⟩))
                  go_roundg (3 - (s + 1))
                  case measure => omega
                  case rel =>
                    obtain ⟨m1, m2, m3⟩ := HM.out
                    have hE : E0 + upS (El (Mo a b c) ns i) (s + 1) = E1 + (if d0 then 0 else 1) := by rw [HN.out.2, ← HCE.out.2]; omega
                    have hC : C0 + oN (El (Mo a b c) ns i) (s + 1) = C1 + 0 := by rw [HN.out.1, ← HCE.out.1]; unfold cutC; rw [if_neg ho]; simp
                    refine ⟨s + 1, by omega, rfl, by simp, ?_⟩
                    rw [hE, hC]
                    exact Lib.hid ⟨m1.below HB1.out m1.lt, m2.below HB1.out m2.lt, m3.trans (HB1.out.mono m3.size)⟩
          · obtain rfl : s = 3 := by omega
            go_wp2_with fail
            go_roundg (ns.length + 1 - (i + 1))
            case measure => have := HB.out.1; omega
            case rel =>
              refine ⟨i + 1, by have := HB.out.1; omega, rfl, by simp, ?_⟩
              have hle2 : (nd ns i).len ≤ n := by rw [HL.out]; exact hle
              rw [wordsTo_yes hle2, cS_snoc, eS_snoc, List.length_append, List.length_singleton, mk_nf, HT0.out.1, HT0.out.2.1, HT0.out.2.2]
              exact Lib.hid ⟨HK.out.1, HK.out.2.2⟩
      · have d1 : decide ((l : Int) > (n : Int)) = true := by simp; omega
        have d2 : n < l := by omega
        have HN : Hid (wordsTo (Mo a b c) ns n (i + 1) = wordsTo (Mo a b c) ns n i) := Lib.hid (wordsTo_no (by omega))
        clear hG hbnd hlt hfull hnode hcs hes hls hlen hl
        go_wp2_with fail
        go_roundg (ns.length + 1 - (i + 1))
        case measure => have := HB.out.1; omega
        case rel =>
          refine ⟨i + 1, by have := HB.out.1; omega, rfl, by simp, ?_⟩
          rw [HN.out]
          exact Lib.hid ⟨HJ.out.1.alloc _, HJ.out.2.alloc HJ.out.2.size _⟩
    · obtain rfl : i = ns.length := by omega
      have hlti : decide ((ns.length : Int) < (ns.length : Int)) = false := by simp
      have HP := Lib.hid (words_perm HA.out.2.2.2.2.2.1)
      have c0 := HJ.out.1.cell 0
      have c1 := HJ.out.1.cell 1
      have c2 := HJ.out.1.cell 2
      simp only [List.getElem?_cons_succ, List.getElem?_cons_zero] at c0 c1 c2
      rw [cS_perm HP.out] at c0
      rw [eS_perm HP.out] at c1
      rw [HP.out.length_eq] at c2
      have r2 := HA.out.2.2.1.below HJ.out.2 HA.out.2.2.1.lt
      have f0 := r2.frozen 0
      have f1 := r2.frozen 1
      have f2 := r2.frozen 2
      have z0 := r2.cell 0
      have z1 := r2.cell 1
      have z2 := r2.cell 2
      simp only [List.getElem?_cons_succ, List.getElem?_cons_zero] at z0 z1 z2
      have HR := Lib.hid (And.intro r2 (HA.out.2.2.2.1.trans (HJ.out.2.mono HA.out.2.2.2.1.size)))
      clear hG r2 hbnd
      obtain ⟨vC, hvC⟩ : ∃ v, cS a b c (tilesTo (Mo a b c) (n + 1)) = v := ⟨_, rfl⟩
      obtain ⟨vE, hvE⟩ : ∃ v, eS a b c (tilesTo (Mo a b c) (n + 1)) = v := ⟨_, rfl⟩
      obtain ⟨vT, hvT⟩ : ∃ v, (tilesTo (Mo a b c) (n + 1)).length = v := ⟨_, rfl⟩
      rw [hvC] at c0
      rw [hvE] at c1
      rw [hvT] at c2
      have HV := Lib.hid (And.intro hvC (And.intro hvE hvT))
      clear hvC hvE hvT
      go_wp2_with fail
      refine bodyPost_ret (results_cell_row (p := 4) (ty := 42) (by kernel_rfl) _ _ (w.heap.size + 1) 42 _ (0, 0) _ rfl (((HR.out.1.set 0 (.int .i64 vC)).set 1 (.int .i64 vE)).set 2 (.int .i64 vT)) Tryz.underlying42 rfl (by kernel_rfl)) rfl ?_
      obtain ⟨hvC, hvE, hvT⟩ := HV.out
      rw [hvC, hvE, hvT]
      exact ⟨rfl, ((HR.out.2.setCell (p := ⟨w.heap.size + 1, 0, none⟩) (by simp) _).setCell (p := ⟨w.heap.size + 1, 1, none⟩) (by simp) _).setCell (p := ⟨w.heap.size + 1, 2, none⟩) (by simp) _⟩
end Go.Proofs.YtcpeeopdaakbaaaGreat
