/- A graph of the tiles that are near: how many there can be. -/
import Derived.Test.YtcpeeopdaakbaaaGreatGmB
import Derived.Test.YtcpeeopdaakbaaaGreatCe2
namespace Go.Proofs.YtcpeeopdaakbaaaGreat
set_option linter.unusedVariables false
set_option linter.unusedSimpArgs false
set_option linter.unusedSectionVars false
open Go.RowKit Go.Shelf Cx

/-- a tile of at most K letters -/
def Near {M : Nat → Nat → Nat} (K : Nat) : G M → Prop := fun y => ln y ≤ K
theorem near_cl {M : Nat → Nat → Nat} {K : Nat} (y z : G M) (h : ∀ t, eta y t = true → eta z t = true) (hz : Near K z) : Near K y := by
  have h1 := walls_len (R := refs (nf z)) (y := y) (fun t ht => by
    have h2 := h t ht
    rw [← mk_nf z] at h2
    exact eta_refs _ h2)
  rw [refs_length] at h1
  exact Nat.le_trans h1 hz
theorem near_word {a b c : Nat} {R : G (Mo a b c) → Prop} {ns : List Nd} (h : Ok (Mo a b c) R ns) {i : Nat} (hi : i < ns.length) : Low (El (Mo a b c) ns i) := red_low (u := nf (El (Mo a b c) ns i)) (v := (nd ns i).word) (mk_nf _) (h.low i hi) (nf_greedy _).red
theorem tiles_small (M : Nat → Nat → Nat) : ∀ k, 2 * (tilesTo M k).length + 1 ≤ 3 ^ k
  | 0 => by simp [tilesTo]
  | k + 1 => by
    have ih := tiles_small M k
    have h := ring_count M k
    rw [tilesTo_succ, List.length_append, Nat.pow_succ]
    omega
/-- the nodes of a graph are different tiles -/
theorem near_count {a b c K : Nat} {ns : List Nd} (h : Ok (Mo a b c) (Near K) ns) : ns.length ≤ (tilesTo (Mo a b c) (K + 1)).length := by
  have e : ns.length = ((List.range ns.length).map (fun i => nf (El (Mo a b c) ns i))).length := by simp
  rw [e]
  refine nodup_le ?_ ?_
  · refine Vc.nodup_map_on List.nodup_range fun i hi j hj he => ?_
    exact h.inj i j (List.mem_range.1 hi) (List.mem_range.1 hj) (by rw [← mk_nf (El (Mo a b c) ns i), he, mk_nf])
  · intro w hw
    obtain ⟨i, hi, rfl⟩ := List.mem_map.1 hw
    have hi' := List.mem_range.1 hi
    refine tiles_mem.2 ⟨by rw [mk_nf], ?_, near_word h hi'⟩
    have := h.sub i hi'
    unfold Near ln at this
    omega
theorem near_small {a b c K : Nat} (hK : K ≤ 15) {ns : List Nd} (h : Ok (Mo a b c) (Near K) ns) : ns.length + 1 ≤ 2000000000000 := by
  have h1 := near_count h
  have h2 := tiles_small (Mo a b c) (K + 1)
  have h3 : 3 ^ (K + 1) ≤ 3 ^ 16 := Nat.pow_le_pow_right (by omega) (by omega)
  have h4 : (3 : Nat) ^ 16 ≤ 50000000 := by decide
  omega

/-- Step, for tiles of at most 15 letters -/
theorem Step_near {a b c K : Nat} (ha : Lim a) (hb : Lim b) (hc : Lim c) (hK : K ≤ 15) (ns : List Nd) (x s : Nat) (w : World) (gb nb cap : Nat) (rest : List Value)
    (hG : GAt w gb nb cap a b c ns rest) (hok : Ok (Mo a b c) (Near K) ns) (hF : AllF (Mo a b c) ns) (hx : x < ns.length) (hl : (nd ns x).len + 1 ≤ K) (hs : s < 3) :
    Calls Tryz.prog 86 #[.pointer (some ⟨gb, 0, none⟩), .int .i64 (x : Int), .int .i64 (s : Int)] w (fun e w' =>
      ∃ (r : Nat) (ns' : List Nd) (nb' cap' : Nat) (rest' : List Value), e = .returned (.int .i64 (r : Int)) ∧ GAt w' gb nb' cap' a b c ns' rest' ∧ Ok (Mo a b c) (Near K) ns' ∧ AllF (Mo a b c) ns' ∧ Ext (Mo a b c) ((nd ns x).len + 1) ns ns' ∧ r < ns'.length ∧ El (Mo a b c) ns' r = El (Mo a b c) ns x * mk [s] ∧
        (nb' = nb ∨ w.heap.size ≤ nb') ∧ But (fun k => k = gb ∨ k = nb ∨ w.heap.size ≤ k) w w') := by
  refine Step_any ha hb hc near_cl (fun ns h => near_small hK h) (fun y hy => Nat.le_trans hy (by omega)) ns x s w gb nb cap rest hG hok hF ?_ hx hs
  show ln (El (Mo a b c) ns x * mk [s]) ≤ K
  have h1 := hok.len x hx
  by_cases hd : Dr (El (Mo a b c) ns x) s
  · have := ln_down hd; omega
  · have := ln_up hd; omega
end Go.Proofs.YtcpeeopdaakbaaaGreat
