/- The tile over a side; the first tile; the tile to which a word leads; its normal word. -/
import Derived.Test.YtogchohpnbeldaaGm3
namespace Go.Proofs.Ytogchohpnbeldaa
open Go.RowKit Go.Shelf Cx

theorem count_ok {n : Nat} (h : n ≤ 10000) : (n + 1) * ((n + 1) * (n + 1)) + 1 ≤ 2000000000000 := by
  have h1 : (n + 1) * (n + 1) ≤ 10001 * 10001 := Nat.mul_le_mul (by omega) (by omega)
  have h2 : (n + 1) * ((n + 1) * (n + 1)) ≤ 10001 * (10001 * 10001) := Nat.mul_le_mul (by omega) h1
  omega

theorem lows (a b c : Nat) : Lows (Mo a b c) := fun _ _ h hv hr => red_low h hv hr

theorem Step_all {a b c : Nat} {R : List (G (Mo a b c))} (ha : Lim a) (hb : Lim b) (hc : Lim c) (hR : ∀ t ∈ R, Vc.Wall t) (hRl : R.length ≤ 10000) : ∀ n, PStep (Mo a b c) R a b c n := by
  have hM := Mo_ords ha hb hc
  have hcnt : ∀ ns, Ok (Mo a b c) R ns → ns.length + 1 ≤ 2000000000000 := fun ns h => by
    have h1 := ok_count hM (Rs.cc_ok ha hb hc) hR h
    have h2 := count_ok hRl
    omega
  intro n
  induction n using Nat.strongRecOn with
  | ind n ih =>
    intro ns x s w gb nb cap rest hn hG hok hF hRR hx hs
    by_cases ht : tb (nd ns x) s = -1
    · have hl := ok_len hok hx
      exact step_new ns x s w gb nb cap rest rfl hM (lows a b c) ha hb hc (fun m hm => ih m (by omega)) hcnt hRl hG hok (by rw [hn]; exact hF) hRR hx hs ht (hcnt ns hok) (by omega) (by omega)
    · exact step_known ns x s w gb nb cap rest hG hok hx hs ht

/-- all is known of all tiles that were met -/
def AllF (M : Nat → Nat → Nat) (ns : List Nd) : Prop := ∀ i, i < ns.length → Full M ns i

theorem AllF.ext {M : Nat → Nat → Nat} {b : Nat} {ns ns' : List Nd} (h : AllF M ns) (he : Ext M b ns ns') : AllF M ns' := by
  intro i hi
  by_cases h1 : i < ns.length
  · exact he.full h1 (h i h1)
  · exact (he.new i (by omega) hi).1

/-- Step, where all is known -/
theorem Step_any {a b c : Nat} {R : List (G (Mo a b c))} (ha : Lim a) (hb : Lim b) (hc : Lim c) (hR : ∀ t ∈ R, Vc.Wall t) (hRl : R.length ≤ 10000) (ns : List Nd) (x s : Nat) (w : World) (gb nb cap : Nat) (rest : List Value)
    (hG : GAt w gb nb cap a b c ns rest) (hok : Ok (Mo a b c) R ns) (hF : AllF (Mo a b c) ns) (hRR : ∀ t, eta (El (Mo a b c) ns x * mk [s]) t = true → t ∈ R) (hx : x < ns.length) (hs : s < 3) :
    Calls Try.prog 93 #[.pointer (some ⟨gb, 0, none⟩), .int .i64 (x : Int), .int .i64 (s : Int)] w (fun e w' =>
      ∃ (r : Nat) (ns' : List Nd) (nb' cap' : Nat) (rest' : List Value), e = .returned (.int .i64 (r : Int)) ∧ GAt w' gb nb' cap' a b c ns' rest' ∧ Ok (Mo a b c) R ns' ∧ AllF (Mo a b c) ns' ∧ Ext (Mo a b c) ((nd ns x).len + 1) ns ns' ∧ r < ns'.length ∧ El (Mo a b c) ns' r = El (Mo a b c) ns x * mk [s] ∧
        (nb' = nb ∨ w.heap.size ≤ nb') ∧ But (fun k => k = gb ∨ k = nb ∨ w.heap.size ≤ k) w w') := by
  refine (Step_all ha hb hc hR hRl _ ns x s w gb nb cap rest rfl hG hok (fun i hi _ => hF i hi) hRR hx hs).mono ?_
  rintro e w' ⟨r, ns', nb', cap', rest', rfl, h1, h2, h3, h4, h5, h6, h7⟩
  exact ⟨r, ns', nb', cap', rest', rfl, h1, h2, hF.ext h3, h3, h4, h5, h6, h7⟩

/-- the first tile -/
def nd0 : Nd := ⟨0, [-1, -1, -1], [false, false, false], []⟩

theorem el0 {M : Nat → Nat → Nat} : El M [nd0] 0 = mk [] := rfl

theorem ok0 {M : Nat → Nat → Nat} (R : List (G M)) : Ok M R [nd0] where
  pos := by simp
  first := rfl
  len := fun i hi => by
    obtain rfl : i = 0 := by simpa using hi
    exact ln_one.symm
  wlen := fun i hi => by
    obtain rfl : i = 0 := by simpa using hi
    rfl
  low := fun i hi => by
    obtain rfl : i = 0 := by simpa using hi
    exact fun y hy => by cases hy
  shp := fun i hi => by
    obtain rfl : i = 0 := by simpa using hi
    exact ⟨rfl, rfl⟩
  inj := fun i j hi hj _ => by
    obtain rfl : i = 0 := by simpa using hi
    obtain rfl : j = 0 := by simpa using hj
    rfl
  «to» := fun i hi s hs => by
    obtain rfl : i = 0 := by simpa using hi
    left
    rcases three hs with rfl | rfl | rfl <;> rfl
  sub := fun i hi t ht => by
    obtain rfl : i = 0 := by simpa using hi
    have : eta (mk [] : G M) t = true := ht
    rw [eta_mk] at this
    cases this

theorem allF0 (M : Nat → Nat → Nat) : AllF M [nd0] := by
  intro i hi
  obtain rfl : i = 0 := by simpa using hi
  have hn : ∀ s, ¬ Dr (El M [nd0] 0) s := fun s h => not_ds_nil (M := M) s h
  refine ⟨fun s hs => ⟨fun h => ?_, fun h => absurd h (hn s)⟩, fun s _ h => absurd h (hn s), ?_⟩
  · rcases three hs with rfl | rfl | rfl <;> cases h
  · exact (nf_eq (M := M) Greedy.nil).symm

set_option maxRecDepth 100000 in
set_option maxHeartbeats 1000000 in
theorem NewGraph_any (a b c : Nat) (w : World) :
    Calls Try.prog 61 #[.agg #[.int .i64 a, .int .i64 b, .int .i64 c]] w fun e w' => ∃ gb nb, e = .returned (.pointer (some ⟨gb, 0, none⟩)) ∧ GAt w' gb nb 1 a b c [nd0] [] ∧ w.heap.size ≤ gb ∧ w.heap.size ≤ nb ∧ Below w.heap.size w w' := by
  go_enter Try.func61, Try.ntmps61
  go_wp2_with fail
  go_ret
  refine ⟨w.heap.size + 1 + 1, w.heap.size + 1, rfl, ⟨?_, ?_, ?_, by simp, by simp, by unfold Go.maxLen; omega, by omega⟩, by omega, by omega, (((Below.refl _ w).alloc (Nat.le_refl _) _).alloc (by simp) _).alloc (by simp; omega) _⟩
  · exact SBlk.new' _ 104 [.int .i64 a, .int .i64 b, .int .i64 c, .slice (some ⟨w.heap.size + 1, 0, none⟩) 1 1] (w.heap.size + 1 + 1) (by simp)
  · exact (SBlk.new' _ 101 (nodeC nd0) (w.heap.size + 1) (by simp)).alloc _
  · intro i hi
    obtain rfl : i = 0 := by simpa using hi
    exact ⟨rfl, rfl⟩
end Go.Proofs.Ytogchohpnbeldaa
