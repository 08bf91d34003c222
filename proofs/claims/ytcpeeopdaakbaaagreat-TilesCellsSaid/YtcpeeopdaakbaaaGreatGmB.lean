/- The tile over a side; the first tile; the tile to which a word leads; its normal word. The tile to which a word leads, by the graph; its normal word. -/
import Derived.Test.YtcpeeopdaakbaaaGreatGm3
namespace Go.Proofs.YtcpeeopdaakbaaaGreat
open Go.RowKit Go.Shelf Cx

theorem count_ok {n : Nat} (h : n ≤ 10000) : (n + 1) * ((n + 1) * (n + 1)) + 1 ≤ 2000000000000 := by
  have h1 : (n + 1) * (n + 1) ≤ 10001 * 10001 := Nat.mul_le_mul (by omega) (by omega)
  have h2 : (n + 1) * ((n + 1) * (n + 1)) ≤ 10001 * (10001 * 10001) := Nat.mul_le_mul (by omega) h1
  omega

theorem walls_cl {M : Nat → Nat → Nat} {R : List (G M)} (y z : G M) (h : ∀ t, eta y t = true → eta z t = true) (hz : Walls R z) : Walls R y := fun t ht => hz t (h t ht)
theorem walls_one {M : Nat → Nat → Nat} {R : List (G M)} : Walls R (mk []) := fun t ht => by
  rw [eta_mk] at ht
  cases ht

theorem lows (a b c : Nat) : Lows (Mo a b c) := fun _ _ h hv hr => red_low h hv hr

theorem Step_all {a b c : Nat} {R : G (Mo a b c) → Prop} (ha : Lim a) (hb : Lim b) (hc : Lim c) (hcl : ∀ y z : G (Mo a b c), (∀ t, eta y t = true → eta z t = true) → R z → R y) (hcnt : ∀ ns, Ok (Mo a b c) R ns → ns.length + 1 ≤ 2000000000000) (hlen : ∀ y, R y → ln y ≤ 10000) : ∀ n, PStep (Mo a b c) R a b c n := by
  have hM := Mo_ords ha hb hc
  intro n
  induction n using Nat.strongRecOn with
  | ind n ih =>
    intro ns x s w gb nb cap rest hn hG hok hF hRR hx hs
    by_cases ht : tb (nd ns x) s = -1
    · have hl := ok_len hlen hok hx
      exact step_new ns x s w gb nb cap rest rfl hM (lows a b c) ha hb hc (fun m hm => ih m (by omega)) hcnt hcl hlen hG hok (by rw [hn]; exact hF) hRR hx hs ht (hcnt ns hok) (by omega) (by omega)
    · exact step_known ns x s w gb nb cap rest hG hok hx hs ht

/-- all is known of all tiles that were met -/
def AllF (M : Nat → Nat → Nat) (ns : List Nd) : Prop := ∀ i, i < ns.length → Full M ns i

theorem AllF.ext {M : Nat → Nat → Nat} {b : Nat} {ns ns' : List Nd} (h : AllF M ns) (he : Ext M b ns ns') : AllF M ns' := by
  intro i hi
  by_cases h1 : i < ns.length
  · exact he.full h1 (h i h1)
  · exact (he.new i (by omega) hi).1

/-- Step, where all is known -/
theorem Step_any {a b c : Nat} {R : G (Mo a b c) → Prop} (ha : Lim a) (hb : Lim b) (hc : Lim c) (hcl : ∀ y z : G (Mo a b c), (∀ t, eta y t = true → eta z t = true) → R z → R y) (hcnt : ∀ ns, Ok (Mo a b c) R ns → ns.length + 1 ≤ 2000000000000) (hlen : ∀ y, R y → ln y ≤ 10000) (ns : List Nd) (x s : Nat) (w : World) (gb nb cap : Nat) (rest : List Value)
    (hG : GAt w gb nb cap a b c ns rest) (hok : Ok (Mo a b c) R ns) (hF : AllF (Mo a b c) ns) (hRR : R (El (Mo a b c) ns x * mk [s])) (hx : x < ns.length) (hs : s < 3) :
    Calls Tryz.prog 86 #[.pointer (some ⟨gb, 0, none⟩), .int .i64 (x : Int), .int .i64 (s : Int)] w (fun e w' =>
      ∃ (r : Nat) (ns' : List Nd) (nb' cap' : Nat) (rest' : List Value), e = .returned (.int .i64 (r : Int)) ∧ GAt w' gb nb' cap' a b c ns' rest' ∧ Ok (Mo a b c) R ns' ∧ AllF (Mo a b c) ns' ∧ Ext (Mo a b c) ((nd ns x).len + 1) ns ns' ∧ r < ns'.length ∧ El (Mo a b c) ns' r = El (Mo a b c) ns x * mk [s] ∧
        (nb' = nb ∨ w.heap.size ≤ nb') ∧ But (fun k => k = gb ∨ k = nb ∨ w.heap.size ≤ k) w w') := by
  refine (Step_all ha hb hc hcl hcnt hlen _ ns x s w gb nb cap rest rfl hG hok (fun i hi _ => hF i hi) hRR hx hs).mono ?_
  rintro e w' ⟨r, ns', nb', cap', rest', rfl, h1, h2, h3, h4, h5, h6, h7⟩
  exact ⟨r, ns', nb', cap', rest', rfl, h1, h2, hF.ext h3, h3, h4, h5, h6, h7⟩

/-- the first tile -/
def nd0 : Nd := ⟨0, [-1, -1, -1], [false, false, false], []⟩

theorem el0 {M : Nat → Nat → Nat} : El M [nd0] 0 = mk [] := rfl

theorem ok0 {M : Nat → Nat → Nat} (R : G M → Prop) (h0 : R (mk [])) : Ok M R [nd0] where
  pos := by simp
  first := rfl
  len := fun i hi => by
    obtain rfl : i = 0 := by simpa using hi
    exact ln_one.symm
  wlen := fun i hi => by
    obtain rfl : i = 0 := by simpa using hi
    rfl
  low := fun i hi => by
    obtain rfl : i = 0 := by simpa using hi
    exact fun y hy => by cases hy
  shp := fun i hi => by
    obtain rfl : i = 0 := by simpa using hi
    exact ⟨rfl, rfl⟩
  inj := fun i j hi hj _ => by
    obtain rfl : i = 0 := by simpa using hi
    obtain rfl : j = 0 := by simpa using hj
    rfl
  «to» := fun i hi s hs => by
    obtain rfl : i = 0 := by simpa using hi
    left
    rcases three hs with rfl | rfl | rfl <;> rfl
  sub := fun i hi => by
    obtain rfl : i = 0 := by simpa using hi
    exact h0

theorem allF0 (M : Nat → Nat → Nat) : AllF M [nd0] := by
  intro i hi
  obtain rfl : i = 0 := by simpa using hi
  have hn : ∀ s, ¬ Dr (El M [nd0] 0) s := fun s h => not_ds_nil (M := M) s h
  refine ⟨fun s hs => ⟨fun h => ?_, fun h => absurd h (hn s)⟩, fun s _ h => absurd h (hn s), ?_⟩
  · rcases three hs with rfl | rfl | rfl <;> cases h
  · exact (nf_eq (M := M) Greedy.nil).symm

set_option maxRecDepth 100000 in
set_option maxHeartbeats 1000000 in
theorem NewGraph_any (a b c : Nat) (w : World) :
    Calls Tryz.prog 108 #[.agg #[.int .i64 a, .int .i64 b, .int .i64 c]] w fun e w' => ∃ gb nb, e = .returned (.pointer (some ⟨gb, 0, none⟩)) ∧ GAt w' gb nb 1 a b c [nd0] [] ∧ w.heap.size ≤ gb ∧ w.heap.size ≤ nb ∧ Below w.heap.size w w' := by
  go_enter Tryz.func108, Tryz.ntmps108
  go_wp2_with fail
  go_ret
  refine ⟨w.heap.size + 1 + 1, w.heap.size + 1, rfl, ⟨?_, ?_, ?_, by simp, by simp, by unfold Go.maxLen; omega, by omega⟩, by omega, by omega, (((Below.refl _ w).alloc (Nat.le_refl _) _).alloc (by simp) _).alloc (by simp; omega) _⟩
  · exact SBlk.new' _ 122 [.int .i64 a, .int .i64 b, .int .i64 c, .slice (some ⟨w.heap.size + 1, 0, none⟩) 1 1] (w.heap.size + 1 + 1) (by simp)
  · exact (SBlk.new' _ 126 (nodeC nd0) (w.heap.size + 1) (by simp)).alloc _
  · intro i hi
    obtain rfl : i = 0 := by simpa using hi
    exact ⟨rfl, rfl⟩
end Go.Proofs.YtcpeeopdaakbaaaGreat

namespace Go.Proofs.YtcpeeopdaakbaaaGreat
open Go.RowKit Go.Shelf Cx


set_option maxRecDepth 100000 in
set_option maxHeartbeats 2000000 in
theorem Walk_any {a b c : Nat} {R : G (Mo a b c) → Prop} (ha : Lim a) (hb : Lim b) (hc : Lim c) (hcl : ∀ y z : G (Mo a b c), (∀ t, eta y t = true → eta z t = true) → R z → R y) (hcnt : ∀ ns, Ok (Mo a b c) R ns → ns.length + 1 ≤ 2000000000000) (hlen : ∀ y, R y → ln y ≤ 10000) (ns : List Nd) (x : Nat) (s : ByteArray) (w : World) (gb nb cap : Nat) (rest : List Value)
    (hG : GAt w gb nb cap a b c ns rest) (hok : Ok (Mo a b c) R ns) (hF : AllF (Mo a b c) ns) (hs : ∀ y ∈ bytesN s, y < 3) (hsz : s.size ≤ 140737488355328) (hRR : ∀ i, i ≤ s.size → R (El (Mo a b c) ns x * mk ((bytesN s).take i))) (hx : x < ns.length) :
    Calls Tryz.prog 30 #[.pointer (some ⟨gb, 0, none⟩), .int .i64 (x : Int), .string s] w (fun e w' =>
      ∃ (r : Nat) (ns' : List Nd) (nb' cap' : Nat) (rest' : List Value), e = .returned (.int .i64 (r : Int)) ∧ GAt w' gb nb' cap' a b c ns' rest' ∧ Ok (Mo a b c) R ns' ∧ AllF (Mo a b c) ns' ∧ Ext (Mo a b c) 20000 ns ns' ∧ r < ns'.length ∧ El (Mo a b c) ns' r = El (Mo a b c) ns x * mk (bytesN s) ∧
        (nb' = nb ∨ w.heap.size ≤ nb') ∧ But (fun k => k = gb ∨ k = nb ∨ w.heap.size ≤ k) w w') := by
  have HG := Lib.hid (And.intro hG (And.intro hok (And.intro hF (And.intro hs hRR))))
  clear hG hok hF hs hRR
  go_enter Tryz.func30, Tryz.ntmps30
  go_wp2_with fail
  go_loopw [1, 7] (fun v i wr => ∃ (k r : Nat) (ns1 : List Nd) (nb1 cap1 : Nat) (rest1 : List Value), k ≤ s.size ∧ i = .int .i64 (k : Int) ∧ v = .int .i64 (r : Int) ∧ GAt wr gb nb1 cap1 a b c ns1 rest1 ∧ Ok (Mo a b c) R ns1 ∧ AllF (Mo a b c) ns1 ∧ Ext (Mo a b c) 20000 ns ns1 ∧ r < ns1.length ∧ El (Mo a b c) ns1 r = El (Mo a b c) ns x * mk ((bytesN s).take k) ∧ (nb1 = nb ∨ w.heap.size ≤ nb1) ∧ But (fun k => k = gb ∨ k = nb ∨ w.heap.size ≤ k) w wr) (fun _ i _ => s.size - (intOf i).toNat)
  case atStart =>
    obtain ⟨hG, hok, hF, hs, hRR⟩ := HG.out
    exact ⟨0, x, ns, nb, cap, rest, Nat.zero_le _, rfl, rfl, hG, hok, hF, Ext.refl _ _, hx, by rw [List.take_zero, mul_one], .inl rfl, But.refl _ _⟩
  case round =>
    obtain ⟨k, r, ns1, nb1, cap1, rest1, hk, rfl, rfl, hS⟩ := hrel
    have HS := Lib.hid hS
    clear hS
    by_cases hlt : k < s.size
    · obtain ⟨hG1, hok1, hF1, hE1, hr1, he1, hnb1, hbut1⟩ := HS.out
      obtain ⟨y, hy⟩ : ∃ y, (s[k]).toNat = y := ⟨_, rfl⟩
      have hget := bytesN_get s hlt
      rw [hy] at hget
      have hy3 : y < 3 := HG.out.2.2.2.1 y (List.mem_of_getElem? hget)
      have htk : (bytesN s).take (k + 1) = (bytesN s).take k ++ [y] := by
        rw [List.take_add_one, hget]; rfl
      have hev : El (Mo a b c) ns1 r * mk [y] = El (Mo a b c) ns x * mk ((bytesN s).take (k + 1)) := by
        rw [he1, htk, ← mk_mul, mul_assoc]
      have hst := fun W (hW : GAt W gb nb1 cap1 a b c ns1 rest1) => Step_any ha hb hc hcl hcnt hlen ns1 r y W gb nb1 cap1 rest1 hW hok1 hF1 (by rw [hev]; exact HG.out.2.2.2.2 (k + 1) (by omega)) hr1 hy3
      have hb20 : (nd ns1 r).len + 1 ≤ 20000 := by have := (ok_len hlen hok1 hr1).1; omega
      have HT := Lib.hid (And.intro hst (And.intro hev hb20))
      clear hG1 hok1 hF1 hE1 he1 hnb1 hbut1 hst hev htk hget hb20
      go_wp2_with (go_at_call 86; (with_reducible refine (HT.out.1 _ HS.out.1).mono ?_); rintro e w' ⟨r2, ns2, nb2, cap2, rest2, rfl, hstep⟩; have HR3 := Lib.hid hstep; clear hstep)
      go_roundw
      case measure => show s.size - (k + 1 : Int).toNat < s.size - (k : Int).toNat; omega
      case rel =>
        obtain ⟨hG1, hok1, hF1, hE1, hr1, he1, hnb1, hbut1⟩ := HS.out
        obtain ⟨b1, b2, b3, b4, b5, b6, b7, b8⟩ := HR3.out
        refine ⟨k + 1, r2, ns2, nb2, cap2, rest2, by omega, by simp, rfl, b1, b2, b3, hE1.trans (b4.more HT.out.2.2) (Nat.le_refl _), b5, by rw [b6]; exact HT.out.2.1, ?_, ?_⟩
        · rcases b7 with h | h
          · rw [h]; exact hnb1
          · right; have := hbut1.size; omega
        · refine hbut1.trans (b8.mono fun q _ hq => ?_)
          rcases hq with h | h | h
          · exact .inl h
          · rw [h]; exact .inr hnb1
          · have := hbut1.size; exact .inr (.inr (by omega))
    · obtain rfl : k = s.size := by omega
      go_wp2_with fail
      go_ret
      obtain ⟨hG1, hok1, hF1, hE1, hr1, he1, hnb1, hbut1⟩ := HS.out
      rw [List.take_of_length_le (by rw [bytesN_length]; exact Nat.le_refl _)] at he1
      exact ⟨r, ns1, nb1, cap1, rest1, rfl, hG1, hok1, hF1, hE1, hr1, he1, hnb1, hbut1⟩

set_option maxRecDepth 100000 in
set_option maxHeartbeats 2000000 in
theorem Word_any {a b c : Nat} (ha : Lim a) (hb : Lim b) (hc : Lim c) (s : ByteArray) (w : World) (hs : ∀ y ∈ bytesN s, y < 3) (hsz : s.size ≤ 10000) :
    Calls Tryz.prog 52 #[.agg #[.int .i64 a, .int .i64 b, .int .i64 c], .string s] w (fun e w' => e = .returned (.string (str (nf (mk (bytesN s) : G (Mo a b c))))) ∧ Below w.heap.size w w') := by
  have hwalls : ∀ t ∈ (refs (bytesN s) : List (G (Mo a b c))), Vc.Wall t := Vc.refs_wall hs
  have hwk := fun W gb nb (hW : GAt W gb nb 1 a b c [nd0] []) => show Calls Tryz.prog 30 #[.pointer (some ⟨gb, 0, none⟩), .int .i64 0, .string s] W _ from Walk_any (R := Walls (refs (bytesN s))) ha hb hc walls_cl (fun ns h => by have h1 := ok_count (Mo_ords ha hb hc) (Rs.cc_ok ha hb hc) hwalls h; have h2 := count_ok (n := (refs (bytesN s) : List (G (Mo a b c))).length) (by rw [refs_length, bytesN_length]; exact hsz); omega) (fun y hy => by have := walls_len hy; rw [refs_length, bytesN_length] at this; omega) [nd0] 0 s W gb nb 1 [] hW (ok0 _ walls_one) (allF0 _) hs (by omega) (fun i hi t ht => by
    rw [el0, one_mul] at ht
    have h1 := eta_refs _ ht
    have h2 : (refs (bytesN s) : List (G (Mo a b c))) = refs ((bytesN s).take i ++ (bytesN s).drop i) := by rw [List.take_append_drop]
    rw [h2, refs_append]
    exact List.mem_append_left _ h1) (by simp)
  have hng := fun W => NewGraph_any a b c W
  have HW := Lib.hid (And.intro hwk hng)
  clear hwk hng hwalls
  go_enter Tryz.func52, Tryz.ntmps52
  go_wp2_with fail
  (with_reducible refine (HW.out.2 _).mono ?_)
  rintro e w1 ⟨gb, nb, rfl, hG, hgb, hnb, hb1⟩
  have HG := Lib.hid (And.intro hG (And.intro hgb (And.intro hnb (below_a1 hb1))))
  clear hG hgb hnb hb1
  go_wp2_with fail
  (with_reducible refine (HW.out.1 _ _ _ HG.out.1).mono ?_)
  rintro e w2 ⟨r, ns1, nb1, cap1, rest1, rfl, hG1, hok1, hF1, hE1, hr1, he1, hnb1, hbut1⟩
  have o0 := hG1.g.cell 3
  simp only [List.getElem?_cons_succ, List.getElem?_cons_zero] at o0
  have o1 := hG1.rword hr1
  have l1 : (0 : Int) ≤ (r : Int) := by omega
  have l2 : (r : Int) < (ns1.length : Int) := by omega
  rw [(hF1 r hr1).word, he1, el0, one_mul] at o1
  have hfin : Below w.heap.size w w2 := by
    obtain ⟨hG, hgb, hnb, hb1⟩ := HG.out
    refine hb1.trans (hbut1.below hb1.size fun k hk => ?_)
    have := hb1.size
    simp at hgb hnb
    rcases hk with h | h | h <;> omega
  have HF := Lib.hid hfin
  clear hG1 hok1 hF1 hE1 he1 hnb1 hbut1 hfin
  go_wp2_with fail
  go_ret
  exact ⟨rfl, HF.out⟩
end Go.Proofs.YtcpeeopdaakbaaaGreat
