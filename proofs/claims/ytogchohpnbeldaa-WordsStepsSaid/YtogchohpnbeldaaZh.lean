/- WordsSteps. -/
import Derived.Test.YtogchohpnbeldaaZg
namespace Go.Proofs.Ytogchohpnbeldaa
open Go.RowKit Go.Shelf Cx

theorem check_of {v : ByteArray} (h : ∀ y ∈ bytesN v, y < 3) (hl : v.size ≤ 60) : checkS v = 0 := by
  have := check_str h (by rw [bytesN_length]; exact hl)
  rw [str_bytes] at this
  exact this

theorem nfW_one (a b c : Nat) (s : ByteArray) : nfW a b c [s] = nf (mk (bytesN s) : G (Mo a b c)) := by
  unfold nfW; simp [cat]

/-- a row of steps in memory -/
def StepsAt (w : World) (p : Option Addr) (len : Nat) : Prop :=
  ∀ i, i < len → ∃ b off, p = some ⟨b, off, none⟩ ∧ b < w.heap.size ∧ ∃ K At M : Int, w.cell? ⟨b, off + i * 3, none⟩ = some (.int .i64 K) ∧ w.cell? ⟨b, off + i * 3 + 1, none⟩ = some (.int .i64 At) ∧ w.cell? ⟨b, off + i * 3 + 2, none⟩ = some (.int .i64 M)

theorem below_cell {B : Nat} {w w' : World} (h : Below B w w') {b o : Nat} (hb : b < B) : w'.cell? ⟨b, o, none⟩ = w.cell? ⟨b, o, none⟩ := by
  unfold World.cell?
  rw [h.block b hb]

set_option maxRecDepth 100000 in
set_option maxHeartbeats 8000000 in
theorem WordsSteps_any (a b c : Int) (s : ByteArray) (p : Option Addr) (len cap : Nat) (hs : s.size ≤ 9223372036854775807) (w : World) (hp : StepsAt w p len) :
    Calls Try.prog 4 #[.agg #[.int .i64 a, .int .i64 b, .int .i64 c], .string s, .slice p len cap] w fun e w' => e = .returned (.bool true) ∧ Below w.heap.size w w' := by
  have HS := Lib.hid sane_any
  have HP := Lib.hid hp
  have HE := Lib.hid (fun (vb : Nat) (W : World) (h : SBlk W vb 9 [.string s]) => Errors_any a b c vb [s] W h (by simp) (fun t ht => by
    simp only [List.mem_cons, List.not_mem_nil, or_false] at ht
    rcases ht with rfl; assumption))
  have HZero := Lib.hid (fun h : errorsS a b c [s] = 0 => errorsS_zero h)
  generalize errorsS a b c [s] = er at *
  clear hp
  go_enter Try.func4, Try.ntmps4
  go_wp2_with fail
  have HZ := Lib.hid ((Below.refl w.heap.size w).alloc (Nat.le_refl _) (.cells #[.int .i64 a, .int .i64 b, .int .i64 c] 23))
  have HK := Lib.hid (SBlk.new w 23 [.int .i64 a, .int .i64 b, .int .i64 c])
  refine (HS.out _).mono ?_
  rintro e W1 ⟨rfl, hb⟩
  have hk := kept3 HK.out hb
  replace HK := Lib.hid hk.1
  have x0 := hk.2.1
  have x1 := hk.2.2.1
  have x2 := hk.2.2.2
  clear hk
  replace HZ := Lib.hid (HZ.out.trans (hb.mono HZ.out.size))
  clear hb
  by_cases hlen : 200 < len
  · go_wp2_with fail
    go_ret
    exact ⟨rfl, HZ.out⟩
  have hlen2 : ¬ (200 : Int) < (len : Int) := by omega
  go_wp2_with fail
  replace HK := Lib.hid (HK.out.alloc (.cells #[.string s] 9))
  have HV := Lib.hid (SBlk.new W1 9 [.string s])
  replace HZ := Lib.hid (HZ.out.alloc HZ.out.size (.cells #[.string s] 9))
  refine (HE.out _ _ HV.out).mono ?_
  rintro e W2 ⟨rfl, hb⟩
  have hk := kept3 HK.out hb
  replace HK := Lib.hid hk.1
  replace x0 := hk.2.1
  replace x1 := hk.2.2.1
  replace x2 := hk.2.2.2
  clear hk
  replace HZ := Lib.hid (HZ.out.trans (hb.mono HZ.out.size))
  clear hb HE HV
  rcases Decidable.em (¬ er = 0) with her | her
  · clear HZero
    have her2 : (er != 0) = true := by simpa using her
    go_wp2_with fail
    go_ret
    exact ⟨rfl, HZ.out⟩
  obtain ⟨h1, h2⟩ := HZero.out (Decidable.of_not_not her)
  clear HZero
  have her := Decidable.of_not_not her
  subst her
  obtain ⟨hg, ea, eb, ec⟩ := allowed_good h1
  clear h1
  generalize a.toNat = a' at *
  generalize b.toNat = b' at *
  generalize c.toNat = c' at *
  subst ea eb ec
  have hcs := h2 s (by simp)
  have HN := Lib.hid (fun W => Normal_ok a' b' c' s hg hcs W)
  have HG := Lib.hid (And.intro hg hcs)
  clear h2 hg hcs her
  obtain ⟨N, hN⟩ : ∃ N, N = str (nfW a' b' c' [s]) := ⟨_, rfl⟩
  rw [← hN] at HN
  have HNe := Lib.hid hN
  clear hN
  go_wp2_with fail
  refine (HN.out _).mono ?_
  rintro e W3 ⟨rfl, hb⟩
  have hk := kept3 HK.out hb
  replace HK := Lib.hid hk.1
  clear hk x0 x1 x2
  replace HZ := Lib.hid (HZ.out.trans (hb.mono HZ.out.size))
  clear hb
  go_wp2_with fail
  go_loopw [1, 9] (fun v i wr => ∃ (k : Nat) (u : ByteArray), k ≤ len ∧ i = .int .i64 (k : Int) ∧ v = .string u ∧ checkS u = 0 ∧ (mk (bytesN u) : G (Mo a' b' c')) = mk (bytesN s) ∧ SBlk wr w.heap.size 23 [.int .i64 a', .int .i64 b', .int .i64 c'] ∧ Below w.heap.size w wr) (fun _ i _ => len - (intOf i).toNat)
  case atStart => exact ⟨0, s, Nat.zero_le _, rfl, rfl, HG.out.2, rfl, HK.out, HZ.out⟩
  case round =>
    obtain ⟨k, u, hk, rfl, rfl, hu, hm, hblk, hbel⟩ := hrel
    have HR := Lib.hid (And.intro (And.intro hu hm) (And.intro hblk hbel))
    clear hu hm hblk hbel
    have y := kept3 HR.out.2.1 (Below.refl _ _)
    obtain ⟨_, y0, y1, y2⟩ := y
    by_cases hkl : k < len
    · obtain ⟨pb, po, rfl, hpb, K, At, M, c0, c1, c2⟩ := HP.out k hkl
      rw [← below_cell HR.out.2.2 hpb] at c0 c1 c2
      have HC := Lib.hid (And.intro hpb (And.intro c0 (And.intro c1 c2)))
      have HSt := Lib.hid (fun W => Stepped_any a' b' c' HG.out.1 u (checkS_low HR.out.1.1).1 (checkS_low HR.out.1.1).2 K At M W)
      have hlt := HR.out.2.1.lt
      have HLt := Lib.hid hlt
      clear hlt hpb
      go_wp2_with fail
      go_region_held3 (fun w' => (w'.cell? ⟨w.heap.size, 0, none⟩ = some (.int .i64 a') ∧ w'.cell? ⟨w.heap.size, 1, none⟩ = some (.int .i64 b') ∧ w'.cell? ⟨w.heap.size, 2, none⟩ = some (.int .i64 c')) ∧ w'.cell? ⟨pb, po + k * 3, none⟩ = some (.int .i64 K) ∧ w'.cell? ⟨pb, po + k * 3 + 1, none⟩ = some (.int .i64 At) ∧ w'.cell? ⟨pb, po + k * 3 + 2, none⟩ = some (.int .i64 M))
        (first | (with_reducible assumption) | exact kp | (go_keep; done))
        (first
          | (go_at_call 22; (with_reducible refine (HSt.out _).mono ?_); rintro e W4 ⟨⟨t, rfl, hst⟩, hb⟩; replace hb := below_undrew hb; have HW4 := Lib.hid (And.intro hst hb); have kp := And.intro (kept3 HR.out.2.1 hb).2 (And.intro ((below_cell hb (Nat.lt_of_lt_of_le HC.out.1 HR.out.2.2.size)).trans HC.out.2.1) (And.intro ((below_cell hb (Nat.lt_of_lt_of_le HC.out.1 HR.out.2.2.size)).trans HC.out.2.2.1) ((below_cell hb (Nat.lt_of_lt_of_le HC.out.1 HR.out.2.2.size)).trans HC.out.2.2.2))); clear hst hb))
      have hsz : checkS t = 0 ∨ ¬ t.size ≤ 60 := by
        by_cases h : t.size ≤ 60
        · exact .inl (check_of HW4.out.1.low h)
        · exact .inr h
      have HW5 := Lib.hid (And.intro (HW4.out.1.same.trans HR.out.1.2) (And.intro (HR.out.2.1.below HW4.out.2 HLt.out) (HR.out.2.2.trans (HW4.out.2.mono HR.out.2.2.size))))
      clear kp c0 c1 c2 y0 y1 y2
      by_cases h60 : t.size ≤ 60
      · have hck := Lib.hid (check_of HW4.out.1.low h60)
        clear hsz
        go_wp2_with fail
        go_roundw
        case measure => simp [intOf]; omega
        case rel => exact ⟨k + 1, t, by omega, by simp, rfl, hck.out, HW5.out⟩
      · clear hsz
        have h61 : decide (t.size ≤ 60) = false := by simpa using h60
        have h62 : ¬ (t.size : Int) ≤ 60 := by omega
        go_wp2_with fail
        go_roundw
        case measure => simp [intOf]; omega
        case rel => exact ⟨k + 1, u, by omega, by simp, rfl, HR.out.1.1, HR.out.1.2, HW5.out.2⟩
    · obtain rfl : k = len := by omega
      have HN2 := Lib.hid (fun W => Normal_ok a' b' c' u HG.out.1 HR.out.1.1 W)
      have hNu : str (nfW a' b' c' [u]) = N := by rw [HNe.out, nfW_one, nfW_one, HR.out.1.2]
      rw [hNu] at HN2
      have hn := nrm (a := a') (b := b') (c := c') HG.out.2
      have HN3 := Lib.hid (fun W => Same_ok a' b' c' N u HG.out.1 (by rw [HNe.out]; exact check_str hn.low (Nat.le_trans hn.len (checkS_low HG.out.2).2)) HR.out.1.1 W)
      rw [hNu, HNe.out, nfW_of hn.greedy hn.low, eqB_iff.2 rfl, ← HNe.out] at HN3
      clear hn hNu
      go_wp2_with fail
      refine (HN2.out _).mono ?_
      rintro e W4 ⟨rfl, hb⟩
      have hk4 := kept3 HR.out.2.1 hb
      have HK4 := Lib.hid hk4.1
      have z0 := hk4.2.1
      have z1 := hk4.2.2.1
      have z2 := hk4.2.2.2
      have HZ4 := Lib.hid (HR.out.2.2.trans (hb.mono HR.out.2.2.size))
      clear hk4 hb y0 y1 y2
      go_wp2_with fail
      refine (HN3.out _).mono ?_
      rintro e W5 ⟨rfl, hb⟩
      have HZ5 := Lib.hid (HZ4.out.trans (hb.mono HZ4.out.size))
      clear hb
      go_wp2_with fail
      go_ret
      exact ⟨rfl, HZ5.out⟩
end Go.Proofs.Ytogchohpnbeldaa
