/- Same: two chains of calls in an open order. -/
import Derived.Test.YtogchohpnbeldaaYm
namespace Go.Proofs.Ytogchohpnbeldaa
open Go.RowKit Go.Shelf Cx

theorem SBlk.ne_ {w : World} {b b' : Nat} {T T' : TypeId} {cs cs' : List Value} (h : SBlk w b T cs) (h' : SBlk w b' T' cs') (hne : T ≠ T') : b ≠ b' := by
  rintro rfl
  unfold SBlk at h h'
  rw [h] at h'
  injection h' with h'
  injection h' with _ ht
  exact hne ht

theorem ne95 : (9 : TypeId) ≠ 5 := by decide

/-- are two strings the same? -/
def eqB (s t : ByteArray) : Bool := s.toList == t.toList

/-- what is known of a product -/
structure MI (a b c ob : Nat) (ws : List ByteArray) (mb rb : Nat) (pre l : List Nat) (W : World) : Prop where
  made : MadeAt W mb ob rb pre l
  ord : SBlk W ob 144 (ordCells a b c)
  red : Red (Mo a b c) l
  same : (mk l : G (Mo a b c)) = mk (cat ws)
  low : ∀ y ∈ l, y < 3
  room : pre.length + l.length ≤ 140737488355328
  mr : mb ≠ rb
  or : ob ≠ rb

theorem MI.below {a b c ob mb rb : Nat} {ws : List ByteArray} {pre l : List Nat} {W W' : World} (h : MI a b c ob ws mb rb pre l W) (hb : Below W.heap.size W W') : MI a b c ob ws mb rb pre l W' :=
  ⟨⟨h.made.m.below hb h.made.m.lt, h.made.r.below hb h.made.r.lt⟩, h.ord.below hb h.ord.lt, h.red, h.same, h.low, h.room, h.mr, h.or⟩
theorem MI.alloc {a b c ob mb rb : Nat} {ws : List ByteArray} {pre l : List Nat} {W : World} (h : MI a b c ob ws mb rb pre l W) (o : Obj) : MI a b c ob ws mb rb pre l (W.alloc o) :=
  ⟨⟨h.made.m.alloc _, h.made.r.alloc _⟩, h.ord.alloc _, h.red, h.same, h.low, h.room, h.mr, h.or⟩
theorem MI.grown {a b c ob mb rb g : Nat} {ws : List ByteArray} {pre l cs : List Nat} {W W' : World} (h : MI a b c ob ws mb rb pre l W) (hg : W.grownBy W' (some g)) (hs : SBlk W g 5 (cellsB cs)) (hne : rb ≠ g) (hob : ob ≠ g) : MI a b c ob ws mb rb pre l W' :=
  ⟨⟨h.made.m.grown hg (by intro e; injection e with e; exact h.made.m.ne_ hs (by decide) e), h.made.r.grown hg (by intro e; injection e with e; exact hne e)⟩, h.ord.grown hg (by intro e; injection e with e; exact hob e), h.red, h.same, h.low, h.room, h.mr, h.or⟩

theorem below_a1 {W W' : World} {o : Obj} (h : Below (W.alloc o).heap.size (W.alloc o) W') : Below W.heap.size W W' := ((Below.refl _ W).alloc (Nat.le_refl _) _).trans (h.mono (by simp))
theorem below_a2 {W W' : World} {o o' : Obj} (h : Below ((W.alloc o).alloc o').heap.size ((W.alloc o).alloc o') W') : Below W.heap.size W W' := below_a1 (below_a1 h)
theorem blk_a1 {W W' : World} {vs : List Value} {T : TypeId} (h : Below (W.alloc (.cells vs.toArray T)).heap.size (W.alloc (.cells vs.toArray T)) W') : SBlk W' W.heap.size T vs := (SBlk.new W T vs).below h (by simp)
theorem blk_a2 {W W' : World} {vs : List Value} {T : TypeId} {o : Obj} (h : Below ((W.alloc (.cells vs.toArray T)).alloc o).heap.size ((W.alloc (.cells vs.toArray T)).alloc o) W') : SBlk W' W.heap.size T vs := blk_a1 (below_a1 h)
theorem blk_a3 {W W' : World} {vs : List Value} {T : TypeId} {o : Obj} (h : Below ((W.alloc o).alloc (.cells vs.toArray T)).heap.size ((W.alloc o).alloc (.cells vs.toArray T)) W') : SBlk W' (W.heap.size + 1) T vs := by
  have := blk_a1 h
  rwa [World.size_alloc] at this
theorem grown_a1 {W W' : World} {o : Obj} {r : Option Nat} (h : (W.alloc o).grownBy W' r) : W.grownBy W' r := only_trans (only_below (only_refl W r) ((Below.refl _ W).alloc (Nat.le_refl _) _)) h
theorem blkg_a1 {W W' : World} {vs : List Value} {T : TypeId} {g : Nat} (h : (W.alloc (.cells vs.toArray T)).grownBy W' (some g)) (hg : g < W.heap.size) : SBlk W' W.heap.size T vs :=
  (SBlk.new W T vs).grown h (by intro e; injection e with e; omega)

theorem product_mi {a b c : Nat} (hg : Good a b c) (ob vb : Nat) (s : ByteArray) (he : checkS s = 0) (w : World) (ho : SBlk w ob 144 (ordCells a b c)) (hv : SBlk w vb 9 [.string s]) :
    Calls Try.prog 38 #[.pointer (some ⟨ob, 0, none⟩), .slice (some ⟨vb, 0, none⟩) 1 1] w fun e w' => ∃ mb rb pre l, e = .returned (.pointer (some ⟨mb, 0, none⟩)) ∧ MI a b c ob [s] mb rb pre l w' ∧ w.heap.size ≤ rb ∧ Below w.heap.size w w' := by
  refine (product_ok hg 1 ob vb [s] rfl (by omega) (one_ok he) w ho hv).mono ?_
  rintro e w' ⟨mb, rb, pre, l, rfl, h1, h2, h3, h4, h5, h6, h7, h8, h9, hb⟩
  exact ⟨mb, rb, pre, l, rfl, ⟨h1, h2, h3, h4, h5, h6, h7, h8⟩, h9, hb⟩

theorem normal_mi {a b c ob mb rb : Nat} (hg : Good a b c) (s : ByteArray) (pre l : List Nat) (w : World) (h : MI a b c ob [s] mb rb pre l w) :
    Calls Try.prog 39 #[.pointer (some ⟨mb, 0, none⟩)] w fun e w' => e = .returned (.string (str (nfW a b c [s]))) ∧ w.grownBy w' (some rb) :=
  normal_ok hg pre l [s] w h.made h.ord h.red h.same h.low h.room h.mr h.or

set_option maxRecDepth 100000 in
set_option maxHeartbeats 8000000 in
theorem same1_ret (a b c pb ub vb : Nat) (u v : ByteArray) (hg : Good a b c) (hu : checkS u = 0) (hv : checkS v = 0) (w : World) (hp : SBlk w pb 23 [.int .i64 a, .int .i64 b, .int .i64 c]) (hwu : SBlk w ub 9 [.string u]) (hwv : SBlk w vb 9 [.string v]) :
    Calls Try.prog 41 #[.pointer (some ⟨pb, 0, none⟩), .pointer (some ⟨ub, 0, none⟩), .pointer (some ⟨vb, 0, none⟩)] w fun e w' => e = .returned (.bool (eqB (str (nfW a b c [u])) (str (nfW a b c [v])))) ∧ Below w.heap.size w w' := by
  have p0 := hp.cell 0
  have p1 := hp.cell 1
  have p2 := hp.cell 2
  have q0 := hwu.cell 0
  have r0 := hwv.cell 0
  simp only [List.getElem?_cons_zero, List.getElem?_cons_succ] at p0 p1 p2 q0 r0
  have HP := Lib.hid (And.intro (And.intro hwu hwv) (And.intro hg (And.intro hu hv)))
  have HG := Lib.hid (fun W h => given_ok hg 2 w.heap.size [u, v] rfl (by omega) (two_ok hu hv) W h)
  clear hp hwu hwv hg hu hv
  go_enter Try.func41, Try.ntmps41
  go_wp2_with (go_at_call 37; refine (HG.out _ (SBlk.new w 9 [.string u, .string v])).mono ?_; rintro e W ⟨ob, rfl, hob, hle, hb1⟩; have HO := Lib.hid hob; have HZ := Lib.hid (below_a1 hb1); have kq := keptS HP.out.1.1 HZ.out; have kr := keptS HP.out.1.2 HZ.out; clear hob hle hb1)
  go_region_held3 (fun w' => w'.cell? ⟨ub, 0, none⟩ = some (.string u) ∧ w'.cell? ⟨vb, 0, none⟩ = some (.string v))
    (first | (with_reducible assumption) | exact ⟨kq, kr⟩ | (go_keep; done))
    (first
      | (go_at_call 38; (with_reducible refine (product_mi HP.out.2.1 _ _ u HP.out.2.2.1 _ ?_ ?_).mono ?_); (first | exact HO.out | exact HO.out.alloc _ | exact (HO.out.alloc _).alloc _); (first | exact HAv.out | exact SBlk.new _ _ [.string u] | exact (SBlk.new _ _ [.string u]).alloc _ | exact SBlk.new' _ _ [.string u] _ (World.size_alloc _ _)); rintro e W' ⟨mbA, rbA, preA, lA, rfl, hmi, hlo0, hb⟩; (try have hb := below_undrew hb); (first | (have hz : Below W.heap.size W W' := hb) | (have hz : Below W.heap.size W W' := below_a1 hb) | (have hz : Below W.heap.size W W' := below_a2 hb)); (have hlo : W.heap.size ≤ rbA := Nat.le_trans (by simp; try omega) hlo0); (try have HNE : Hid (rbB ≠ rbA) := Lib.hid (Nat.ne_of_lt (Nat.lt_of_lt_of_le HBm.out.made.r.lt hlo))); have HO := Lib.hid (HO.out.below hz HO.out.lt); (try have HBv := Lib.hid (HBv.out.below hz HBv.out.lt)); (try have HBm := Lib.hid (HBm.out.below hz)); (first | (have HBv : Hid (SBlk W' (W.heap.size + 1) 9 [.string v]) := Lib.hid (blk_a3 hb)) | (have HBv : Hid (SBlk W' W.heap.size 9 [.string v]) := Lib.hid (blk_a2 hb)) | (have HBv : Hid (SBlk W' W.heap.size 9 [.string v]) := Lib.hid (blk_a1 hb)) | skip); have HAm := Lib.hid hmi; have HAz := Lib.hid (Nat.le_trans HZ.out.size hlo); have HZ := Lib.hid (HZ.out.trans (hz.mono HZ.out.size)); have kq := keptS HP.out.1.1 HZ.out; have kr := keptS HP.out.1.2 HZ.out; clear hmi hb hz hlo hlo0; (obtain ⟨W, rfl⟩ : ∃ z : World, z = W' := ⟨_, rfl⟩))
      | (go_at_call 38; (with_reducible refine (product_mi HP.out.2.1 _ _ v HP.out.2.2.2 _ ?_ ?_).mono ?_); (first | exact HO.out | exact HO.out.alloc _ | exact (HO.out.alloc _).alloc _); (first | exact HBv.out | exact SBlk.new _ _ [.string v] | exact (SBlk.new _ _ [.string v]).alloc _ | exact SBlk.new' _ _ [.string v] _ (World.size_alloc _ _)); rintro e W' ⟨mbB, rbB, preB, lB, rfl, hmi, hlo0, hb⟩; (try have hb := below_undrew hb); (first | (have hz : Below W.heap.size W W' := hb) | (have hz : Below W.heap.size W W' := below_a1 hb) | (have hz : Below W.heap.size W W' := below_a2 hb)); (have hlo : W.heap.size ≤ rbB := Nat.le_trans (by simp; try omega) hlo0); (try have HNE : Hid (rbA ≠ rbB) := Lib.hid (Nat.ne_of_lt (Nat.lt_of_lt_of_le HAm.out.made.r.lt hlo))); have HO := Lib.hid (HO.out.below hz HO.out.lt); (try have HAv := Lib.hid (HAv.out.below hz HAv.out.lt)); (try have HAm := Lib.hid (HAm.out.below hz)); (first | (have HAv : Hid (SBlk W' (W.heap.size + 1) 9 [.string u]) := Lib.hid (blk_a3 hb)) | (have HAv : Hid (SBlk W' W.heap.size 9 [.string u]) := Lib.hid (blk_a2 hb)) | (have HAv : Hid (SBlk W' W.heap.size 9 [.string u]) := Lib.hid (blk_a1 hb)) | skip); have HBm := Lib.hid hmi; have HBz := Lib.hid (Nat.le_trans HZ.out.size hlo); have HZ := Lib.hid (HZ.out.trans (hz.mono HZ.out.size)); have kq := keptS HP.out.1.1 HZ.out; have kr := keptS HP.out.1.2 HZ.out; clear hmi hb hz hlo hlo0; (obtain ⟨W, rfl⟩ : ∃ z : World, z = W' := ⟨_, rfl⟩))
      | (go_at_call 39; (with_reducible refine (normal_mi (ob := ob) (rb := rbA) HP.out.2.1 u preA lA _ ?_).mono ?_); (first | exact HAm.out | exact HAm.out.alloc _); rintro e W' ⟨rfl, hgr⟩; (first | (have hg1 : W.grownBy W' (some rbA) := hgr) | (have hg1 : W.grownBy W' (some rbA) := grown_a1 hgr)); (have hne : ob ≠ rbA := HAm.out.or); (try have HBv := Lib.hid (HBv.out.grown hg1 (fun e => absurd (Option.some.inj e) (HBv.out.ne_ HAm.out.made.r ne95)))); (first | (have HBm := Lib.hid (HBm.out.grown hg1 HAm.out.made.r HNE.out hne)) | (have HBm := Lib.hid (HBm.out.grown hg1 HAm.out.made.r HNE.out.symm hne)) | skip); (try have HBv : Hid (SBlk W' W.heap.size 9 [.string v]) := Lib.hid (blkg_a1 hgr HAm.out.made.r.lt)); have HO := Lib.hid (HO.out.grown hg1 (fun e => absurd (Option.some.inj e) hne)); have HZ := Lib.hid (below_only HZ.out hg1 HAz.out HZ.out.size); have kq := keptS HP.out.1.1 HZ.out; have kr := keptS HP.out.1.2 HZ.out; clear hgr hg1 hne; (obtain ⟨W, rfl⟩ : ∃ z : World, z = W' := ⟨_, rfl⟩))
      | (go_at_call 39; (with_reducible refine (normal_mi (ob := ob) (rb := rbB) HP.out.2.1 v preB lB _ ?_).mono ?_); (first | exact HBm.out | exact HBm.out.alloc _); rintro e W' ⟨rfl, hgr⟩; (first | (have hg1 : W.grownBy W' (some rbB) := hgr) | (have hg1 : W.grownBy W' (some rbB) := grown_a1 hgr)); (have hne : ob ≠ rbB := HBm.out.or); (try have HAv := Lib.hid (HAv.out.grown hg1 (fun e => absurd (Option.some.inj e) (HAv.out.ne_ HBm.out.made.r ne95)))); (first | (have HAm := Lib.hid (HAm.out.grown hg1 HBm.out.made.r HNE.out hne)) | (have HAm := Lib.hid (HAm.out.grown hg1 HBm.out.made.r HNE.out.symm hne)) | skip); (try have HAv : Hid (SBlk W' W.heap.size 9 [.string u]) := Lib.hid (blkg_a1 hgr HBm.out.made.r.lt)); have HO := Lib.hid (HO.out.grown hg1 (fun e => absurd (Option.some.inj e) hne)); have HZ := Lib.hid (below_only HZ.out hg1 HBz.out HZ.out.size); have kq := keptS HP.out.1.1 HZ.out; have kr := keptS HP.out.1.2 HZ.out; clear hgr hg1 hne; (obtain ⟨W, rfl⟩ : ∃ z : World, z = W' := ⟨_, rfl⟩)))
  all_goals
    go_wp2_with fail
    go_ret
    exact ⟨rfl, HZ.out⟩
end Go.Proofs.Ytogchohpnbeldaa
