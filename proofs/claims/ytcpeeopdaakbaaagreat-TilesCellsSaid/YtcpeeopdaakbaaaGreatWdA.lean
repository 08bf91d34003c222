/- Slices of strings: they grow by one. A range over an iterator whose items are made as it goes: the law that is used here. The world: a letter, a product, the next ring. The rings, one after another. The errors of a ring; a ring. -/
import Derived.Test.YtcpeeopdaakbaaaGreatYA
import Derived.Laws.AppendOwn
import Derived.Lib.AppendZeros
import Derived.Test.YtcpeeopdaakbaaaGreatYW
import Derived.Test.YtcpeeopdaakbaaaGreatZa
import Derived.Test.YtcpeeopdaakbaaaGreatXA
import Derived.Test.YtcpeeopdaakbaaaGreatCtA
import Derived.Test.YtcpeeopdaakbaaaGreatXjA
import Derived.Test.YtcpeeopdaakbaaaGreatXf
import Derived.Test.YtcpeeopdaakbaaaGreatYd
namespace Go.Proofs.YtcpeeopdaakbaaaGreat
open Go.RowKit

/-- strings as cells -/
def cellsT (l : List ByteArray) : List Value := l.map Value.string
theorem cellsT_length (l : List ByteArray) : (cellsT l).length = l.length := by simp [cellsT]
theorem cellsT_get {l : List ByteArray} {i : Nat} (h : i < l.length) : (cellsT l)[i]? = some (.string (l.getD i ⟨#[]⟩)) := by
  simp [cellsT, List.getElem?_eq_getElem h]
theorem cellsT_append (l k : List ByteArray) : cellsT (l ++ k) = cellsT l ++ cellsT k := by simp [cellsT]

/-- a slice of strings: nil, or in a block from B on -/
def ListAt (w : World) (B : Nat) (v : Value) (l : List ByteArray) : Prop :=
  (l = [] ∧ v = .slice none 0 0) ∨ ∃ g cap ex, B ≤ g ∧ v = .slice (some ⟨g, 0, none⟩) l.length cap ∧ l.length + ex.length = cap ∧ cap ≤ Go.maxLen ∧ SBlk w g 9 (cellsT l ++ ex)
theorem ListAt.below {w w' : World} {B : Nat} {v : Value} {l : List ByteArray} (h : ListAt w B v l) (hb : Below w.heap.size w w') : ListAt w' B v l := by
  rcases h with h | ⟨g, cap, ex, h1, h2, h3, h4, h5⟩
  · exact .inl h
  · exact .inr ⟨g, cap, ex, h1, h2, h3, h4, h5.below hb h5.lt⟩
theorem ListAt.lower {w : World} {B B' : Nat} {v : Value} {l : List ByteArray} (h : ListAt w B v l) (hb : B' ≤ B) : ListAt w B' v l := by
  rcases h with h | ⟨g, cap, ex, h1, h2⟩
  · exact .inl h
  · exact .inr ⟨g, cap, ex, Nat.le_trans hb h1, h2⟩

theorem infoS : (Tryz.prog.info? 9).map (fun i => (i.zero, i.size, i.bytes)) = some (some (.string ⟨#[]⟩), 1, 16) := by kernel_rfl

theorem add_zeroT (b o j : Nat) : (⟨b, o, none⟩ : Addr).add j = ⟨b, o + j, none⟩ := by
  simp only [Addr.add]
  split
  · simp_all
  · rfl
theorem zeroS_length (n : Nat) : (Builtin.zeroCells (Value.cells (.string ⟨#[]⟩)) n).toList.length = n := by
  rw [Array.length_toList, size_zeroCells]
  exact Nat.mul_one n

set_option maxRecDepth 100000 in
/-- one more string behind -/
theorem app_str (w : World) (B : Nat) (v : Value) (l : List ByteArray) (h : ListAt w B v l) (hB : B ≤ w.heap.size) (hl : l.length ≤ 100000000) (nb c : Nat) (s : ByteArray) (hs : w.cell? ⟨nb, 0, none⟩ = some (.string s)) :
    ∃ v' w', (Builtin.append_ #[28, 28] 28 #[v, .slice (some ⟨nb, 0, none⟩) 1 c]).run Tryz.prog w = .ok v' w' ∧ ListAt w' B v' (l ++ [s]) ∧ Below B w w' := by
  obtain ⟨i, hi, hz, hsz, hby⟩ : ∃ i, Tryz.prog.info? 9 = some i ∧ i.zero = some (.string ⟨#[]⟩) ∧ i.size = 1 ∧ i.bytes = 16 := info_parts infoS
  have hnews : ∀ j u, [Value.string s][j]? = some u → w.cell? ((⟨nb, 0, none⟩ : Addr).add j) = some u := by
    intro j u hu
    match j, hu with
    | 0, hu =>
      simp only [List.getElem?_cons_zero, Option.some.injEq] at hu
      subst hu
      rw [add_zeroT]
      exact hs
    | j + 1, hu => simp at hu
  have h1s : ∀ u ∈ [Value.string s], u.oneCell' = true := by
    intro u hu; rw [List.mem_singleton.1 hu]; rfl
  rcases h with ⟨rfl, rfl⟩ | ⟨g, cap, ex, hg, rfl, hcap, hmx, hb⟩
  · have hr := run_append_nil (P := Tryz.prog) (w := w) 28 28 9 i (.string ⟨#[]⟩) Tryz.underlying28 hi hz ⟨nb, 0, none⟩ 1 c [.string s] (by rw [hsz]; rfl) hnews (by omega) (by omega) (by rw [hby]; omega)
    have hge := grownCap_ge w 1 0 9
    have hcm : grownCap w 1 0 9 ≤ Go.maxLen := grownCap_le_maxLen w 1 0 9 (by unfold Go.maxLen; omega)
    refine ⟨_, _, hr, .inr ⟨w.heap.size, _, (Builtin.zeroCells (Value.cells (.string ⟨#[]⟩)) (grownCap w 1 0 9 - 1)).toList, hB, rfl, ?_, hcm, ?_⟩, ((Below.refl B w).drew).alloc hB _⟩
    · rw [zeroS_length]
      show 1 + (grownCap w 1 0 9 - 1) = _
      omega
    · have := heap_alloc_new w.drew (.cells (([.string s] : List Value).toArray ++ Builtin.zeroCells (Value.cells (.string ⟨#[]⟩)) (grownCap w 1 0 9 - 1)) 9)
      unfold SBlk
      refine Eq.trans this ?_
      simp [cellsT]
  · have hxl : (cellsT l ++ ex).length = cap := by rw [List.length_append, cellsT_length]; exact hcap
    by_cases hroom : l.length + 1 ≤ cap
    · have hr := run_append_room (P := Tryz.prog) w 28 28 9 i Tryz.underlying28 hi g l.length cap (cellsT l ++ ex).toArray hb ⟨nb, 0, none⟩ 1 c [.string s] (by rw [hsz]; rfl) hnews h1s hroom (by rw [hsz, List.size_toArray, hxl]; simp; omega)
      refine ⟨_, _, hr, .inr ⟨g, cap, ex.drop 1, hg, by simp, by rw [List.length_append, List.length_drop]; simp; omega, hmx, ?_⟩, ?_⟩
      · have := setRow_heap w g (cellsT l ++ ex).toArray ((((cellsT l ++ ex).toArray.toList.take (l.length * i.size)) ++ [Value.string s] ++ (cellsT l ++ ex).toArray.toList.drop (l.length * i.size + 1)).toArray) 9 (0, 0) hb
        unfold SBlk
        refine Eq.trans this ?_
        congr 3
        rw [hsz, Nat.mul_one]
        have e1 : (cellsT l ++ ex).take l.length = cellsT l := by rw [List.take_append_of_le_length (by rw [cellsT_length]; exact Nat.le_refl _), List.take_of_length_le (by rw [cellsT_length]; exact Nat.le_refl _)]
        have e2 : (cellsT l ++ ex).drop (l.length + 1) = ex.drop 1 := by
          rw [List.drop_append, List.drop_of_length_le (by rw [cellsT_length]; omega), List.nil_append, cellsT_length]
          congr 1; omega
        rw [e1, e2, cellsT_append]
        rfl
      · exact ⟨rfl, rfl, rfl, by simp, fun k hk => setRow_other w g k _ (by omega)⟩
    · have holds : ∀ j u, (cellsT l)[j]? = some u → w.cell? ((⟨g, 0, none⟩ : Addr).add j) = some u := by
        intro j u hu
        rw [add_zeroT, Nat.zero_add, hb.cell j]
        rw [List.getElem?_append_left]
        · exact hu
        · rcases Nat.lt_or_ge j (cellsT l).length with h | h
          · exact h
          · rw [List.getElem?_eq_none h] at hu; cases hu
      have hbytes : (l.length + 1) * i.bytes ≤ 140737488355328 := by rw [hby]; omega
      have hr := run_append_grow (P := Tryz.prog) w 28 28 9 i (.string ⟨#[]⟩) Tryz.underlying28 hi hz ⟨g, 0, none⟩ l.length cap (cellsT l) (by rw [cellsT_length, hsz, Nat.mul_one]) holds ⟨nb, 0, none⟩ 1 c [.string s] (by rw [hsz]; rfl) hnews (by omega) (by omega) (growslice_fits (by omega) hbytes)
      have hge := grownCap_ge w (l.length + 1) cap 9
      have hcm : grownCap w (l.length + 1) cap 9 ≤ Go.maxLen := grownCap_le_maxLen w (l.length + 1) cap 9 (by unfold Go.maxLen; omega)
      refine ⟨_, _, hr, .inr ⟨w.heap.size, _, (Builtin.zeroCells (Value.cells (.string ⟨#[]⟩)) (grownCap w (l.length + 1) cap 9 - (l.length + 1))).toList, hB, by simp, ?_, hcm, ?_⟩, ((Below.refl B w).drew).alloc hB _⟩
      · rw [zeroS_length, List.length_append]
        show l.length + 1 + (grownCap w (l.length + 1) cap 9 - (l.length + 1)) = _
        omega
      · have := heap_alloc_new w.drew (.cells ((cellsT l).toArray ++ ([.string s] : List Value).toArray ++ Builtin.zeroCells (Value.cells (.string ⟨#[]⟩)) (grownCap w (l.length + 1) cap 9 - (l.length + 1))) 9)
        unfold SBlk
        refine Eq.trans this ?_
        simp [cellsT]
end Go.Proofs.YtcpeeopdaakbaaaGreat

namespace Go.Proofs.YtcpeeopdaakbaaaGreat
open Go.RowKit

theorem But.keep {S : Nat → Prop} {A B : World} {k : Nat} {o : Obj} (h : But S A B) (hk : A.heap[k]? = some o) (hn : ¬ S k) : B.heap[k]? = some o := (h.block k (Array.getElem?_eq_some_iff.1 hk).1 hn).trans hk
/-- the contract of an iterator whose items are known when they come: a round keeps all but the blocks of S -/
def IterP {α : Type} (F : Fence) (P : Program) (gf : Nat) (cap : Array Value) (encs : α → Array Value) (S : Nat → Prop) (Nx : List α → α → World → Prop) (Dn : List α → World → Prop) (w : World) : Prop :=
  ∀ (l : Nat) (J : List α → World → Prop) (Jx : World → Prop) (Jp : List PanicEntry → World → Prop) (W : World), But S w W → (∀ k, S k → k < W.heap.size) → w.heap.size + 2 ≤ W.heap.size →
    (∀ pre A B, J pre A → Below A.heap.size A B → J pre B) →
    (∀ pre x A, Nx pre x A → J pre A → YieldAt F 0 P l (encs x) A fun e B => (e = .returned (.bool true) ∧ J (pre ++ [x]) B ∧ But S A B) ∨ (e = .returned (.bool false) ∧ Jx B) ∨ (∃ ch, e = .panicked ch ∧ Jp ch B)) →
    J [] W →
    CallsIn F 0 P gf (#[.func (.yield l) #[] #[]] ++ cap) W fun e B => (∃ v, e = .returned v ∧ ((∃ xs, Dn xs B ∧ J xs B) ∨ Jx B)) ∨ (∃ ch, e = .panicked ch ∧ Jp ch B)

/-- how a round may be left, here -/
def postP {α : Type} (F : Fence) (P : Program) (S : Nat → Prop) (I : List α → World → Prop) (Ix : Code → World → Prop) (Ip : List PanicEntry → World → Prop) (pre : List α) (x : α) (A : World) : Exit → Act → World → Prop
  | .normal, _, B => But S A B ∧ I (pre ++ [x]) B
  | .ret, _, B => But S A B ∧ Ix .ret B
  | .exit id, _, B => But S A B ∧ Ix (.exit id) B
  | .goto _, _, _ => False
  | .panic ch, a, B => But S A B ∧ a.defers = [] ∧ (∀ fn, F.fn fn → ∃ fd, P.funcs[fn]? = some fd) ∧ Ip ch B
  | .outgrown, _, _ => False

theorem rangeP {α : Type} {F : Fence} {P : Program} {g : Operand} {ps : Array Tmp} {assign body : Code} {Q : Exit → Act → World → Prop} {a : Act} {w : World} {gf : Nat} {cap : Array Value}
    (hro : F.round = none) (hF : F.fn gf)
    (hg : a.eval g = .func (.func gf) #[] cap) (eg : ∀ args w, (callFunc gf args).run P w = .ok (.enter gf args) w)
    {encs : α → Array Value} (hps : ∀ x, (encs x).size = ps.size) {S : Nat → Prop} (hS : ∀ k, S k → k < w.heap.size) {Nx : List α → α → World → Prop} {Dn : List α → World → Prop} (hit : IterP F P gf cap encs (fun k => S k ∨ k = w.heap.size ∨ k = w.heap.size + 1) Nx Dn w)
    (hDn : ∀ k A B, Dn k A → Soft w.heap.size A B → Dn k B)
    (I : List α → World → Prop) (Ix : Code → World → Prop) (Ip : List PanicEntry → World → Prop) (hI : ∀ k A B, I k A → Soft w.heap.size A B → I k B) (hIx : ∀ c A B, Ix c A → Soft w.heap.size A B → Ix c B) (h0 : I [] w)
    (Ax : List α → α → Act → World → Prop) (hAx : ∀ k x a' A B, Ax k x a' A → Soft w.heap.size A B → Ax k x a' B)
    (hassign : ∀ (l : Nat) (pre : List α) (x : α) (A : World) (K : Act → World → Prop), Nx pre x A → I pre A → (∀ a' B, But S A B → Ax pre x a' B → K a' B) →
      assign.wpIn (F.inRound l) 0 P (Exit.then K (fun _ _ _ => False)) { tmps := (ps.zip (encs x)).foldl (fun t (p, v) => t.setIfInBounds p v) a.tmps, defers := [] } A)
    (hbody : ∀ (l : Nat) (pre : List α) (x : α) (a' : Act) (A : World), Ax pre x a' A → body.wpIn (F.inRound l) 0 P (postP F P S I Ix Ip pre x A) a' A)
    (hdone : ∀ (xs : List α) (B : World), Dn xs B → I xs B → B.heap[w.heap.size]? = some (.deferred (some [])) → Q .normal { a with defers := { target := .collected w.heap.size, args := #[] } :: a.defers } B)
    (hstop : ∀ (c : Code) (B : World), Ix c B → B.heap[w.heap.size]? = some (.deferred (some [])) → c.wpIn F 1 P Q { a with defers := { target := .collected w.heap.size, args := #[] } :: a.defers } B)
    (hpanic : ∀ (ch : List PanicEntry) (B : World), Ip ch B → B.heap[w.heap.size]? = some (.deferred (some [])) → Q (.panic ch) { a with defers := { target := .collected w.heap.size, args := #[] } :: a.defers } B) :
    (Code.rangeFunc g ps assign body).wpIn F 1 P Q a w := by
  refine wpIn_rangeFunc ?_
  intro fn hfn
  rw [hro]
  obtain ⟨rec, hrec⟩ : ∃ rec : LoopState → Option Code → Loop, rec = fun st pe => { state := st, pending := pe, fn, tmps := a.tmps, params := ps, assign, body, defers := w.heap.size } := ⟨_, rfl⟩
  obtain ⟨W1, hW1⟩ : ∃ W1, (w.alloc (.deferred (some []))).alloc (.loop (rec .ready none)) = W1 := ⟨_, rfl⟩
  have hbel : Below w.heap.size w W1 := by rw [← hW1]; exact ((Below.refl _ w).alloc (Nat.le_refl _) _).alloc (by simp) _
  have hL1 : W1.heap[w.heap.size + 1]? = some (.loop (rec .ready none)) := by
    rw [← hW1]; have := World.alloc_heap_new (w.alloc (.deferred (some []))) (.loop (rec .ready none)); rwa [World.size_alloc] at this
  have hK1 : W1.heap[w.heap.size]? = some (.deferred (some [])) := by
    rw [← hW1]; exact (Below.heap_alloc _ _ _ (by simp)).trans (World.alloc_heap_new w _)
  have hnl : ¬ S (w.heap.size + 1) := fun h => by have := hS _ h; omega
  have hnd : ¬ S w.heap.size := fun h => by have := hS _ h; omega
  have hbut : But (fun k => S k ∨ k = w.heap.size ∨ k = w.heap.size + 1) w W1 := But.of_below hbel (fun k hk h => absurd h (by omega))
  have hsz1 : W1.heap.size = w.heap.size + 2 := by rw [← hW1]; simp
  have hlt1 : ∀ k, (S k ∨ k = w.heap.size ∨ k = w.heap.size + 1) → k < W1.heap.size := by
    intro k h
    rw [hsz1]
    rcases h with h | h | h
    · have := hS k h; omega
    · omega
    · omega
  refine ⟨w.heap.size + 1, [{ target := .collected w.heap.size, args := #[] }], W1, { target := .fn (.func gf) cap, args := #[.func (.yield (w.heap.size + 1)) #[] #[]] }, W1, gf,
    #[.func (.yield (w.heap.size + 1)) #[] #[]] ++ cap, W1, ?_, ?_, ?_, ?_, fun _ => Nat.le_refl _, ?_⟩
  · rw [← hW1, hrec]; exact run_enterLoop_outer _ _ _ _ _
  · simp only [resolve, hg]
    simp [go_sem]
  · intro f' hf'; simp [Target.leads] at hf'; subst hf'; exact hF
  · simp [invoke, go_sem, eg]
  · have hl : w.heap.size ≤ w.heap.size + 1 := Nat.le_succ _
    refine (hit (w.heap.size + 1)
      (fun k W => I k W ∧ W.heap[w.heap.size + 1]? = some (.loop (rec .ready none)) ∧ W.heap[w.heap.size]? = some (.deferred (some [])))
      (fun W => ∃ c, Ix c W ∧ W.heap[w.heap.size + 1]? = some (.loop (rec .done (some c))) ∧ W.heap[w.heap.size]? = some (.deferred (some [])))
      (fun ch W => Ip ch W ∧ W.heap[w.heap.size]? = some (.deferred (some [])))
      W1 hbut (fun k h => hlt1 k h) (by rw [hsz1]; exact Nat.le_refl _) (fun k A B hs hb => ⟨hI _ _ _ hs.1 (Soft.of_below hb), (hb.block _ (Array.getElem?_eq_some_iff.1 hs.2.1).1).trans hs.2.1, (hb.block _ (Array.getElem?_eq_some_iff.1 hs.2.2).1).trans hs.2.2⟩)
      ?_ ⟨hI _ _ _ h0 (Soft.of_below hbel), hL1, hK1⟩).mono ?_
    · rintro pre x A hxs ⟨hi, hlr, hdr⟩
      have hy := run_yield (P := P) (args := encs x) hlr (by rw [hrec]; exact hps x)
      rw [hrec] at hy
      refine ⟨fn, _, assign, body, hy, ?_⟩
      have main : ∀ RP : Exit → Act → World → Prop, (∀ (e : Exit) (a3 : Act) (W3 Wa : World), But (fun k => S k ∨ k = w.heap.size ∨ k = w.heap.size + 1) A Wa → Wa.heap[w.heap.size + 1]? = some (.loop (rec .ready none)) → Wa.heap[w.heap.size]? = some (.deferred (some [])) →
          postP F P S I Ix Ip pre x (Wa.putObj (w.heap.size + 1) (.loop { rec .ready none with state := .busy })) e a3 W3 → RP e a3 W3) →
          assign.wpIn (F.inRound (w.heap.size + 1)) 0 P (Exit.then (fun a₁ w₁ => ∃ w₂, (Instr.beginRound (w.heap.size + 1)).run P w₁ = .ok () w₂ ∧ body.wpIn (F.inRound (w.heap.size + 1)) 0 P RP a₁ w₂) (fun _ _ _ => False))
            { tmps := (ps.zip (encs x)).foldl (fun t (p, v) => t.setIfInBounds p v) a.tmps, defers := [] } A := by
        intro RP hRP
        refine hassign _ pre x A _ hxs hi ?_
        intro a' Wa hko hax
        have hke : But (fun k => S k ∨ k = w.heap.size ∨ k = w.heap.size + 1) A Wa := hko.mono (fun k _ h => .inl h)
        have hla := hko.keep hlr hnl
        have hda := hko.keep hdr hnd
        refine ⟨_, run_beginRound hla (by rw [hrec]), ?_⟩
        exact wpIn_mono (hbody _ pre x a' _ (hAx _ _ _ _ _ hax (Soft.put _ hla rfl hl))) (fun e a3 W3 hp => hRP e a3 W3 Wa hke hla hda hp)
      have fin : ∀ (jump : Option Code) (W3 Wa : World), Wa.heap[w.heap.size + 1]? = some (.loop (rec .ready none)) → Wa.heap[w.heap.size]? = some (.deferred (some [])) → But S (Wa.putObj (w.heap.size + 1) (.loop { rec .ready none with state := .busy })) W3 →
          (Instr.endRound (w.heap.size + 1) jump).run P W3 = .ok (.bool jump.isNone) (W3.putObj (w.heap.size + 1) (.loop (rec (if jump.isNone then .ready else .done) jump))) ∧
          W3.heap[w.heap.size + 1]? = some (.loop { rec .ready none with state := .busy }) ∧
          (W3.putObj (w.heap.size + 1) (.loop (rec (if jump.isNone then .ready else .done) jump))).heap[w.heap.size + 1]? = some (.loop (rec (if jump.isNone then .ready else .done) jump)) ∧
          (W3.putObj (w.heap.size + 1) (.loop (rec (if jump.isNone then .ready else .done) jump))).heap[w.heap.size]? = some (.deferred (some [])) ∧ W3.heap[w.heap.size]? = some (.deferred (some [])) := fun jump W3 Wa hla hda hk3 => by
        have hlt : w.heap.size + 1 < Wa.heap.size := (Array.getElem?_eq_some_iff.1 hla).1
        have hl2 : (Wa.putObj (w.heap.size + 1) (.loop { rec .ready none with state := .busy })).heap[w.heap.size + 1]? = some (.loop { rec .ready none with state := .busy }) := World.putObj_heap_same hlt
        have hd2 : (Wa.putObj (w.heap.size + 1) (.loop { rec .ready none with state := .busy })).heap[w.heap.size]? = some (.deferred (some [])) := (World.putObj_heap_other (by omega)).trans hda
        have hl3 := hk3.keep hl2 hnl
        have := run_endRound (P := P) jump hl3
        rw [hrec] at this ⊢
        exact ⟨this, by rw [hrec] at hl3; exact hl3, World.putObj_heap_same (Array.getElem?_eq_some_iff.1 hl3).1, (World.putObj_heap_other (by omega)).trans (hk3.keep hd2 hnd), hk3.keep hd2 hnd⟩
      have hSl : (fun k => S k ∨ k = w.heap.size ∨ k = w.heap.size + 1) (w.heap.size + 1) := .inr (.inr rfl)
      have rest' : ∀ (e : Exit) (a3 : Act) (W3 Wa : World), But (fun k => S k ∨ k = w.heap.size ∨ k = w.heap.size + 1) A Wa → Wa.heap[w.heap.size + 1]? = some (.loop (rec .ready none)) → Wa.heap[w.heap.size]? = some (.deferred (some [])) →
          postP F P S I Ix Ip pre x (Wa.putObj (w.heap.size + 1) (.loop { rec .ready none with state := .busy })) e a3 W3 → (∀ ch, e ≠ .panic ch) →
          roundPost P (w.heap.size + 1) (fun e B => (e = .returned (.bool true) ∧ (I (pre ++ [x]) B ∧ B.heap[w.heap.size + 1]? = some (.loop (rec .ready none)) ∧ B.heap[w.heap.size]? = some (.deferred (some []))) ∧ But (fun k => S k ∨ k = w.heap.size ∨ k = w.heap.size + 1) A B) ∨
            (e = .returned (.bool false) ∧ ∃ c, Ix c B ∧ B.heap[w.heap.size + 1]? = some (.loop (rec .done (some c))) ∧ B.heap[w.heap.size]? = some (.deferred (some []))) ∨ (∃ ch, e = .panicked ch ∧ Ip ch B ∧ B.heap[w.heap.size]? = some (.deferred (some [])))) e a3 W3 := by
        rintro e a3 W3 Wa hke hla hda hp hnp
        cases e with
        | normal =>
          obtain ⟨hk3, hi3⟩ := hp
          have hkp3 : But (fun k => S k ∨ k = w.heap.size ∨ k = w.heap.size + 1) _ _ := hk3.mono (fun k _ h => .inl h)
          obtain ⟨hr, hl3, hl4, hk4, _⟩ := fin none W3 Wa hla hda hk3
          exact ⟨_, _, hr, .inl ⟨rfl, ⟨hI _ _ _ hi3 (Soft.put _ hl3 rfl hl), hl4, hk4⟩, (hke.trans (But.put _ hSl)).trans (hkp3.trans (But.put _ hSl))⟩⟩
        | ret =>
          obtain ⟨hk3, hi3⟩ := hp
          obtain ⟨hr, hl3, hl4, hk4, _⟩ := fin (some .ret) W3 Wa hla hda hk3
          exact ⟨_, _, hr, .inr (.inl ⟨rfl, .ret, hIx _ _ _ hi3 (Soft.put _ hl3 rfl hl), hl4, hk4⟩)⟩
        | exit id =>
          obtain ⟨hk3, hi3⟩ := hp
          obtain ⟨hr, hl3, hl4, hk4, _⟩ := fin (some (.exit id)) W3 Wa hla hda hk3
          exact ⟨_, _, hr, .inr (.inl ⟨rfl, .exit id, hIx _ _ _ hi3 (Soft.put _ hl3 rfl hl), hl4, hk4⟩)⟩
        | goto t => exact hp.elim
        | panic ch => exact (hnp ch rfl).elim
        | outgrown => exact hp.elim
      by_cases hfd : ∃ fd, P.funcs[fn]? = some fd
      · obtain ⟨fd, hfd⟩ := hfd
        refine roundIn_p hfn hfd (main _ ?_)
        rintro e a3 W3 Wa hke hla hda hp
        cases e with
        | panic ch =>
          obtain ⟨hk3, hd3, _, hi3⟩ := hp
          exact ⟨hd3, .inr (.inr ⟨ch, rfl, hi3, (fin none W3 Wa hla hda hk3).2.2.2.2⟩)⟩
        | normal => exact rest' _ a3 W3 Wa hke hla hda hp (fun _ h => by cases h)
        | ret => exact rest' _ a3 W3 Wa hke hla hda hp (fun _ h => by cases h)
        | exit id => exact rest' _ a3 W3 Wa hke hla hda hp (fun _ h => by cases h)
        | goto t => exact rest' _ a3 W3 Wa hke hla hda hp (fun _ h => by cases h)
        | outgrown => exact rest' _ a3 W3 Wa hke hla hda hp (fun _ h => by cases h)
      · refine roundIn_of_wpIn hfn (main _ ?_)
        rintro e a3 W3 Wa hke hla hda hp
        cases e with
        | panic ch => exact (hfd (hp.2.2.1 fn hfn)).elim
        | normal => exact rest' _ a3 W3 Wa hke hla hda hp (fun _ h => by cases h)
        | ret => exact rest' _ a3 W3 Wa hke hla hda hp (fun _ h => by cases h)
        | exit id => exact rest' _ a3 W3 Wa hke hla hda hp (fun _ h => by cases h)
        | goto t => exact rest' _ a3 W3 Wa hke hla hda hp (fun _ h => by cases h)
        | outgrown => exact rest' _ a3 W3 Wa hke hla hda hp (fun _ h => by cases h)
    · rintro e W2 (⟨v, rfl, (⟨xs, hdn, hi, hlr, hdr⟩ | ⟨c, hi, hlr, hdr⟩)⟩ | ⟨ch, rfl, hi, hdr⟩)
      · exact ⟨none, _, by have := run_endLoop (P := P) hlr (by rw [hrec]; simp); rw [hrec] at this; exact this, hdone xs _ (hDn _ _ _ hdn (Soft.put _ hlr rfl hl)) (hI _ _ _ hi (Soft.put _ hlr rfl hl)) ((World.putObj_heap_other (by omega)).trans hdr)⟩
      · exact ⟨some c, _, by have := run_endLoop (P := P) hlr (by rw [hrec]; simp); rw [hrec] at this; exact this, hstop c _ (hIx _ _ _ hi (Soft.put _ hlr rfl hl)) ((World.putObj_heap_other (by omega)).trans hdr)⟩
      · exact hpanic ch _ hi hdr

end Go.Proofs.YtcpeeopdaakbaaaGreat

namespace Go.Proofs.YtcpeeopdaakbaaaGreat
open Go.RowKit Go.Shelf Cx

set_option maxRecDepth 100000 in
theorem letter_any0 (w : World) : Calls Tryz.prog 154 #[.int .i64 0] w fun e w' => e = .returned (.string ⟨#[0]⟩) ∧ w = w' := by
  go_enter Tryz.func154, Tryz.ntmps154
  go_wp2_with fail
  go_ret
  exact ⟨rfl, rfl⟩
set_option maxRecDepth 100000 in
theorem letter_any1 (w : World) : Calls Tryz.prog 154 #[.int .i64 1] w fun e w' => e = .returned (.string ⟨#[1]⟩) ∧ w = w' := by
  go_enter Tryz.func154, Tryz.ntmps154
  go_wp2_with fail
  go_ret
  exact ⟨rfl, rfl⟩
set_option maxRecDepth 100000 in
theorem letter_any2 (w : World) : Calls Tryz.prog 154 #[.int .i64 2] w fun e w' => e = .returned (.string ⟨#[2]⟩) ∧ w = w' := by
  go_enter Tryz.func154, Tryz.ntmps154
  go_wp2_with fail
  go_ret
  exact ⟨rfl, rfl⟩
theorem letter_ok (x : Nat) (h : x < 3) (w : World) : Calls Tryz.prog 154 #[.int .i64 x] w fun e w' => e = .returned (.string (str [x])) ∧ w = w' := by
  have : x = 0 ∨ x = 1 ∨ x = 2 := by omega
  rcases this with rfl | rfl | rfl
  · exact letter_any0 w
  · exact letter_any1 w
  · exact letter_any2 w

set_option maxRecDepth 100000 in
set_option maxHeartbeats 1000000 in
theorem times_ok (a b c : Nat) (u v : ByteArray) (hg : Good a b c) (hu : checkS u = 0) (hv : checkS v = 0) (w : World) :
    Calls Tryz.prog 112 #[.agg #[.int .i64 a, .int .i64 b, .int .i64 c], .string u, .string v] w fun e w' => e = .returned (.string (str (nfW a b c [u, v]))) ∧ Below w.heap.size w w' := by
  have HT := Lib.hid (fun W => Times_ok a b c u v hg hu hv W)
  clear hg hu hv
  go_enter Tryz.func112, Tryz.ntmps112
  go_wp2_with (go_at_call 121; refine (HT.out _).mono ?_; rintro e w1 ⟨rfl, hb1⟩; have HB1 := Lib.hid (below_a1 hb1); clear hb1)
  go_ret
  exact ⟨rfl, HB1.out⟩

theorem str_cat (u v : List Nat) : str u ++ str v = str (u ++ v) := by
  apply ByteArray.ext
  simp [str, ByteArray.data_append]
theorem nfW_empty (a b c : Nat) {l : List Nat} (h : ∀ y ∈ l, y < 3) : nfW a b c [str l, ⟨#[]⟩] = nf (mk l : G (Mo a b c)) := by
  show nf _ = nf _
  rw [cat_two, bytesN_str (low256 h)]
  show nf (mk (l ++ []) : G (Mo a b c)) = _
  rw [List.append_nil]

open Classical in
/-- the words that go on from a word by one of the first letters -/
noncomputable def goP (M : Nat → Nat → Nat) (t : List Nat) (j : Nat) : List (List Nat) := ((List.range j).map (fun x => t ++ [x])).filter (fun v => decide (nf (mk v : G M) = v))
theorem goP_zero (M : Nat → Nat → Nat) (t : List Nat) : goP M t 0 = [] := rfl
theorem goP_three (M : Nat → Nat → Nat) (t : List Nat) : goP M t 3 = goOn M t := rfl
theorem goP_yes {M : Nat → Nat → Nat} {t : List Nat} {j : Nat} (h : nf (mk (t ++ [j]) : G M) = t ++ [j]) : goP M t (j + 1) = goP M t j ++ [t ++ [j]] := by
  unfold goP
  rw [List.range_succ, List.map_append, List.filter_append]
  simp [h]
theorem goP_no {M : Nat → Nat → Nat} {t : List Nat} {j : Nat} (h : nf (mk (t ++ [j]) : G M) ≠ t ++ [j]) : goP M t (j + 1) = goP M t j := by
  unfold goP
  rw [List.range_succ, List.map_append, List.filter_append]
  simp [h]
theorem goP_len (M : Nat → Nat → Nat) (t : List Nat) (j : Nat) : (goP M t j).length ≤ j := by
  unfold goP
  refine Nat.le_trans (List.length_filter_le _ _) ?_
  simp
/-- the next ring, of the first k tiles -/
noncomputable def nextP (M : Nat → Nat → Nat) (l : List (List Nat)) (k : Nat) : List (List Nat) := (l.take k).flatMap (goOn M)
theorem nextP_succ {M : Nat → Nat → Nat} {l : List (List Nat)} {k : Nat} (h : k < l.length) : nextP M l (k + 1) = nextP M l k ++ goOn M (l.getD k []) := by
  unfold nextP
  rw [List.take_succ_eq_append_getElem h, List.flatMap_append]
  simp [List.getElem?_eq_getElem h]
theorem nextP_len (M : Nat → Nat → Nat) (l : List (List Nat)) : ∀ k, k ≤ l.length → (nextP M l k).length ≤ 3 * k
  | 0, _ => by simp [nextP]
  | k + 1, h => by
    rw [nextP_succ (by omega), List.length_append]
    have := nextP_len M l k (by omega)
    have h2 := goP_len M (l.getD k []) 3
    rw [goP_three] at h2
    omega

/-- a row of words -/
def cellsW (l : List (List Nat)) : List ByteArray := l.map str
theorem cellsW_length (l : List (List Nat)) : (cellsW l).length = l.length := by simp [cellsW]
theorem cellsW_get {l : List (List Nat)} {i : Nat} (h : i < l.length) : (cellsW l).getD i ⟨#[]⟩ = str (l.getD i []) := by
  simp [cellsW, List.getElem?_eq_getElem h]
theorem cellsW_append (l k : List (List Nat)) : cellsW (l ++ k) = cellsW l ++ cellsW k := by simp [cellsW]

set_option maxRecDepth 100000 in
set_option maxHeartbeats 4000000 in
theorem next_some {a b c : Nat} (hg : Good a b c) (l : List (List Nat)) (hl : l.length ≤ 30000000) (hw : ∀ t ∈ l, t.length ≤ 59 ∧ ∀ y ∈ t, y < 3) (pb cap : Nat) (w : World)
    (hlt : pb < w.heap.size) (hc : ∀ i, i < l.length → w.cell? ⟨pb, i, none⟩ = some (.string (str (l.getD i [])))) :
    Calls Tryz.prog 162 #[.agg #[.int .i64 a, .int .i64 b, .int .i64 c], .slice (some ⟨pb, 0, none⟩) l.length cap] w fun e w' => ∃ v, e = .returned v ∧ ListAt w' w.heap.size v (cellsW (l.flatMap (goOn (Mo a b c)))) ∧ Below w.heap.size w w' := by
  have hcell : ∀ W, Below w.heap.size w W → ∀ i, i < l.length → W.cell? ⟨pb, i, none⟩ = some (.string (str (l.getD i []))) := fun W hW i hi => (hW.cell (p := ⟨pb, i, none⟩) hlt).trans (hc i hi)
  have hword : ∀ i, i < l.length → ∀ j, j < 3 → (∀ y ∈ l.getD i [] ++ [j], y < 3) ∧ (l.getD i [] ++ [j]).length ≤ 60 := by
    intro i hi j hj
    have hm : l.getD i [] ∈ l := by simp [List.getElem?_eq_getElem hi]
    obtain ⟨h1, h2⟩ := hw _ hm
    refine ⟨fun y hy => ?_, by rw [List.length_append]; show _ + 1 ≤ 60; omega⟩
    rcases List.mem_append.1 hy with hy | hy
    · exact h2 y hy
    · rw [List.mem_singleton.1 hy]; exact hj
  have htimes : ∀ t : List Nat, (∀ y ∈ t, y < 3) → t.length ≤ 60 → ∀ W, Calls Tryz.prog 112 #[.agg #[.int .i64 a, .int .i64 b, .int .i64 c], .string (str t), .string ⟨#[]⟩] W fun e w' => e = .returned (.string (str (nf (mk t : G (Mo a b c))))) ∧ Below W.heap.size W w' := by
    intro t h1 h2 W
    have := times_ok a b c (str t) ⟨#[]⟩ hg (check_str h1 h2) rfl W
    rwa [nfW_empty a b c h1] at this
  have HC := Lib.hid (And.intro hcell (And.intro hword htimes))
  have HL := Lib.hid hl
  clear hcell hword htimes hc hw hg hl
  go_enter Tryz.func162, Tryz.ntmps162
  go_wp2_with fail
  have HB := Lib.hid (And.intro (SBlk.new w 95 [.int .i64 a, .int .i64 b, .int .i64 c]) ((Below.refl w.heap.size w).alloc (Nat.le_refl _) (.cells #[.int .i64 a, .int .i64 b, .int .i64 c] 95)))
  have hnm : l.length ≤ Go.maxLen := by have := HL.out; unfold Go.maxLen; omega
  go_loopg [5, 12] l.length (fun g s5 s12 wr => ∃ k : Nat, k ≤ l.length ∧ g = l.length - k ∧ s12 = .int .i64 (k : Int) ∧ Hid (ListAt wr (w.heap.size + 1) s5 (cellsW (nextP (Mo a b c) l k)) ∧ SBlk wr w.heap.size 95 [.int .i64 a, .int .i64 b, .int .i64 c] ∧ Below w.heap.size w wr))
  case atStart => exact ⟨0, Nat.zero_le _, rfl, rfl, Lib.hid ⟨.inl ⟨rfl, rfl⟩, HB.out.1, HB.out.2⟩⟩
  case round =>
    obtain ⟨k, hk, rfl, rfl, HI⟩ := hrel
    clear HB
    by_cases hlt2 : k < l.length
    · have hki : (k : Int) < (l.length : Int) := by omega
      have ck := HC.out.1 wr HI.out.2.2 k hlt2
      obtain ⟨t, ht⟩ : ∃ t, l.getD k [] = t := ⟨_, rfl⟩
      rw [ht] at ck
      have hww := HC.out.2.1 k hlt2
      rw [ht] at hww
      have HW := Lib.hid (And.intro hww ht)
      clear hww ht
      go_wp2_with fail
      go_loopg [5, 16] 3 (fun g s5 s16 wi => ∃ j : Nat, j ≤ 3 ∧ g = 3 - j ∧ s16 = .int .i64 (j : Int) ∧ Hid (ListAt wi (w.heap.size + 1) s5 (cellsW (nextP (Mo a b c) l k ++ goP (Mo a b c) t j)) ∧ SBlk wi w.heap.size 95 [.int .i64 a, .int .i64 b, .int .i64 c] ∧ Below w.heap.size w wi))
      case atStart => exact ⟨0, by omega, rfl, rfl, Lib.hid ⟨by rw [goP_zero, List.append_nil]; exact HI.out.1, HI.out.2⟩⟩
      case round =>
        obtain ⟨j, hj, rfl, rfl, HJ⟩ := hrel
        clear ck
        by_cases hj3 : j < 3
        · have hji : (j : Int) < 3 := by omega
          have ad := fun W => run_string_add_sum (P := Tryz.prog) (w := W) (str t) (str [j]) (by have := (HW.out.1 j hj3).2; rw [str_size, str_size]; simp at this ⊢; omega)
          rw [str_cat] at ad
          have b0 := HJ.out.2.1.cell 0
          have b1 := HJ.out.2.1.cell 1
          have b2 := HJ.out.2.1.cell 2
          simp only [List.getElem?_cons_zero, List.getElem?_cons_succ] at b0 b1 b2
          have hwj := HW.out.1 j hj3
          have HT := Lib.hid (fun W => HC.out.2.2 (t ++ [j]) hwj.1 hwj.2 W)
          clear hwj
          have hlen : (cellsW (nextP (Mo a b c) l k ++ goP (Mo a b c) t j)).length ≤ 100000000 := by
            rw [cellsW_length, List.length_append]
            have h1 := nextP_len (Mo a b c) l k (by omega)
            have h2 := goP_len (Mo a b c) t j
            have h3 := HL.out
            omega
          have HN := Lib.hid hlen
          clear hlen
          by_cases hN : nf (mk (t ++ [j]) : G (Mo a b c)) = t ++ [j]
          · have E : ((str (nf (mk (t ++ [j]) : G (Mo a b c)))).toList == (str (t ++ [j])).toList) = true := by rw [hN]; simp
            have HE := Lib.hid hN
            clear hN
            go_wp2_with (first
              | (go_at_call 154; refine (letter_ok j hj3 _).mono ?_; rintro e w1 ⟨rfl, rfl⟩)
              | (go_at_call 112; refine (HT.out _).mono ?_; rintro e w2 ⟨rfl, hb2⟩; have HB2 := Lib.hid hb2; clear hb2 b0 b1 b2)
              | (at_builtin; ((have hA := HJ.out.1.below ((HB2.out).alloc HB2.out.size (.cells #[.string (str (t ++ [j]))] 9))); (obtain ⟨v', w', hr, h1, h2⟩ := app_str _ _ _ _ hA (by have h1 := HJ.out.2.2.size; have h2 := HB2.out.size; have h3 := HJ.out.2.1.lt; simp; omega) HN.out w2.heap.size 1 (str (t ++ [j])) ((SBlk.new w2 9 [.string (str (t ++ [j]))]).cell 0)); (have HR := Lib.hid (And.intro h1 h2)); (clear hA h1 h2); (refine Lib.wpList_append_run _ rfl (.tmp 28) (.tmp 30) 28 28 rfl _ _ rfl rfl _ _ hr ?_); clear hr)))
            go_roundg (3 - (j + 1))
            case measure => omega
            case rel =>
              obtain ⟨h1, h2⟩ := HR.out
              have hb2 := HB2.out
              have hz : w.heap.size + 1 ≤ wr.heap.size := HJ.out.2.1.lt
              have h3 : Below (w.heap.size + 1) wr w' := ((hb2.mono hz).alloc (Nat.le_trans hz hb2.size) _).trans h2
              refine ⟨j + 1, by omega, rfl, by simp, Lib.hid ⟨?_, HJ.out.2.1.below h3 (by omega), HJ.out.2.2.trans (h3.mono (by omega))⟩⟩
              rw [goP_yes HE.out, ← List.append_assoc, cellsW_append]
              exact h1
          · have E : ((str (nf (mk (t ++ [j]) : G (Mo a b c)))).toList == (str (t ++ [j])).toList) = false := by
              rw [beq_eq_false_iff_ne]
              intro h
              apply hN
              have hl1 : ∀ y ∈ t ++ [j], y < 256 := low256 (HW.out.1 j hj3).1
              have hl2 : ∀ y ∈ nf (mk (t ++ [j]) : G (Mo a b c)), y < 256 := low256 (red_low (mk_nf _) (HW.out.1 j hj3).1 (nf_greedy _).red)
              exact str_inj hl2 hl1 (eqB_iff.1 (by unfold eqB; rw [h]; simp))
            have HE := Lib.hid hN
            clear hN
            go_wp2_with (first
              | (go_at_call 154; refine (letter_ok j hj3 _).mono ?_; rintro e w1 ⟨rfl, rfl⟩)
              | (go_at_call 112; refine (HT.out _).mono ?_; rintro e w2 ⟨rfl, hb2⟩; have HB2 := Lib.hid hb2; clear hb2 b0 b1 b2))
            go_roundg (3 - (j + 1))
            case measure => omega
            case rel =>
              have hb2 := HB2.out
              refine ⟨j + 1, by omega, rfl, by simp, Lib.hid ⟨?_, HJ.out.2.1.below hb2 HJ.out.2.1.lt, HJ.out.2.2.trans (hb2.mono HJ.out.2.2.size)⟩⟩
              rw [goP_no HE.out]
              exact HJ.out.1.below hb2
        · obtain rfl : j = 3 := by omega
          go_wp2_with fail
          go_roundg (l.length - (k + 1))
          case measure => omega
          case rel =>
            refine ⟨k + 1, by omega, rfl, (by have := HL.out; congr 1; unfold wrap64; omega), Lib.hid ⟨?_, HJ.out.2⟩⟩
            have := HJ.out.1
            rw [goP_three, ← HW.out.2, ← nextP_succ hlt2] at this
            exact this
    · obtain rfl : k = l.length := by omega
      go_wp2_with fail
      go_ret
      refine ⟨_, rfl, ?_, HI.out.2.2⟩
      have := HI.out.1
      unfold nextP at this
      rw [List.take_length] at this
      exact this.lower (by omega)
end Go.Proofs.YtcpeeopdaakbaaaGreat

namespace Go.Proofs.YtcpeeopdaakbaaaGreat
open Go.RowKit Go.Shelf Cx

set_option maxRecDepth 100000 in
set_option maxHeartbeats 1000000 in
theorem next_nil (a b c : Nat) (w : World) :
    Calls Tryz.prog 162 #[.agg #[.int .i64 a, .int .i64 b, .int .i64 c], .slice none 0 0] w fun e w' => e = .returned (.slice none 0 0) ∧ Below w.heap.size w w' := by
  go_enter Tryz.func162, Tryz.ntmps162
  go_wp2_with fail
  go_loopg [5, 12] 0 (fun g s5 s12 wr => s5 = .slice none 0 0 ∧ s12 = .int .i64 0 ∧ Below w.heap.size w wr)
  case atStart => exact ⟨rfl, rfl, (Below.refl _ w).alloc (Nat.le_refl _) _⟩
  case round =>
    obtain ⟨rfl, rfl, hB⟩ := hrel
    have HB := Lib.hid hB
    clear hB
    go_wp2_with fail
    go_ret
    exact ⟨rfl, HB.out⟩

theorem next_list {a b c : Nat} (hg : Good a b c) (l : List (List Nat)) (hl : l.length ≤ 30000000) (hw : ∀ t ∈ l, t.length ≤ 59 ∧ ∀ y ∈ t, y < 3) (B : Nat) (v : Value) (w : World) (hv : ListAt w B v (cellsW l)) :
    Calls Tryz.prog 162 #[.agg #[.int .i64 a, .int .i64 b, .int .i64 c], v] w fun e w' => ∃ v, e = .returned v ∧ ListAt w' w.heap.size v (cellsW (l.flatMap (goOn (Mo a b c)))) ∧ Below w.heap.size w w' := by
  rcases hv with ⟨h1, rfl⟩ | ⟨g, cap, ex, _, rfl, _, _, hb⟩
  · have : l = [] := by simpa [cellsW] using h1
    subst this
    refine (next_nil a b c w).mono ?_
    rintro e w' ⟨rfl, hB⟩
    exact ⟨_, rfl, .inl ⟨rfl, rfl⟩, hB⟩
  · rw [cellsW_length]
    refine next_some hg l hl hw g cap w hb.lt ?_
    intro i hi
    rw [hb.cell, List.getElem?_append_left (by rw [cellsT_length, cellsW_length]; exact hi), cellsT_get (by rw [cellsW_length]; exact hi), cellsW_get hi]

theorem ring_count (M : Nat → Nat → Nat) : ∀ n, (ringS M n).length ≤ 3 ^ n
  | 0 => Nat.le_refl _
  | n + 1 => by
    have ih := ring_count M n
    have h := nextP_len M (ringS M n) (ringS M n).length (Nat.le_refl _)
    unfold nextP at h
    rw [List.take_length] at h
    show ((ringS M n).flatMap (goOn M)).length ≤ 3 ^ n * 3
    omega
theorem ring_small (M : Nat → Nat → Nat) {n : Nat} (h : n ≤ 14) : (ringS M n).length ≤ 5000000 := by
  refine Nat.le_trans (ring_count M n) (Nat.le_trans (Nat.pow_le_pow_right (by omega) h) (by decide))
theorem ring_words {M : Nat → Nat → Nat} {n : Nat} (h : n ≤ 58) : ∀ t ∈ ringS M n, t.length ≤ 59 ∧ ∀ y ∈ t, y < 3 := fun t ht => by
  obtain ⟨_, h2, h3⟩ := (ring_mem n t).1 ht
  exact ⟨by omega, h3⟩

theorem ListAt.but {S : Nat → Prop} {A B : World} {D : Nat} {v : Value} {l : List ByteArray} (h : ListAt A D v l) (hb : But S A B) (hS : ∀ k, S k → k < D) : ListAt B D v l := by
  rcases h with h | ⟨g, cap, ex, h1, h2, h3, h4, h5⟩
  · exact .inl h
  · exact .inr ⟨g, cap, ex, h1, h2, h3, h4, h5.but hb (fun hs => by have := hS g hs; omega)⟩

/-- an item as it is handed over -/
def encV (v : Value) : Array Value := #[v]

set_option maxRecDepth 100000 in
set_option maxHeartbeats 4000000 in
theorem rings_iter {a b c : Nat} (hg : Good a b c) (n : Nat) (hn : n ≤ 14) (nb wb : Nat) (S : Nat → Prop) (hS1 : ¬ S nb) (hS2 : ¬ S wb) (w : World) (hSlt : ∀ k, S k → k < w.heap.size + 2) (h1 : SBlk w nb 3 [.int .i64 n]) (h2 : SBlk w wb 95 [.int .i64 a, .int .i64 b, .int .i64 c]) :
    IterP Fence.wide Tryz.prog 161 #[.pointer (some ⟨nb, 0, none⟩), .pointer (some ⟨wb, 0, none⟩)] encV S
      (fun pre x A => pre.length ≤ n ∧ ListAt A (w.heap.size + 2) x (cellsW (ringS (Mo a b c) pre.length))) (fun xs _ => xs.length = n + 1) w := by
  intro l J Jx Jp W hW hSW hsz hJ hY hj0
  have hb1 := h1.but hW hS1
  have hb2 := h2.but hW hS2
  have q := SBlk.new W 9 [.string ⟨#[]⟩]
  have c0 := (hb1.alloc (.cells #[.string ⟨#[]⟩] 9)).cell 0
  simp only [List.getElem?_cons_zero] at c0
  have hst : ListAt (W.alloc (.cells #[.string ⟨#[]⟩] 9)) (w.heap.size + 2) (.slice (some ⟨W.heap.size, 0, none⟩) 1 1) (cellsW (ringS (Mo a b c) 0)) :=
    .inr ⟨W.heap.size, 1, [], hsz, rfl, rfl, by unfold Go.maxLen; omega, q⟩
  have hj1 := hJ [] W (W.alloc (.cells #[.string ⟨#[]⟩] 9)) hj0 ((Below.refl _ W).alloc (Nat.le_refl _) _)
  have HB := Lib.hid (And.intro hst (And.intro (hb1.alloc (.cells #[.string ⟨#[]⟩] 9)) (And.intro (hb2.alloc (.cells #[.string ⟨#[]⟩] 9)) hj1)))
  have HN := Lib.hid (And.intro (And.intro hS1 (And.intro hS2 hSlt)) (And.intro hJ hY))
  have hNx : ∀ k, k ≤ 14 → ∀ (B : Nat) (v : Value) (A : World), ListAt A B v (cellsW (ringS (Mo a b c) k)) → Calls Tryz.prog 162 #[.agg #[.int .i64 a, .int .i64 b, .int .i64 c], v] A fun e w' => ∃ v, e = .returned v ∧ ListAt w' A.heap.size v (cellsW (ringS (Mo a b c) (k + 1))) ∧ Below A.heap.size A w' :=
    fun k hk B v A hv => next_list hg _ (by have := ring_small (Mo a b c) hk; omega) (ring_words (by omega)) B v A hv
  have HX := Lib.hid hNx
  have hnk := hn
  have HW0 := Lib.hid hsz
  clear hW hSW hsz hJ hY hj0 hb1 hb2 q hst hj1 h1 h2 hS1 hS2 hSlt hg hNx hn
  refine callsIn_of_wp Tryz.func161 rfl trivial ?_ rfl
  simp only [Tryz.ntmps161, List.size_toArray, List.length_cons, List.length_nil, Nat.reduceAdd, Nat.reduceSub, Array.replicate_succ, Array.replicate_zero, List.push_toArray, List.append_toArray, List.nil_append, List.cons_append]
  gi_wp2_with fail
  gi_loopg [4, 7] n (fun g s4 s7 wr => ∃ k pre, k ≤ n ∧ g = n - k ∧ s7 = .int .i64 (k : Int) ∧ Hid (pre.length = k ∧ W.heap.size ≤ wr.heap.size ∧ ListAt wr (w.heap.size + 2) s4 (cellsW (ringS (Mo a b c) k)) ∧ SBlk wr nb 3 [.int .i64 n] ∧ SBlk wr wb 95 [.int .i64 a, .int .i64 b, .int .i64 c] ∧ J pre wr))
  case atStart => exact ⟨0, [], Nat.zero_le _, rfl, rfl, Lib.hid ⟨rfl, by simp, HB.out⟩⟩
  case round =>
    obtain ⟨k, pre, hk, rfl, rfl, HK⟩ := hrel
    clear HB c0
    obtain ⟨fn, tmps, assign, body, hy, hR⟩ := yields (HN.out.2.2 pre _ wr ⟨by rw [HK.out.1]; exact hk, by rw [HK.out.1]; exact HK.out.2.2.1⟩ HK.out.2.2.2.2.2)
    unfold encV at hy
    by_cases hlt : k < n
    · have hki : (k : Int) < (n : Int) := by omega
      gi_wp2_with fail
      refine ⟨rfl, hR.mono ?_⟩
      rintro e W4 (⟨rfl, hj2, hk2⟩ | ⟨rfl, hj2⟩ | ⟨ch, rfl, hj2⟩)
      · have hw4 := HK.out.2.2.2.2.1.but hk2 HN.out.1.2.1
        have d0 := hw4.cell 0
        have d1 := hw4.cell 1
        have d2 := hw4.cell 2
        simp only [List.getElem?_cons_zero, List.getElem?_cons_succ] at d0 d1 d2
        have hl4 := HK.out.2.2.1.but hk2 HN.out.1.2.2
        have HC := Lib.hid (HX.out k (by omega) _ _ W4 hl4)
        have HK4 := Lib.hid (And.intro hj2 (And.intro hw4 (And.intro (HK.out.2.2.2.1.but hk2 HN.out.1.1) hk2.size)))
        clear hj2 hk2 hw4 hl4
        gi_wp2_with fail
        refine ⟨trivial, rfl, (callsIn_wide.2 HC.out).mono ?_⟩
        rintro e W5 ⟨v5, rfl, hl5, hb5⟩
        have H5 := Lib.hid (And.intro hl5 hb5)
        clear hl5 hb5 d0 d1 d2
        gi_wp2_with fail
        gi_roundg (n - (k + 1))
        case measure => omega
        case rel =>
          obtain ⟨hl5, hb5⟩ := H5.out
          obtain ⟨hj2, hw4, hn4, hz4⟩ := HK4.out
          have hz := HK.out.2.1
          exact ⟨k + 1, pre ++ [_], by omega, rfl, by simp, Lib.hid ⟨by rw [List.length_append, HK.out.1]; rfl, Nat.le_trans (Nat.le_trans hz hz4) hb5.size, hl5.lower (by have := HW0.out; omega), hn4.below hb5 hn4.lt, hw4.below hb5 hw4.lt, HN.out.2.1 _ _ _ hj2 hb5⟩⟩
      · gi_wp2_with fail
        refine bodyPost_ret (results_none rfl _ _ _) rfl ?_
        exact .inl ⟨_, rfl, .inr hj2⟩
      · dsimp only
        exact And.intro rfl (Or.inr ⟨ch, rfl, hj2⟩)
    · obtain rfl : k = n := by omega
      have hlen : ∀ x : Value, (pre ++ [x]).length = k + 1 := fun x => by rw [List.length_append, HK.out.1]; rfl
      have HL := Lib.hid hlen
      clear hlen
      gi_wp2_with fail
      refine ⟨rfl, hR.mono ?_⟩
      rintro e W4 (⟨rfl, hj2, hk2⟩ | ⟨rfl, hj2⟩ | ⟨ch, rfl, hj2⟩)
      · clear hk2
        gi_wp2_with fail
        go_end0
        exact .inl ⟨_, rfl, .inl ⟨_, HL.out _, hj2⟩⟩
      · gi_wp2_with fail
        go_end0
        exact .inl ⟨_, rfl, .inr hj2⟩
      · dsimp only
        exact And.intro rfl (Or.inr ⟨ch, rfl, hj2⟩)

set_option maxRecDepth 100000 in
theorem rings_any (a b c n : Nat) (w : World) :
    Calls Tryz.prog 114 #[.agg #[.int .i64 a, .int .i64 b, .int .i64 c], .int .i64 n] w fun e w' => e = .returned (.func (.func 161) #[] #[.pointer (some ⟨w.heap.size + 1, 0, none⟩), .pointer (some ⟨w.heap.size, 0, none⟩)]) ∧
      (w.alloc (.cells #[.int .i64 a, .int .i64 b, .int .i64 c] 95)).alloc (.cells #[.int .i64 n] 3) = w' := by
  have hmf := makeFunc_run
  go_enter Tryz.func114, Tryz.ntmps114
  go_wp2_with fail
  go_ret
  exact ⟨rfl, rfl⟩
end Go.Proofs.YtcpeeopdaakbaaaGreat

namespace Go.Proofs.YtcpeeopdaakbaaaGreat
open Go.RowKit Go.Shelf Cx
attribute [local go_sem] Oper.semAt_some

/-- the error of a ring's number -/
def faultT (a b c n most : Int) : Int := if allowedS a b c = 0 then (if n < 0 then 1 else if most < n then 4 else 0) else allowedS a b c

theorem errs_empty (a b c : Int) : errorsS a b c [⟨#[]⟩] = allowedS a b c := by
  unfold errorsS
  split
  · rename_i h; rw [h]; rfl
  · rfl

set_option maxRecDepth 100000 in
set_option maxHeartbeats 1000000 in
theorem tfault_any (a b c n most : Int) (w : World) :
    Calls Tryz.prog 69 #[.agg #[.int .i64 a, .int .i64 b, .int .i64 c], .int .i64 n, .int .i64 most] w fun e w' => e = .returned (.int .i64 (faultT a b c n most)) ∧ Below w.heap.size w w' := by
  by_cases hal : allowedS a b c = 0
  · have hft : faultT a b c n most = if n < 0 then 1 else if most < n then 4 else 0 := by unfold faultT; rw [if_pos hal]
    obtain ⟨hg, ea, eb, ec⟩ := allowed_good hal
    generalize a.toNat = n1 at hg ea
    generalize b.toNat = n2 at hg eb
    generalize c.toNat = n3 at hg ec
    subst ea eb ec
    have HN := Lib.hid (fun W => Normal_ok n1 n2 n3 ⟨#[]⟩ hg rfl W)
    rw [hft]
    clear hg hal hft
    by_cases h1 : n < 0
    · rw [if_pos h1]
      go_enter Tryz.func69, Tryz.ntmps69
      go_wp2_with (go_at_call 88; refine (HN.out _).mono ?_; rintro e w1 ⟨rfl, hb1⟩; have HB1 := Lib.hid (below_a1 hb1); clear hb1)
      go_ret
      exact ⟨rfl, HB1.out⟩
    · rw [if_neg h1]
      by_cases h2 : most < n
      · rw [if_pos h2]
        go_enter Tryz.func69, Tryz.ntmps69
        go_wp2_with (go_at_call 88; refine (HN.out _).mono ?_; rintro e w1 ⟨rfl, hb1⟩; have HB1 := Lib.hid (below_a1 hb1); clear hb1)
        go_ret
        exact ⟨rfl, HB1.out⟩
      · rw [if_neg h2]
        go_enter Tryz.func69, Tryz.ntmps69
        go_wp2_with (go_at_call 88; refine (HN.out _).mono ?_; rintro e w1 ⟨rfl, hb1⟩; have HB1 := Lib.hid (below_a1 hb1); clear hb1)
        go_ret
        exact ⟨rfl, HB1.out⟩
  · have hft : faultT a b c n most = allowedS a b c := by unfold faultT; rw [if_neg hal]
    have hE := errs_empty a b c
    have HN := Lib.hid (fun W => Normal_err a b c ⟨#[]⟩ (by intro x hx; rw [List.mem_singleton.1 hx]; show 0 ≤ _; omega) (by rw [hE]; exact hal) W)
    rw [hE] at HN
    rw [hft]
    clear hft hE
    generalize allowedS a b c = k at *
    have hk : (k != 0) = true := by simpa using hal
    clear hal
    go_enter Tryz.func69, Tryz.ntmps69
    go_wp2_with (go_at_call 88; refine (HN.out _).mono ?_; rintro e w1 ⟨rfl, hb1⟩; have HB1 := Lib.hid (below_a1 hb1); clear hb1)
    go_ret
    exact ⟨rfl, HB1.out⟩

set_option maxRecDepth 100000 in
set_option maxHeartbeats 1000000 in
theorem Ring_err (a b c n : Int) (he : faultT a b c n 14 ≠ 0) (w : World) :
    Calls Tryz.prog 62 #[.agg #[.int .i64 a, .int .i64 b, .int .i64 c], .int .i64 n] w fun e w' => e = .returned (.tuple #[.slice none 0 0, .int .i64 (faultT a b c n 14)]) ∧ Below w.heap.size w w' := by
  have HF := Lib.hid (fun W => tfault_any a b c n 14 W)
  generalize faultT a b c n 14 = k at *
  have hk : (k != 0) = true := by simpa using he
  clear he
  go_enter Tryz.func62, Tryz.ntmps62
  go_wp2_with (go_at_call 69; refine (HF.out _).mono ?_; rintro e w1 ⟨rfl, hb1⟩; have HB1 := Lib.hid (below_a1 hb1); clear hb1)
  go_ret2
  exact ⟨rfl, HB1.out⟩

theorem ListAt.soft {D E : Nat} {A B : World} {v : Value} {l : List ByteArray} (h : ListAt A D v l) (hs : Soft E A B) : ListAt B D v l := by
  rcases h with h | ⟨g, cap, ex, h1, h2, h3, h4, h5⟩
  · exact .inl h
  · exact .inr ⟨g, cap, ex, h1, h2, h3, h4, hs.sblk h5⟩

theorem ListAt.slice {D : Nat} {A : World} {v : Value} {l : List ByteArray} (h : ListAt A D v l) : ∃ p cap, v = .slice p l.length cap := by
  rcases h with ⟨rfl, rfl⟩ | ⟨g, cap, ex, h1, rfl, h3, h4, h5⟩
  · exact ⟨none, 0, rfl⟩
  · exact ⟨_, cap, rfl⟩
/-- the last ring so far -/
def LastR (a b c lb D : Nat) (w : World) (pre : List Value) (A : World) : Prop :=
  ∃ u, SBlk A lb 28 [u] ∧ Below w.heap.size w A ∧ (pre = [] ∨ ListAt A D u (cellsW (ringS (Mo a b c) (pre.length - 1))))
theorem LastR.soft {a b c lb D E : Nat} {w : World} {pre : List Value} {A B : World} (h : LastR a b c lb D w pre A) (hs : Soft E A B) (hw : w.heap.size ≤ E) : LastR a b c lb D w pre B := by
  obtain ⟨u, h1, h2, h3⟩ := h
  refine ⟨u, hs.sblk h1, hs.below h2 (Nat.le_refl _) hw, ?_⟩
  rcases h3 with h3 | h3
  · exact .inl h3
  · exact .inr (h3.soft hs)

set_option maxRecDepth 100000 in
set_option maxHeartbeats 4000000 in
theorem Ring_ok {a b c : Nat} (hg : Good a b c) (n : Nat) (hn : n ≤ 14) (w : World) :
    Calls Tryz.prog 62 #[.agg #[.int .i64 a, .int .i64 b, .int .i64 c], .int .i64 n] w fun e w' => ∃ v, e = .returned (.tuple #[v, .int .i64 0]) ∧ ListAt w' w.heap.size v (cellsW (ringS (Mo a b c) n)) ∧ Below w.heap.size w w' := by
  have hf := fun W => tfault_any a b c n 14 W
  have hz : faultT (a : Int) (b : Int) (c : Int) (n : Int) 14 = 0 := by
    unfold faultT
    rw [if_pos (allowedS_good hg), if_neg (by omega), if_neg (by omega)]
  rw [hz] at hf
  have HF := Lib.hid hf
  have HR := Lib.hid (fun W => rings_any a b c n W)
  clear hf hz
  refine (callsIn_wide (n := 1)).1 ?_
  refine callsIn_of_wp_marks Tryz.func62 rfl trivial ?_ rfl
  simp only [Tryz.ntmps62, List.size_toArray, List.length_cons, List.length_nil, Nat.reduceAdd, Nat.reduceSub, Array.replicate_succ, Array.replicate_zero, List.push_toArray, List.append_toArray, List.nil_append, List.cons_append]
  gi_wp2_with fail
  refine ⟨trivial, (callsIn_wide.2 (HF.out _)).mono ?_⟩
  rintro e w1 ⟨rfl, hb1⟩
  have q0 := (SBlk.new w 23 [.int .i64 a, .int .i64 b, .int .i64 c]).below hb1 (by simp)
  have b1 := below_a1 hb1
  have q1 := q0.alloc (.cells #[.slice none 0 0] 28)
  have p0 := q1.cell 0
  have p1 := q1.cell 1
  have p2 := q1.cell 2
  simp only [List.getElem?_cons_zero, List.getElem?_cons_succ] at p0 p1 p2
  have HB1 := Lib.hid (And.intro q0 b1)
  clear hb1 q0 b1 q1
  gi_wp2_with fail
  refine ⟨trivial, (callsIn_wide.2 (HR.out _)).mono ?_⟩
  rintro e W0 ⟨rfl, hw2⟩
  have z1 : (w1.alloc (.cells #[.slice none 0 0] 28)).heap.size = w1.heap.size + 1 := by simp
  rw [z1]
  have hst : SBlk W0 (w1.heap.size + 2) 3 [.int .i64 n] ∧ SBlk W0 (w1.heap.size + 1) 95 [.int .i64 a, .int .i64 b, .int .i64 c] ∧ SBlk W0 w1.heap.size 28 [.slice none 0 0] ∧ W0.heap.size = w1.heap.size + 3 ∧ Below w.heap.size w W0 := by
    rw [← hw2]
    refine ⟨SBlk.new' _ 3 [.int .i64 n] _ (by simp), (SBlk.new' _ 95 [.int .i64 a, .int .i64 b, .int .i64 c] _ (by simp)).alloc _, ((SBlk.new w1 28 [.slice none 0 0]).alloc _).alloc _, by simp, ?_⟩
    have hb := HB1.out.2
    have hz := hb.size
    exact ((hb.alloc hz _).alloc (by simp; omega) _).alloc (by simp; omega) _
  clear hw2 z1 p0 p1 p2
  obtain ⟨h1, h2, h3, hsz, hbl⟩ := hst
  have hz := HB1.out.2.size
  gi_wp2_with fail
  refine rangeP (gf := 161) (cap := #[.pointer (some ⟨w1.heap.size + 1 + 1, 0, none⟩), .pointer (some ⟨w1.heap.size + 1, 0, none⟩)]) (encs := encV) rfl trivial rfl (enters_of Tryz.func161 (by kernel_rfl) rfl) (fun _ => rfl) (S := fun k => k = w1.heap.size) (by rintro k rfl; omega)
    (rings_iter hg n hn (w1.heap.size + 1 + 1) (w1.heap.size + 1) _ (by rintro (h | h | h) <;> omega) (by rintro (h | h | h) <;> omega) W0 (by rintro k (h | h | h) <;> omega) h1 h2)
    (fun _ _ _ h _ => h)
    (fun pre A => LastR a b c w1.heap.size (W0.heap.size + 2) w pre A) (fun _ _ => False) (fun _ _ => False)
    (fun pre A B h hs => h.soft hs (by omega)) (fun _ _ _ h _ => h) ⟨_, h3, hbl, .inl rfl⟩
    (fun pre x a' A => (LastR a b c w1.heap.size (W0.heap.size + 2) w pre A ∧ ListAt A (W0.heap.size + 2) x (cellsW (ringS (Mo a b c) pre.length))) ∧ a' = { tmps := #[.agg #[.int .i64 a, .int .i64 b, .int .i64 c], .int .i64 n, .pointer (some ⟨w.heap.size, 0, none⟩), undef, .slice none 0 0, .int .i64 0, .int .i64 0, .pointer (some ⟨w1.heap.size, 0, none⟩), x, .agg #[.int .i64 a, .int .i64 b, .int .i64 c], .int .i64 n, .int .i64 0, .int .i64 0, .bool false, undef, .agg #[.int .i64 a, .int .i64 b, .int .i64 c], .agg #[.int .i64 a, .int .i64 b, .int .i64 c], .int .i64 n, .func (.func 161) #[] #[.pointer (some ⟨w1.heap.size + 1 + 1, 0, none⟩), .pointer (some ⟨w1.heap.size + 1, 0, none⟩)], x, undef, undef], defers := [] })
    (fun pre x a' A B h hs => ⟨⟨h.1.1.soft hs (by omega), h.1.2.soft hs⟩, h.2⟩) ?assign ?body ?done (fun _ _ h => h.elim) (fun _ _ h => h.elim)
  case assign =>
    intro l2 pre x A K hN hI hK
    unfold encV
    have HI := Lib.hid (And.intro hN hI)
    clear hN hI
    gi_wp2_with fail
    exact hK _ _ (But.refl _ _) ⟨⟨HI.out.2, HI.out.1.2⟩, rfl⟩
  case body =>
    rintro l2 pre x a' A ⟨⟨⟨u, g1, g2, g3⟩, g4⟩, rfl⟩
    obtain ⟨xp, xc, rfl⟩ := g4.slice
    have e0 := g1.cell 0
    have f0 := g1.frozen 0
    simp only [List.getElem?_cons_zero] at e0
    have HI := Lib.hid (And.intro g1 (And.intro g2 g4))
    clear g1 g2 g3 g4
    gi_wp2_with fail
    obtain ⟨g1, g2, g4⟩ := HI.out
    refine ⟨But.setCell (S := fun k => k = w1.heap.size) (But.refl _ _) (p := ⟨w1.heap.size, 0, none⟩) rfl _, _, g1.set 0 _, g2.setCell (p := ⟨w1.heap.size, 0, none⟩) (by show w.heap.size ≤ w1.heap.size; omega) _, .inr ?_⟩
    rw [List.length_append]
    show ListAt _ _ _ (cellsW (ringS (Mo a b c) (pre.length + 1 - 1)))
    rw [Nat.add_sub_cancel]
    refine g4.but (S := fun k => k = w1.heap.size) (But.setCell (S := fun k => k = w1.heap.size) (But.refl _ _) (p := ⟨w1.heap.size, 0, none⟩) rfl _) (by rintro k rfl; omega)
  case done =>
    rintro xs B hdn ⟨u, g1, g2, g3⟩ hK
    have e0 := g1.cell 0
    simp only [List.getElem?_cons_zero] at e0
    have HI := Lib.hid (And.intro g1 (And.intro g2 (And.intro g3 hdn)))
    clear g1 g2 g3 hdn
    gi_wp2_with fail
    refine ⟨by simp, .inl ⟨_, _, rfl, run_takeDeferred hK, ?_⟩⟩
    have hs : Soft W0.heap.size B (B.putObj W0.heap.size (.deferred none)) := Soft.put _ hK rfl (Nat.le_refl _)
    obtain ⟨g1, g2, g3, hdn⟩ := HI.out
    refine ⟨_, results_tmp2 rfl _ _ _, u, rfl, ?_, hs.below g2 (Nat.le_refl _) (by omega)⟩
    rcases g3 with rfl | g3
    · cases hdn
    · rw [hdn, Nat.add_sub_cancel] at g3
      exact (g3.soft hs).lower (by omega)
end Go.Proofs.YtcpeeopdaakbaaaGreat
