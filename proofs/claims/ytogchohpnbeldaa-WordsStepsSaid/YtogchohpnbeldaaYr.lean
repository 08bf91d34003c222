/- A range over an iterator whose rounds may panic: the law that is used here. -/
import Derived.Test.YtogchohpnbeldaaYa
import Derived.RangeFuncNested
import Derived.RangeFuncBound
import Derived.RangeFuncCalls
import Derived.RangeFuncLeaves
import Derived.Shelf.Abstract
import Derived.Shelf.RegionOpen
import Derived.OwnWalkIn
import Derived.TacticsInMore
import Derived.LoopNIn
import Derived.LoopIn
import Derived.Sort.LoopGhostIn
namespace Go.Proofs.Ytogchohpnbeldaa
open Go.RowKit

/-- B is A but for new blocks, and for the blocks of S -/
structure But (S : Nat → Prop) (A B : World) : Prop where
  os : B.os = A.os
  tape : B.tape = A.tape
  output : B.output = A.output
  size : A.heap.size ≤ B.heap.size
  block : ∀ k, k < A.heap.size → ¬ S k → B.heap[k]? = A.heap[k]?

section
variable {S T : Nat → Prop} {A B C : World}
theorem But.refl (S : Nat → Prop) (A : World) : But S A A := ⟨rfl, rfl, rfl, Nat.le_refl _, fun _ _ _ => rfl⟩
theorem But.trans (h : But S A B) (k : But S B C) : But S A C :=
  ⟨k.os.trans h.os, k.tape.trans h.tape, k.output.trans h.output, Nat.le_trans h.size k.size, fun i hi hb => (k.block i (Nat.lt_of_lt_of_le hi h.size) hb).trans (h.block i hi hb)⟩
theorem But.mono (h : But S A B) (hs : ∀ k, k < A.heap.size → S k → T k) : But T A B := ⟨h.os, h.tape, h.output, h.size, fun k hk hn => h.block k hk (fun hS => hn (hs k hk hS))⟩
theorem But.of_below {n : Nat} (h : Below n A B) (hn : ∀ k, k < A.heap.size → n ≤ k → S k) : But S A B := ⟨h.os, h.tape, h.output, h.size, fun k hk hnS => h.block k (by
  rcases Nat.lt_or_ge k n with h1 | h1
  · exact h1
  · exact absurd (hn k hk h1) hnS)⟩
theorem But.below {n : Nat} (h : But S A B) (hn : n ≤ A.heap.size) (hs : ∀ k, S k → n ≤ k) : Below n A B := ⟨h.os, h.tape, h.output, h.size, fun k hk => h.block k (by omega) (fun hS => by have := hs k hS; omega)⟩
theorem But.of_grown {g : Nat} (h : A.grownBy B (some g)) (hg : S g) : But S A B := ⟨h.os, h.tape, h.output, h.size, fun k hk hn => h.block k hk (by intro e; injection e with e; subst e; exact hn hg)⟩
theorem But.put {l : Nat} (o : Obj) (hl : S l) : But S A (A.putObj l o) := by
  have hg := grownBy_putObj' A l o
  exact ⟨hg.os, hg.tape, hg.output, hg.size, fun k _ hb => World.putObj_heap_other (by rintro rfl; exact hb hl)⟩
theorem But.setCell (h : But S A B) {p : Addr} (hp : S p.block) (v : Value) : But S A (B.setCell p v) :=
  ⟨h.os, h.tape, h.output, by simpa [World.setCell] using h.size, fun k hk hb => (Below.heap_setCell B p v k (by rintro rfl; exact hb hp)).trans (h.block k hk hb)⟩
theorem But.drew (h : But S A B) : But S A B.drew := ⟨h.os, h.tape, h.output, h.size, h.block⟩
theorem But.drewN (h : But S A B) (n : Nat) : But S A (B.drewN n) := ⟨h.os, h.tape, h.output, h.size, h.block⟩
theorem But.alloc (h : But S A B) (o : Obj) : But S A (B.alloc o) := ⟨h.os, h.tape, h.output, by simpa using Nat.le_succ_of_le h.size, fun k hk hb => (Below.heap_alloc B o k (Nat.lt_of_lt_of_le hk h.size)).trans (h.block k hk hb)⟩
theorem SBlk.but {b : Nat} {Ty : TypeId} {cs : List Value} (h : SBlk A b Ty cs) (hb : But S A B) (hn : ¬ S b) : SBlk B b Ty cs := (hb.block b h.lt hn).trans h
end

/-- B is A but for new blocks, and for blocks from D on that hold no cells -/
structure Soft (D : Nat) (A B : World) : Prop where
  os : B.os = A.os
  tape : B.tape = A.tape
  output : B.output = A.output
  size : A.heap.size ≤ B.heap.size
  keep : ∀ (k : Nat) (o : Obj), A.heap[k]? = some o → (k < D ∨ o.isCells = true) → B.heap[k]? = some o

theorem Soft.of_below {D : Nat} {A B : World} (h : Below A.heap.size A B) : Soft D A B :=
  ⟨h.os, h.tape, h.output, h.size, fun k _ hk _ => (h.block k (Array.getElem?_eq_some_iff.1 hk).1).trans hk⟩

theorem Soft.put {D l : Nat} {A : World} {o : Obj} (o' : Obj) (hl : A.heap[l]? = some o) (ho : o.isCells = false) (hD : D ≤ l) : Soft D A (A.putObj l o') := by
  have hg := grownBy_putObj' A l o'
  refine ⟨hg.os, hg.tape, hg.output, hg.size, fun k q hk hq => ?_⟩
  have hne : k ≠ l := by
    rintro rfl
    rw [hl] at hk
    cases hk
    rcases hq with h | h
    · omega
    · rw [ho] at h; cases h
  exact (World.putObj_heap_other hne).trans hk
theorem Soft.sblk {D : Nat} {A B : World} {b : Nat} {T : TypeId} {cs : List Value} (h : Soft D A B) (hs : SBlk A b T cs) : SBlk B b T cs := h.keep b _ hs (.inr rfl)
theorem Soft.below {D n : Nat} {w A B : World} (h : Soft D A B) (hb : Below n w A) (hn : n ≤ w.heap.size) (hD : n ≤ D) : Below n w B := by
  refine ⟨h.os.trans hb.os, h.tape.trans hb.tape, h.output.trans hb.output, Nat.le_trans hb.size h.size, fun k hk => ?_⟩
  have hk2 : k < A.heap.size := Nat.lt_of_lt_of_le (Nat.lt_of_lt_of_le hk hn) hb.size
  rw [h.keep k A.heap[k] (Array.getElem?_eq_getElem hk2) (.inl (by omega)), ← Array.getElem?_eq_getElem hk2]
  exact hb.block k hk
theorem Soft.but {D : Nat} {S : Nat → Prop} {w A B : World} (h : Soft D A B) (hb : But S w A) (hD : w.heap.size ≤ D) : But S w B := by
  refine ⟨h.os.trans hb.os, h.tape.trans hb.tape, h.output.trans hb.output, Nat.le_trans hb.size h.size, fun k hk hn => ?_⟩
  have hk2 : k < A.heap.size := Nat.lt_of_lt_of_le hk hb.size
  rw [h.keep k A.heap[k] (Array.getElem?_eq_getElem hk2) (.inl (by omega)), ← Array.getElem?_eq_getElem hk2]
  exact hb.block k hk hn

theorem KeepsOthers.of_below {A B : World} (h : Below A.heap.size A B) : KeepsOthers A B := ⟨h.size, fun k _ hk _ => (h.block k (Array.getElem?_eq_some_iff.1 hk).1).trans hk⟩
theorem KeepsOthers.of_only {A B : World} {g : Nat} {T : TypeId} {cs : List Value} (h : A.grownBy B (some g)) (hs : SBlk A g T cs) : KeepsOthers A B :=
  ⟨h.size, fun k o hk hc => (h.block k (Array.getElem?_eq_some_iff.1 hk).1 (by
    intro e; injection e with e; subst e
    rw [hs] at hk; injection hk with hk; subst hk; cases hc)).trans hk⟩

/-- what is asked at a round's end, a panic let in -/
def roundPostP (P : Program) (l : Nat) (R : Ending → World → Prop) : Exit → Act → World → Prop
  | .panic ch, a, w => a.defers = [] ∧ R (.panicked ch) w
  | e, a, w => roundPost P l R e a w

theorem roundIn_p {F : Fence} {n : Nat} {P : Program} {l : Nat} {f : FuncId} {fd : Func} {tmps : Array Value} {assign body : Code} {w : World} {R : Ending → World → Prop} (hF : F.fn f) (hfd : P.funcs[f]? = some fd)
    (h : assign.wpIn (F.inRound l) n P (Exit.then (fun a₁ w₁ => ∃ w₂, (Instr.beginRound l).run P w₁ = .ok () w₂ ∧ body.wpIn (F.inRound l) n P (roundPostP P l R) a₁ w₂) (fun _ _ _ => False))
      { tmps := tmps, defers := [] } w) :
    RoundIn F n P l f tmps assign body w R := by
  refine ⟨hF, fun c cs hr => ?_⟩
  let b : Frame := { (default : Frame) with fn := f, kind := .normal, roundOf := some l }
  have hb0 : Frame.round l f tmps assign body .normal = b.atR { tmps := tmps, defers := [] } [.code assign, .beginRound, .code body] := by
    simp [Frame.round, Frame.atR, b]
  have hr' : (F.inRound l).room ((c :: cs).length + 1 + n) := hr
  have hF' : (F.inRound l).fn b.fn := hF
  obtain ⟨e, a₁, w₁, hq, harr⟩ := h b [.beginRound, .code body] (c :: cs) rfl hF' hr'
  rw [← hb0] at harr
  cases e with
  | normal =>
    obtain ⟨w₂, hbr, hbody⟩ := hq
    have s1 : StepsIn (Machine.fenced P (F.inRound l)) P (lone (b.atR a₁ [.beginRound, .code body]) (c :: cs) w₁) (lone (b.atR a₁ [.code body]) (c :: cs) w₂) :=
      .one (fenced_calm (fr := b.atR a₁ [.beginRound, .code body]) hF' hr' rfl) (stepR_beginRound rfl hbr)
    obtain ⟨e₂, a₂, w₃, hq₂, harr₂⟩ := hbody b [] (c :: cs) rfl hF' hr'
    cases e₂ with
    | normal =>
      obtain ⟨v, w₄, hend, hR⟩ := hq₂
      exact ⟨.returned v, w₄, hR, (StepsIn.trans harr s1).trans (StepsIn.trans harr₂ (.one (fenced_calm (fr := b.atR a₂ []) hF' hr' rfl) (stepR_round_end rfl rfl hend)))⟩
    | ret =>
      obtain ⟨v, w₄, hend, hR⟩ := hq₂
      obtain ⟨k₁, hs⟩ := harr₂.2 rfl
      exact ⟨.returned v, w₄, hR, (StepsIn.trans harr s1).trans (StepsIn.trans hs (.one (fenced_calm (fr := b.atR a₂ (.code .ret :: k₁)) hF' hr' rfl) (stepR_round_ret rfl rfl hend)))⟩
    | exit id =>
      obtain ⟨v, w₄, hend, hR⟩ := hq₂
      obtain ⟨k₁, hk, hs⟩ := harr₂.2 rfl rfl
      exact ⟨.returned v, w₄, hR, (StepsIn.trans harr s1).trans (StepsIn.trans hs (.one (fenced_calm (fr := b.atR a₂ (.code (.exit id) :: k₁)) hF' hr' rfl) (stepR_round_exit rfl rfl hk hend)))⟩
    | goto t =>
      obtain ⟨v, w₄, hend, hR⟩ := hq₂
      obtain ⟨k₁, hk, hs⟩ := harr₂.2 rfl rfl
      exact ⟨.returned v, w₄, hR, (StepsIn.trans harr s1).trans (StepsIn.trans hs (.one (fenced_calm (fr := b.atR a₂ (.code (.goto t) :: k₁)) hF' hr' rfl) (stepR_round_goto rfl rfl hk hend)))⟩
    | panic chain =>
      obtain ⟨hd, hR⟩ := hq₂
      obtain ⟨todo, hs⟩ := harr₂
      have hlv : Frame.leaving P { b.atR a₂ todo with mode := .panicking chain } w₃ (.panicked chain) := ⟨rfl, hd, fd, hfd⟩
      exact ⟨.panicked chain, w₃, hR, (StepsIn.trans harr s1).trans (StepsIn.trans hs (.one (fenced_leaving (n := n) hF' hr' hlv) (step_leave_panicked hlv)))⟩
    | outgrown => exact hq₂.elim
  | exit id => exact hq.elim
  | goto t => exact hq.elim
  | ret => exact hq.elim
  | panic chain => exact hq.elim
  | outgrown => exact hq.elim

/-- the contract of an iterator over a list: a round keeps all but the blocks of S -/
def IterL {α : Type} (F : Fence) (P : Program) (gf : Nat) (cap : Array Value) (encs : α → Array Value) (S : Nat → Prop) (xs : List α) (w : World) : Prop :=
  ∀ (l : Nat) (J : List α → World → Prop) (Jx : World → Prop) (Jp : List PanicEntry → World → Prop) (W : World), But S w W →
    (∀ pre A B, J pre A → Below A.heap.size A B → J pre B) →
    (∀ pre x rest A, xs = pre ++ x :: rest → J pre A → YieldAt F 0 P l (encs x) A fun e B => (e = .returned (.bool true) ∧ J (pre ++ [x]) B ∧ But S A B) ∨ (e = .returned (.bool false) ∧ Jx B) ∨ (∃ ch, e = .panicked ch ∧ Jp ch B)) →
    J [] W →
    CallsIn F 0 P gf (#[.func (.yield l) #[] #[]] ++ cap) W fun e B => (∃ v, e = .returned v ∧ (J xs B ∨ Jx B)) ∨ (∃ ch, e = .panicked ch ∧ Jp ch B)

/-- how a round may be left -/
def postN {α : Type} (F : Fence) (P : Program) (S : Nat → Prop) (I : List α → World → Prop) (Ix : Code → World → Prop) (Ip : List PanicEntry → World → Prop) (pre : List α) (x : α) (A : World) : Exit → Act → World → Prop
  | .normal, _, B => KeepsOthers A B ∧ But S A B ∧ I (pre ++ [x]) B
  | .ret, _, B => KeepsOthers A B ∧ Ix .ret B
  | .exit id, _, B => KeepsOthers A B ∧ Ix (.exit id) B
  | .goto _, _, _ => False
  | .panic ch, a, B => KeepsOthers A B ∧ a.defers = [] ∧ (∀ fn, F.fn fn → ∃ fd, P.funcs[fn]? = some fd) ∧ Ip ch B
  | .outgrown, _, _ => False

theorem rangeN {α : Type} {F : Fence} {P : Program} {g : Operand} {ps : Array Tmp} {assign body : Code} {Q : Exit → Act → World → Prop} {a : Act} {w : World} {gf : Nat} {cap : Array Value}
    (hro : F.round = none) (hF : F.fn gf)
    (hg : a.eval g = .func (.func gf) #[] cap) (eg : ∀ args w, (callFunc gf args).run P w = .ok (.enter gf args) w)
    {encs : α → Array Value} (hps : ∀ x, (encs x).size = ps.size) {S : Nat → Prop} {xs : List α} (hit : IterL F P gf cap encs (fun k => S k ∨ w.heap.size ≤ k) xs w)
    (I : List α → World → Prop) (Ix : Code → World → Prop) (Ip : List PanicEntry → World → Prop) (hI : ∀ k A B, I k A → Soft w.heap.size A B → I k B) (hIx : ∀ c A B, Ix c A → Soft w.heap.size A B → Ix c B) (h0 : I [] w)
    (Ax : List α → α → Act → World → Prop) (hAx : ∀ k x a' A B, Ax k x a' A → Soft w.heap.size A B → Ax k x a' B)
    (hassign : ∀ (l : Nat) (pre : List α) (x : α) (rest : List α) (A : World) (K : Act → World → Prop), xs = pre ++ x :: rest → I pre A → (∀ a' B, KeepsOthers A B → But (fun k => S k ∨ w.heap.size ≤ k) A B → Ax pre x a' B → K a' B) →
      assign.wpIn (F.inRound l) 0 P (Exit.then K (fun _ _ _ => False)) { tmps := (ps.zip (encs x)).foldl (fun t (p, v) => t.setIfInBounds p v) a.tmps, defers := [] } A)
    (hbody : ∀ (l : Nat) (pre : List α) (x : α) (rest : List α) (a' : Act) (A : World), xs = pre ++ x :: rest → Ax pre x a' A → body.wpIn (F.inRound l) 0 P (postN F P (fun k => S k ∨ w.heap.size ≤ k) I Ix Ip pre x A) a' A)
    (hdone : ∀ (B : World), I xs B → B.heap[w.heap.size]? = some (.deferred (some [])) → Q .normal { a with defers := { target := .collected w.heap.size, args := #[] } :: a.defers } B)
    (hstop : ∀ (c : Code) (B : World), Ix c B → B.heap[w.heap.size]? = some (.deferred (some [])) → c.wpIn F 1 P Q { a with defers := { target := .collected w.heap.size, args := #[] } :: a.defers } B)
    (hpanic : ∀ (ch : List PanicEntry) (B : World), Ip ch B → B.heap[w.heap.size]? = some (.deferred (some [])) → Q (.panic ch) { a with defers := { target := .collected w.heap.size, args := #[] } :: a.defers } B) :
    (Code.rangeFunc g ps assign body).wpIn F 1 P Q a w := by
  refine wpIn_rangeFunc ?_
  intro fn hfn
  rw [hro]
  obtain ⟨rec, hrec⟩ : ∃ rec : LoopState → Option Code → Loop, rec = fun st pe => { state := st, pending := pe, fn, tmps := a.tmps, params := ps, assign, body, defers := w.heap.size } := ⟨_, rfl⟩
  obtain ⟨W1, hW1⟩ : ∃ W1, (w.alloc (.deferred (some []))).alloc (.loop (rec .ready none)) = W1 := ⟨_, rfl⟩
  have hbel : Below w.heap.size w W1 := by rw [← hW1]; exact ((Below.refl _ w).alloc (Nat.le_refl _) _).alloc (by simp) _
  have hL1 : W1.heap[w.heap.size + 1]? = some (.loop (rec .ready none)) := by
    rw [← hW1]; have := World.alloc_heap_new (w.alloc (.deferred (some []))) (.loop (rec .ready none)); rwa [World.size_alloc] at this
  have hK1 : W1.heap[w.heap.size]? = some (.deferred (some [])) := by
    rw [← hW1]; exact (Below.heap_alloc _ _ _ (by simp)).trans (World.alloc_heap_new w _)
  have hbut : But (fun k => S k ∨ w.heap.size ≤ k) w W1 := But.of_below hbel (fun k hk h => .inr h)
  refine ⟨w.heap.size + 1, [{ target := .collected w.heap.size, args := #[] }], W1, { target := .fn (.func gf) cap, args := #[.func (.yield (w.heap.size + 1)) #[] #[]] }, W1, gf,
    #[.func (.yield (w.heap.size + 1)) #[] #[]] ++ cap, W1, ?_, ?_, ?_, ?_, fun _ => Nat.le_refl _, ?_⟩
  · rw [← hW1, hrec]; exact run_enterLoop_outer _ _ _ _ _
  · simp only [resolve, hg]
    simp [go_sem]
  · intro f' hf'; simp [Target.leads] at hf'; subst hf'; exact hF
  · simp [invoke, go_sem, eg]
  · have hl : w.heap.size ≤ w.heap.size + 1 := Nat.le_succ _
    refine (hit (w.heap.size + 1)
      (fun k W => I k W ∧ W.heap[w.heap.size + 1]? = some (.loop (rec .ready none)) ∧ W.heap[w.heap.size]? = some (.deferred (some [])))
      (fun W => ∃ c, Ix c W ∧ W.heap[w.heap.size + 1]? = some (.loop (rec .done (some c))) ∧ W.heap[w.heap.size]? = some (.deferred (some [])))
      (fun ch W => Ip ch W ∧ W.heap[w.heap.size]? = some (.deferred (some [])))
      W1 hbut (fun k A B hs hb => ⟨hI _ _ _ hs.1 (Soft.of_below hb), (hb.block _ (Array.getElem?_eq_some_iff.1 hs.2.1).1).trans hs.2.1, (hb.block _ (Array.getElem?_eq_some_iff.1 hs.2.2).1).trans hs.2.2⟩)
      ?_ ⟨hI _ _ _ h0 (Soft.of_below hbel), hL1, hK1⟩).mono ?_
    · rintro pre x rest A hxs ⟨hi, hlr, hdr⟩
      have hy := run_yield (P := P) (args := encs x) hlr (by rw [hrec]; exact hps x)
      rw [hrec] at hy
      refine ⟨fn, _, assign, body, hy, ?_⟩
      have main : ∀ RP : Exit → Act → World → Prop, (∀ (e : Exit) (a3 : Act) (W3 Wa : World), But (fun k => S k ∨ w.heap.size ≤ k) A Wa → Wa.heap[w.heap.size + 1]? = some (.loop (rec .ready none)) → Wa.heap[w.heap.size]? = some (.deferred (some [])) →
          postN F P (fun k => S k ∨ w.heap.size ≤ k) I Ix Ip pre x (Wa.putObj (w.heap.size + 1) (.loop { rec .ready none with state := .busy })) e a3 W3 → RP e a3 W3) →
          assign.wpIn (F.inRound (w.heap.size + 1)) 0 P (Exit.then (fun a₁ w₁ => ∃ w₂, (Instr.beginRound (w.heap.size + 1)).run P w₁ = .ok () w₂ ∧ body.wpIn (F.inRound (w.heap.size + 1)) 0 P RP a₁ w₂) (fun _ _ _ => False))
            { tmps := (ps.zip (encs x)).foldl (fun t (p, v) => t.setIfInBounds p v) a.tmps, defers := [] } A := by
        intro RP hRP
        refine hassign _ pre x rest A _ hxs hi ?_
        intro a' Wa hko hke hax
        have hla := hko.same _ _ hlr rfl
        have hda := hko.same _ _ hdr rfl
        refine ⟨_, run_beginRound hla (by rw [hrec]), ?_⟩
        exact wpIn_mono (hbody _ pre x rest a' _ hxs (hAx _ _ _ _ _ hax (Soft.put _ hla rfl hl))) (fun e a3 W3 hp => hRP e a3 W3 Wa hke hla hda hp)
      have fin : ∀ (jump : Option Code) (W3 Wa : World), Wa.heap[w.heap.size + 1]? = some (.loop (rec .ready none)) → Wa.heap[w.heap.size]? = some (.deferred (some [])) → KeepsOthers (Wa.putObj (w.heap.size + 1) (.loop { rec .ready none with state := .busy })) W3 →
          (Instr.endRound (w.heap.size + 1) jump).run P W3 = .ok (.bool jump.isNone) (W3.putObj (w.heap.size + 1) (.loop (rec (if jump.isNone then .ready else .done) jump))) ∧
          W3.heap[w.heap.size + 1]? = some (.loop { rec .ready none with state := .busy }) ∧
          (W3.putObj (w.heap.size + 1) (.loop (rec (if jump.isNone then .ready else .done) jump))).heap[w.heap.size + 1]? = some (.loop (rec (if jump.isNone then .ready else .done) jump)) ∧
          (W3.putObj (w.heap.size + 1) (.loop (rec (if jump.isNone then .ready else .done) jump))).heap[w.heap.size]? = some (.deferred (some [])) ∧ W3.heap[w.heap.size]? = some (.deferred (some [])) := fun jump W3 Wa hla hda hk3 => by
        have hlt : w.heap.size + 1 < Wa.heap.size := (Array.getElem?_eq_some_iff.1 hla).1
        have hl2 : (Wa.putObj (w.heap.size + 1) (.loop { rec .ready none with state := .busy })).heap[w.heap.size + 1]? = some (.loop { rec .ready none with state := .busy }) := World.putObj_heap_same hlt
        have hd2 : (Wa.putObj (w.heap.size + 1) (.loop { rec .ready none with state := .busy })).heap[w.heap.size]? = some (.deferred (some [])) := (World.putObj_heap_other (by omega)).trans hda
        have hl3 := hk3.same _ _ hl2 rfl
        have := run_endRound (P := P) jump hl3
        rw [hrec] at this ⊢
        exact ⟨this, by rw [hrec] at hl3; exact hl3, World.putObj_heap_same (Array.getElem?_eq_some_iff.1 hl3).1, (World.putObj_heap_other (by omega)).trans (hk3.same _ _ hd2 rfl), hk3.same _ _ hd2 rfl⟩
      have hSl : (fun k => S k ∨ w.heap.size ≤ k) (w.heap.size + 1) := .inr (by omega)
      have rest' : ∀ (e : Exit) (a3 : Act) (W3 Wa : World), But (fun k => S k ∨ w.heap.size ≤ k) A Wa → Wa.heap[w.heap.size + 1]? = some (.loop (rec .ready none)) → Wa.heap[w.heap.size]? = some (.deferred (some [])) →
          postN F P (fun k => S k ∨ w.heap.size ≤ k) I Ix Ip pre x (Wa.putObj (w.heap.size + 1) (.loop { rec .ready none with state := .busy })) e a3 W3 → (∀ ch, e ≠ .panic ch) →
          roundPost P (w.heap.size + 1) (fun e B => (e = .returned (.bool true) ∧ (I (pre ++ [x]) B ∧ B.heap[w.heap.size + 1]? = some (.loop (rec .ready none)) ∧ B.heap[w.heap.size]? = some (.deferred (some []))) ∧ But (fun k => S k ∨ w.heap.size ≤ k) A B) ∨
            (e = .returned (.bool false) ∧ ∃ c, Ix c B ∧ B.heap[w.heap.size + 1]? = some (.loop (rec .done (some c))) ∧ B.heap[w.heap.size]? = some (.deferred (some []))) ∨ (∃ ch, e = .panicked ch ∧ Ip ch B ∧ B.heap[w.heap.size]? = some (.deferred (some [])))) e a3 W3 := by
        rintro e a3 W3 Wa hke hla hda hp hnp
        cases e with
        | normal =>
          obtain ⟨hk3, hkp3, hi3⟩ := hp
          obtain ⟨hr, hl3, hl4, hk4, _⟩ := fin none W3 Wa hla hda hk3
          exact ⟨_, _, hr, .inl ⟨rfl, ⟨hI _ _ _ hi3 (Soft.put _ hl3 rfl hl), hl4, hk4⟩, (hke.trans (But.put _ hSl)).trans (hkp3.trans (But.put _ hSl))⟩⟩
        | ret =>
          obtain ⟨hk3, hi3⟩ := hp
          obtain ⟨hr, hl3, hl4, hk4, _⟩ := fin (some .ret) W3 Wa hla hda hk3
          exact ⟨_, _, hr, .inr (.inl ⟨rfl, .ret, hIx _ _ _ hi3 (Soft.put _ hl3 rfl hl), hl4, hk4⟩)⟩
        | exit id =>
          obtain ⟨hk3, hi3⟩ := hp
          obtain ⟨hr, hl3, hl4, hk4, _⟩ := fin (some (.exit id)) W3 Wa hla hda hk3
          exact ⟨_, _, hr, .inr (.inl ⟨rfl, .exit id, hIx _ _ _ hi3 (Soft.put _ hl3 rfl hl), hl4, hk4⟩)⟩
        | goto t => exact hp.elim
        | panic ch => exact (hnp ch rfl).elim
        | outgrown => exact hp.elim
      by_cases hfd : ∃ fd, P.funcs[fn]? = some fd
      · obtain ⟨fd, hfd⟩ := hfd
        refine roundIn_p hfn hfd (main _ ?_)
        rintro e a3 W3 Wa hke hla hda hp
        cases e with
        | panic ch =>
          obtain ⟨hk3, hd3, _, hi3⟩ := hp
          exact ⟨hd3, .inr (.inr ⟨ch, rfl, hi3, (fin none W3 Wa hla hda hk3).2.2.2.2⟩)⟩
        | normal => exact rest' _ a3 W3 Wa hke hla hda hp (fun _ h => by cases h)
        | ret => exact rest' _ a3 W3 Wa hke hla hda hp (fun _ h => by cases h)
        | exit id => exact rest' _ a3 W3 Wa hke hla hda hp (fun _ h => by cases h)
        | goto t => exact rest' _ a3 W3 Wa hke hla hda hp (fun _ h => by cases h)
        | outgrown => exact rest' _ a3 W3 Wa hke hla hda hp (fun _ h => by cases h)
      · refine roundIn_of_wpIn hfn (main _ ?_)
        rintro e a3 W3 Wa hke hla hda hp
        cases e with
        | panic ch => exact (hfd (hp.2.2.1 fn hfn)).elim
        | normal => exact rest' _ a3 W3 Wa hke hla hda hp (fun _ h => by cases h)
        | ret => exact rest' _ a3 W3 Wa hke hla hda hp (fun _ h => by cases h)
        | exit id => exact rest' _ a3 W3 Wa hke hla hda hp (fun _ h => by cases h)
        | goto t => exact rest' _ a3 W3 Wa hke hla hda hp (fun _ h => by cases h)
        | outgrown => exact rest' _ a3 W3 Wa hke hla hda hp (fun _ h => by cases h)
    · rintro e W2 (⟨v, rfl, (⟨hi, hlr, hdr⟩ | ⟨c, hi, hlr, hdr⟩)⟩ | ⟨ch, rfl, hi, hdr⟩)
      · exact ⟨none, _, by have := run_endLoop (P := P) hlr (by rw [hrec]; simp); rw [hrec] at this; exact this, hdone _ (hI _ _ _ hi (Soft.put _ hlr rfl hl)) ((World.putObj_heap_other (by omega)).trans hdr)⟩
      · exact ⟨some c, _, by have := run_endLoop (P := P) hlr (by rw [hrec]; simp); rw [hrec] at this; exact this, hstop c _ (hIx _ _ _ hi (Soft.put _ hlr rfl hl)) ((World.putObj_heap_other (by omega)).trans hdr)⟩
      · exact hpanic ch _ hi hdr

end Go.Proofs.Ytogchohpnbeldaa
