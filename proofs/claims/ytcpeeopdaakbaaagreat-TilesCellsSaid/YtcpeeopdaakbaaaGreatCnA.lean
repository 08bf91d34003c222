/- Power series, as functions of the exponent: the product. Rows of coefficients modulo a number, as power series. The program's fraction, as power series; coefficients. The reference's fraction, as power series. The coefficients that the reference counts are the program's. -/
import Derived.Test.YtcpeeopdaakbaaaGreatCoxA
import Derived.Test.YtcpeeopdaakbaaaGreatTaX
namespace Go.Proofs.YtcpeeopdaakbaaaGreat.Ps

/-- the sum of the first n values -/
def sumTo : Nat → (Nat → Int) → Int
  | 0, _ => 0
  | n + 1, f => sumTo n f + f n
theorem sumTo_congr {f g : Nat → Int} : ∀ {n : Nat}, (∀ i, i < n → f i = g i) → sumTo n f = sumTo n g
  | 0, _ => rfl
  | n + 1, h => by
    show sumTo n f + f n = sumTo n g + g n
    rw [sumTo_congr (fun i hi => h i (by omega)), h n (by omega)]
theorem sumTo_add (f g : Nat → Int) : ∀ n, sumTo n (fun i => f i + g i) = sumTo n f + sumTo n g
  | 0 => rfl
  | n + 1 => by
    show sumTo n _ + (f n + g n) = (sumTo n f + f n) + (sumTo n g + g n)
    rw [sumTo_add f g n]; omega
theorem sumTo_mul (c : Int) (f : Nat → Int) : ∀ n, sumTo n (fun i => c * f i) = c * sumTo n f
  | 0 => by simp [sumTo]
  | n + 1 => by
    show sumTo n _ + c * f n = c * (sumTo n f + f n)
    rw [sumTo_mul c f n, Int.mul_add]
theorem sumTo_zero : ∀ n, sumTo n (fun _ => 0) = 0
  | 0 => rfl
  | n + 1 => by show sumTo n _ + 0 = 0; rw [sumTo_zero n]; rfl
theorem sumTo_front (f : Nat → Int) : ∀ n, sumTo (n + 1) f = f 0 + sumTo n (fun i => f (i + 1))
  | 0 => by simp [sumTo]
  | n + 1 => by
    show sumTo (n + 1) f + f (n + 1) = f 0 + (sumTo n (fun i => f (i + 1)) + f (n + 1))
    rw [sumTo_front f n]; omega
theorem sumTo_turn (f : Nat → Int) : ∀ n, sumTo (n + 1) (fun i => f (n - i)) = sumTo (n + 1) f
  | 0 => rfl
  | n + 1 => by
    rw [sumTo_front (fun i => f (n + 1 - i)) (n + 1)]
    show f (n + 1) + sumTo (n + 1) (fun i => f (n + 1 - (i + 1))) = sumTo (n + 1) f + f (n + 1)
    have : sumTo (n + 1) (fun i => f (n + 1 - (i + 1))) = sumTo (n + 1) (fun i => f (n - i)) := sumTo_congr (fun i _ => by rw [Nat.add_sub_add_right])
    rw [this, sumTo_turn f n]; omega

/-- the product of power series -/
def cv (f g : Nat → Int) : Nat → Int := fun n => sumTo (n + 1) (fun i => f i * g (n - i))
/-- the sum -/
def ad (f g : Nat → Int) : Nat → Int := fun n => f n + g n
/-- times t -/
def sh (f : Nat → Int) : Nat → Int
  | 0 => 0
  | n + 1 => f n
/-- times a number -/
def sc (c : Int) (f : Nat → Int) : Nat → Int := fun n => c * f n
/-- one -/
def un : Nat → Int
  | 0 => 1
  | _ + 1 => 0

theorem cv_comm (f g : Nat → Int) : cv f g = cv g f := by
  funext n
  show sumTo (n + 1) (fun i => f i * g (n - i)) = sumTo (n + 1) (fun i => g i * f (n - i))
  rw [← sumTo_turn (fun i => g i * f (n - i)) n]
  exact sumTo_congr (fun i hi => by
    have : n - (n - i) = i := by omega
    rw [this, Int.mul_comm])
theorem cv_ad (f g h : Nat → Int) : cv (ad f g) h = ad (cv f h) (cv g h) := by
  funext n
  show sumTo (n + 1) (fun i => (f i + g i) * h (n - i)) = sumTo (n + 1) _ + sumTo (n + 1) _
  rw [← sumTo_add]
  exact sumTo_congr (fun i _ => Int.add_mul _ _ _)
theorem cv_ad' (f g h : Nat → Int) : cv h (ad f g) = ad (cv h f) (cv h g) := by
  rw [cv_comm, cv_ad, cv_comm f, cv_comm g]
theorem cv_sc (c : Int) (f g : Nat → Int) : cv (sc c f) g = sc c (cv f g) := by
  funext n
  show sumTo (n + 1) (fun i => c * f i * g (n - i)) = c * sumTo (n + 1) _
  rw [← sumTo_mul]
  exact sumTo_congr (fun i _ => Int.mul_assoc _ _ _)
theorem cv_sc' (c : Int) (f g : Nat → Int) : cv g (sc c f) = sc c (cv g f) := by
  rw [cv_comm, cv_sc, cv_comm f]
theorem cv_sh (f g : Nat → Int) : cv (sh f) g = sh (cv f g) := by
  funext n
  cases n with
  | zero => show sumTo 1 _ = 0; simp [sumTo, sh]
  | succ n =>
    show sumTo (n + 1 + 1) (fun i => sh f i * g (n + 1 - i)) = sumTo (n + 1) _
    rw [sumTo_front]
    simp only [sh, Int.zero_mul, Int.zero_add]
    exact sumTo_congr (fun i _ => by rw [Nat.add_sub_add_right])
theorem cv_sh' (f g : Nat → Int) : cv g (sh f) = sh (cv g f) := by rw [cv_comm, cv_sh, cv_comm f]
theorem cv_un (f : Nat → Int) : cv un f = f := by
  funext n
  show sumTo (n + 1) (fun i => un i * f (n - i)) = f n
  rw [sumTo_front]
  have : sumTo n (fun i => un (i + 1) * f (n - (i + 1))) = sumTo n (fun _ => 0) := sumTo_congr (fun i _ => by simp [un])
  rw [this, sumTo_zero]
  simp [un]
theorem cv_un' (f : Nat → Int) : cv f un = f := by rw [cv_comm, cv_un]
theorem cv_zero (f : Nat → Int) : cv (fun _ => 0) f = fun _ => 0 := by
  funext n
  show sumTo (n + 1) (fun i => 0 * f (n - i)) = 0
  have : sumTo (n + 1) (fun i => 0 * f (n - i)) = sumTo (n + 1) (fun _ => 0) := sumTo_congr (fun i _ => by simp)
  rw [this, sumTo_zero]
/-- the head and the rest -/
theorem split (f : Nat → Int) : f = ad (sc (f 0) un) (sh (fun n => f (n + 1))) := by
  funext n
  cases n with
  | zero => simp [ad, sc, un, sh]
  | succ n => simp [ad, sc, un, sh]
theorem cv_split (f g : Nat → Int) (n : Nat) : cv f g n = f 0 * g n + sh (cv (fun n => f (n + 1)) g) n := by
  have h : cv f g = ad (sc (f 0) g) (sh (cv (fun n => f (n + 1)) g)) := by
    have e : cv f g = cv (ad (sc (f 0) un) (sh (fun n => f (n + 1)))) g := congrArg (fun x => cv x g) (split f)
    rw [e, cv_ad, cv_sc, cv_un, cv_sh]
  rw [h]; rfl
theorem cv_assoc (f g h : Nat → Int) : cv (cv f g) h = cv f (cv g h) := by
  funext n
  induction n generalizing f with
  | zero => show sumTo 1 _ = sumTo 1 _; simp [sumTo, cv, Int.mul_assoc]
  | succ n ih =>
    have e : cv f g = ad (sc (f 0) g) (sh (cv (fun n => f (n + 1)) g)) := by
      funext m; exact cv_split f g m
    rw [e, cv_ad, cv_sc, cv_sh, cv_split f (cv g h)]
    show f 0 * cv g h (n + 1) + cv (cv (fun n => f (n + 1)) g) h n = f 0 * cv g h (n + 1) + cv (fun n => f (n + 1)) (cv g h) n
    rw [ih]
theorem cv_left (f g h : Nat → Int) : cv f (cv g h) = cv g (cv f h) := by rw [← cv_assoc, cv_comm f g, cv_assoc]
/-- a series with a head of 1 can be struck -/
theorem cv_cancel {d u v : Nat → Int} (h0 : d 0 = 1) (h : cv d u = cv d v) : u = v := by
  have key : ∀ n, ∀ i, i < n → u i = v i := by
    intro n
    induction n with
    | zero => intro i hi; omega
    | succ n ih =>
      intro i hi
      rcases Nat.lt_or_ge i n with h1 | h1
      · exact ih i h1
      · obtain rfl : i = n := by omega
        have e := congrFun h i
        rw [cv_split, cv_split, h0] at e
        have e2 : sh (cv (fun n => d (n + 1)) u) i = sh (cv (fun n => d (n + 1)) v) i := by
          cases i with
          | zero => rfl
          | succ i =>
            show sumTo (i + 1) _ = sumTo (i + 1) _
            exact sumTo_congr (fun k _ => by rw [ih (i - k) (by omega)])
        omega
  funext n
  exact key (n + 1) n (by omega)
end Go.Proofs.YtcpeeopdaakbaaaGreat.Ps

namespace Go.Proofs.YtcpeeopdaakbaaaGreat.Ps

/-- the same modulo W -/
def Cg (W : Int) (x y : Int) : Prop := ∃ z, x = y + W * z
theorem Cg.refl (W x : Int) : Cg W x x := ⟨0, by simp⟩
theorem Cg.of_eq {W x y : Int} (h : x = y) : Cg W x y := h ▸ Cg.refl W x
theorem Cg.symm {W x y : Int} (h : Cg W x y) : Cg W y x := by obtain ⟨z, h⟩ := h; exact ⟨-z, by rw [h, Int.mul_neg]; omega⟩
theorem Cg.trans {W x y v : Int} (h : Cg W x y) (k : Cg W y v) : Cg W x v := by
  obtain ⟨z, h⟩ := h; obtain ⟨z', k⟩ := k; exact ⟨z' + z, by rw [h, k, Int.mul_add]; omega⟩
theorem Cg.add {W x y u v : Int} (h : Cg W x y) (k : Cg W u v) : Cg W (x + u) (y + v) := by
  obtain ⟨z, h⟩ := h; obtain ⟨z', k⟩ := k; exact ⟨z + z', by rw [h, k, Int.mul_add]; omega⟩
theorem Cg.sub {W x y u v : Int} (h : Cg W x y) (k : Cg W u v) : Cg W (x - u) (y - v) := by
  obtain ⟨z, h⟩ := h; obtain ⟨z', k⟩ := k; exact ⟨z - z', by rw [h, k, Int.mul_sub]; omega⟩
theorem Cg.mul {W x y u v : Int} (h : Cg W x y) (k : Cg W u v) : Cg W (x * u) (y * v) := by
  obtain ⟨z, h⟩ := h; obtain ⟨z', k⟩ := k; exact ⟨z * v + y * z' + W * z * z', by rw [h, k]; grind⟩
theorem Cg.emod {W x y : Int} (h : Cg W x y) : x % W = y % W := by
  obtain ⟨z, h⟩ := h; rw [h]; simp

/-- power series that are the same modulo W -/
def Ce (W : Int) (f g : Nat → Int) : Prop := ∀ n, Cg W (f n) (g n)
theorem Ce.refl (W : Int) (f : Nat → Int) : Ce W f f := fun _ => Cg.refl _ _
theorem Ce.trans {W : Int} {f g h : Nat → Int} (a : Ce W f g) (b : Ce W g h) : Ce W f h := fun n => (a n).trans (b n)
theorem Ce.ad {W : Int} {f g h k : Nat → Int} (a : Ce W f g) (b : Ce W h k) : Ce W (ad f h) (ad g k) := fun n => (a n).add (b n)
theorem sumTo_cg {W : Int} {f g : Nat → Int} : ∀ {n : Nat}, (∀ i, i < n → Cg W (f i) (g i)) → Cg W (sumTo n f) (sumTo n g)
  | 0, _ => Cg.refl _ _
  | n + 1, h => (sumTo_cg (fun i hi => h i (by omega))).add (h n (by omega))
theorem Ce.cv {W : Int} {f g h k : Nat → Int} (a : Ce W f g) (b : Ce W h k) : Ce W (cv f h) (cv g k) := fun n => sumTo_cg (fun i _ => (a i).mul (b (n - i)))
theorem Ce.sh {W : Int} {f g : Nat → Int} (a : Ce W f g) : Ce W (sh f) (sh g) := fun n => by
  cases n with
  | zero => exact Cg.refl _ _
  | succ n => exact a n

/-- the coefficients of a row -/
def co (l : List Int) : Nat → Int := fun n => l.getD n 0
theorem co_ge {l : List Int} {n : Nat} (h : l.length ≤ n) : co l n = 0 := by simp [co, List.getElem?_eq_none h]

/-- the coefficients, the greatest power first -/
def R (p : Nat) (f : Nat → Int) : Nat → Int := fun n => if n < p then f (p - 1 - n) else 0

/-- with at most p coefficients -/
def Sup (p : Nat) (f : Nat → Int) : Prop := ∀ n, p ≤ n → f n = 0
theorem co_sup (l : List Int) : Sup l.length (co l) := fun _ h => co_ge h
theorem cv_sup {f g : Nat → Int} {p q : Nat} (hf : Sup p f) (hg : Sup q g) (n : Nat) (h : p + q ≤ n + 1) : cv f g n = 0 := by
  have : cv f g n = sumTo (n + 1) (fun _ => 0) := sumTo_congr (fun i hi => by
    rcases Nat.lt_or_ge i p with h1 | h1
    · rw [hg (n - i) (by omega), Int.mul_zero]
    · rw [hf i h1, Int.zero_mul])
  rw [this, sumTo_zero]
/-- a shift by p -/
def shN : Nat → (Nat → Int) → Nat → Int
  | 0, f => f
  | p + 1, f => sh (shN p f)
theorem shN_at (f : Nat → Int) : ∀ p n, shN p f n = if p ≤ n then f (n - p) else 0
  | 0, n => by simp [shN]
  | p + 1, 0 => by simp [shN, sh]
  | p + 1, n + 1 => by
    show shN p f n = _
    rw [shN_at f p n]
    by_cases h : p ≤ n
    · rw [if_pos h, if_pos (by omega), Nat.add_sub_add_right]
    · rw [if_neg h, if_neg (by omega)]
theorem cv_shN (f g : Nat → Int) : ∀ p, cv (shN p f) g = shN p (cv f g)
  | 0 => rfl
  | p + 1 => by show cv (sh _) g = sh _; rw [cv_sh, cv_shN f g p]

theorem R_cons (p : Nat) (f : Nat → Int) : R (p + 1) f = ad (R p (fun n => f (n + 1))) (sc (f 0) (shN p un)) := by
  funext n
  show (if n < p + 1 then f (p + 1 - 1 - n) else 0) = (if n < p then f (p - 1 - n + 1) else 0) + f 0 * shN p un n
  rw [shN_at]
  rcases Nat.lt_trichotomy n p with h | h | h
  · rw [if_pos (by omega), if_pos h, if_neg (by omega)]
    have : p + 1 - 1 - n = p - 1 - n + 1 := by omega
    rw [this]; simp
  · subst h
    rw [if_pos (by omega), if_neg (by omega), if_pos (Nat.le_refl _)]
    have : n + 1 - 1 - n = 0 := by omega
    rw [this, Nat.sub_self]; simp [un]
  · rw [if_neg (by omega), if_neg (by omega), if_pos (by omega)]
    obtain ⟨k, hk⟩ : ∃ k, n - p = k + 1 := ⟨n - p - 1, by omega⟩
    rw [hk]; simp [un]

theorem R_cv {q : Nat} (hq : 1 ≤ q) (g : Nat → Int) (hg : Sup q g) : ∀ (p : Nat) (f : Nat → Int), 1 ≤ p → Sup p f → R (p + q - 1) (cv f g) = cv (R p f) (R q g)
  | 0, f, hp, _ => by omega
  | 1, f, _, hf => by
    have e1 : cv f g = sc (f 0) g := by
      funext n
      rw [cv_split]
      have : (fun n => f (n + 1)) = fun _ => (0 : Int) := by funext n; exact hf (n + 1) (by omega)
      rw [this, cv_zero]
      cases n <;> simp [sh, sc]
    have e2 : R 1 f = sc (f 0) un := by
      rw [R_cons]
      funext n
      show (if n < 0 then _ else 0) + _ = _
      simp [shN, sc]
    rw [e1, e2, cv_sc, cv_un, show 1 + q - 1 = q by omega]
    funext n
    show (if n < q then f 0 * g (q - 1 - n) else 0) = f 0 * (if n < q then g (q - 1 - n) else 0)
    split <;> simp
  | p + 2, f, _, hf => by
    have hf' : Sup (p + 1) (fun n => f (n + 1)) := fun n h => hf (n + 1) (by omega)
    have ih := R_cv hq g hg (p + 1) (fun n => f (n + 1)) (by omega) hf'
    have e1 : cv f g = ad (sc (f 0) g) (sh (cv (fun n => f (n + 1)) g)) := by funext n; exact cv_split f g n
    rw [R_cons (p + 1) f, cv_ad, ← ih, cv_sc, cv_shN, cv_un, e1]
    funext n
    show (if n < p + 2 + q - 1 then f 0 * g (p + 2 + q - 1 - 1 - n) + sh (cv (fun n => f (n + 1)) g) (p + 2 + q - 1 - 1 - n) else 0) = (if n < p + 1 + q - 1 then cv (fun n => f (n + 1)) g (p + 1 + q - 1 - 1 - n) else 0) + f 0 * shN (p + 1) (R q g) n
    rw [shN_at]
    rcases Nat.lt_trichotomy n (p + q) with h | h | h
    · rw [if_pos (by omega), if_pos (by omega)]
      have a1 : p + 2 + q - 1 - 1 - n = (p + 1 + q - 1 - 1 - n) + 1 := by omega
      rw [a1]
      show f 0 * g _ + cv _ g _ = _
      by_cases hp1 : p + 1 ≤ n
      · rw [if_pos hp1]
        show _ = _ + f 0 * (if n - (p + 1) < q then g (q - 1 - (n - (p + 1))) else 0)
        rw [if_pos (by omega), show q - 1 - (n - (p + 1)) = p + 1 + q - 1 - 1 - n + 1 by omega]
        omega
      · rw [if_neg hp1, hg (p + 1 + q - 1 - 1 - n + 1) (by omega)]
        omega
    · subst h
      rw [if_pos (by omega), if_neg (by omega), if_pos (by omega)]
      have a1 : p + 2 + q - 1 - 1 - (p + q) = 0 := by omega
      rw [a1]
      show f 0 * g 0 + 0 = 0 + f 0 * (if p + q - (p + 1) < q then g (q - 1 - (p + q - (p + 1))) else 0)
      rw [if_pos (by omega), show q - 1 - (p + q - (p + 1)) = 0 by omega]
      omega
    · rw [if_neg (by omega), if_neg (by omega), if_pos (by omega)]
      show 0 = 0 + f 0 * (if n - (p + 1) < q then g (q - 1 - (n - (p + 1))) else 0)
      rw [if_neg (by omega)]
      simp
theorem R_ad (p : Nat) (f g : Nat → Int) : R p (ad f g) = ad (R p f) (R p g) := by
  funext n
  show (if n < p then f _ + g _ else 0) = (if n < p then f _ else 0) + (if n < p then g _ else 0)
  split <;> simp
theorem R_up (p m : Nat) (f : Nat → Int) (hf : Sup p f) : R (p + m) f = shN m (R p f) := by
  funext n
  rw [shN_at]
  show (if n < p + m then f (p + m - 1 - n) else 0) = if m ≤ n then (if n - m < p then f (p - 1 - (n - m)) else 0) else 0
  by_cases h : m ≤ n
  · rw [if_pos h]
    by_cases h2 : n < p + m
    · rw [if_pos h2, if_pos (by omega), show p - 1 - (n - m) = p + m - 1 - n by omega]
    · rw [if_neg h2, if_neg (by omega)]
  · rw [if_neg h]
    by_cases h2 : n < p + m
    · rw [if_pos h2]; exact hf _ (by omega)
    · rw [if_neg h2]
theorem R_ce {W : Int} {f g : Nat → Int} (p : Nat) (h : Ce W f g) : Ce W (R p f) (R p g) := fun n => by
  show Cg W (if n < p then f _ else 0) (if n < p then g _ else 0)
  split
  · exact h _
  · exact Cg.refl _ _

section
variable {W : Int} {wr : Int → Int} (hw : ∀ y, Cg W (wr y) y)
include hw
theorem addAt_co (l : List Int) (i : Nat) (x : Int) (h : i < l.length) (n : Nat) : Cg W (co (addAt wr l i x) n) (co l n + if n = i then x else 0) := by
  show Cg W ((l.set i (wr (l.getD i 0 + x))).getD n 0) (l.getD n 0 + _)
  by_cases e : n = i
  · subst e
    rw [if_pos rfl]
    have : (l.set n (wr (l.getD n 0 + x))).getD n 0 = wr (l.getD n 0 + x) := by simp [List.getD, h]
    rw [this]
    exact hw _
  · rw [if_neg e]
    have : (l.set i (wr (l.getD i 0 + x))).getD n 0 = l.getD n 0 := by simp [List.getD, Ne.symm e]
    rw [this]
    exact Cg.of_eq (by omega)
theorem prodRow_co (c : Int) (b : List Int) (i : Nat) (l : List Int) (n : Nat) : ∀ m, i + m ≤ l.length → Cg W (co (prodRow wr c b i l m) n) (co l n + if i ≤ n ∧ n - i < m then c * co b (n - i) else 0)
  | 0, _ => Cg.of_eq (by simp [prodRow])
  | m + 1, h => by
    have ih := prodRow_co c b i l n m (by omega)
    have h1 := addAt_co (W := W) (wr := wr) hw (prodRow wr c b i l m) (i + m) (wr (c * b.getD m 0)) (by rw [prodRow_length]; omega) n
    refine (Cg.trans h1 (ih.add (?_ : Cg W _ (if n = i + m then c * co b m else 0)))).trans (Cg.of_eq ?_)
    · split
      · exact hw _
      · exact Cg.refl _ _
    · by_cases e : n = i + m
      · subst e
        rw [if_pos rfl, if_neg (by omega), if_pos (by omega), show i + m - i = m by omega]
        omega
      · rw [if_neg e]
        by_cases h2 : i ≤ n ∧ n - i < m
        · rw [if_pos h2, if_pos (by omega)]; omega
        · rw [if_neg h2, if_neg (by omega)]; omega
theorem prodS_co (a b : List Int) (lb : 0 < b.length) : ∀ k, k ≤ a.length → ∀ n, Cg W (co (prodS wr a b k) n) (cv (fun i => if i < k then co a i else 0) (co b) n)
  | 0, _, n => by
    have e : (fun i => if i < 0 then co a i else 0) = fun _ => (0 : Int) := by funext i; simp
    rw [e, cv_zero]
    refine Cg.of_eq ?_
    show (List.replicate _ (0 : Int)).getD n 0 = 0
    simp [List.getD, List.getElem?_replicate]
    split <;> rfl
  | k + 1, h, n => by
    have ih := prodS_co a b lb k (by omega) n
    have h1 := prodRow_co (W := W) (wr := wr) hw (a.getD k 0) b k (prodS wr a b k) n b.length (by rw [prodS_length]; omega)
    have e : (fun i => if i < k + 1 then co a i else 0) = ad (fun i => if i < k then co a i else 0) (sc (co a k) (shN k un)) := by
      funext i
      show _ = (if i < k then co a i else 0) + co a k * shN k un i
      rw [shN_at]
      rcases Nat.lt_trichotomy i k with h | h | h
      · rw [if_pos (by omega), if_pos h, if_neg (by omega)]; simp
      · subst h; rw [if_pos (by omega), if_neg (by omega), if_pos (by omega)]; simp [un]
      · rw [if_neg (by omega), if_neg (by omega), if_pos (by omega)]
        obtain ⟨j, hj⟩ : ∃ j, i - k = j + 1 := ⟨i - k - 1, by omega⟩
        rw [hj]; simp [un]
    rw [e, cv_ad, cv_sc, cv_shN, cv_un]
    refine (Cg.trans h1 (ih.add (Cg.of_eq ?_)))
    show _ = co a k * shN k (co b) n
    rw [shN_at]
    by_cases h2 : k ≤ n
    · rw [if_pos h2]
      by_cases h3 : n - k < b.length
      · rw [if_pos ⟨h2, h3⟩]; rfl
      · rw [if_neg (by omega), co_ge (l := b) (n := n - k) (by omega)]; simp
    · rw [if_neg (by omega), if_neg h2]; simp
theorem prod_co (a b : List Int) (lb : 0 < b.length) : Ce W (co (prodS wr a b a.length)) (cv (co a) (co b)) := fun n => by
  have h := prodS_co hw a b lb a.length (Nat.le_refl _) n
  have e : (fun i => if i < a.length then co a i else 0) = co a := by
    funext i
    split
    · rfl
    · rw [co_ge (by omega)]
  rw [e] at h
  exact h
theorem sumS_co (a b : List Int) : ∀ k, k ≤ b.length → ∀ n, Cg W (co (sumS wr a b k) n) (co a n + if n < k then co b n else 0)
  | 0, _, n => by
    refine Cg.of_eq ?_
    show (a ++ List.replicate _ (0 : Int)).getD n 0 = a.getD n 0 + _
    simp only [Nat.not_lt_zero, if_false, Int.add_zero]
    by_cases h : n < a.length
    · simp [List.getD, List.getElem?_append_left h]
    · simp [List.getD, List.getElem?_append_right (Nat.le_of_not_lt h), List.getElem?_eq_none (Nat.le_of_not_lt h), List.getElem?_replicate]
      split <;> rfl
  | k + 1, h, n => by
    have ih := sumS_co a b k (by omega) n
    have h1 := addAt_co (W := W) (wr := wr) hw (sumS wr a b k) k (b.getD k 0) (by rw [sumS_length]; omega) n
    refine (Cg.trans h1 (ih.add (Cg.refl _ _))).trans (Cg.of_eq ?_)
    by_cases e : n = k
    · subst e
      rw [if_neg (by omega), if_pos rfl, if_pos (by omega)]
      show co a n + 0 + b.getD n 0 = co a n + b.getD n 0
      omega
    · rw [if_neg e]
      by_cases h2 : n < k
      · rw [if_pos h2, if_pos (by omega)]; omega
      · rw [if_neg h2, if_neg (by omega)]; omega
theorem sum_co (a b : List Int) : Ce W (co (sumS wr a b b.length)) (ad (co a) (co b)) := fun n => by
  have h := sumS_co hw a b b.length (Nat.le_refl _) n
  refine h.trans (Cg.of_eq ?_)
  show _ = co a n + co b n
  split
  · rfl
  · rw [co_ge (l := b) (n := n) (by omega)]
end
theorem revS_co (l : List Int) : co (revS l) = R l.length (co l) := by
  have key : ∀ k, 2 * k ≤ l.length → ∀ n, n < l.length → (swapS l k).getD n 0 = if n < k ∨ l.length - 1 - n < k then l.getD (l.length - 1 - n) 0 else l.getD n 0 := by
    intro k
    induction k with
    | zero => intro _ n _; simp [swapS]
    | succ k ih =>
      intro hk n hn
      have ih := ih (by omega)
      show (((swapS l k).set k ((swapS l k).getD (l.length - 1 - k) 0)).set (l.length - 1 - k) ((swapS l k).getD k 0)).getD n 0 = _
      have hlk : (swapS l k).length = l.length := swapS_length l k
      rw [ih (l.length - 1 - k) (by omega), ih k (by omega), if_neg (by omega), if_neg (by omega)]
      have ihn := ih n hn
      rcases Nat.lt_trichotomy n (l.length - 1 - k) with h | h | h
      · have e1 : (((swapS l k).set k (l.getD (l.length - 1 - k) 0)).set (l.length - 1 - k) (l.getD k 0)).getD n 0 = ((swapS l k).set k (l.getD (l.length - 1 - k) 0)).getD n 0 := by
          simp [List.getD, Nat.ne_of_gt h]
        rw [e1]
        by_cases e : n = k
        · subst e
          rw [if_pos (by omega)]
          simp [List.getD, hlk, hn]
        · have e2 : ((swapS l k).set k (l.getD (l.length - 1 - k) 0)).getD n 0 = (swapS l k).getD n 0 := by simp [List.getD, Ne.symm e]
          rw [e2, ihn]
          by_cases h2 : n < k ∨ l.length - 1 - n < k
          · rw [if_pos h2, if_pos (by omega)]
          · rw [if_neg h2, if_neg (by omega)]
      · subst h
        rw [if_pos (by omega)]
        have e3 : l.length - 1 - (l.length - 1 - k) = k := by omega
        rw [e3]
        have : l.length - 1 - k < l.length := by omega
        simp [List.getD, hlk, this]
      · have e1 : (((swapS l k).set k (l.getD (l.length - 1 - k) 0)).set (l.length - 1 - k) (l.getD k 0)).getD n 0 = (swapS l k).getD n 0 := by
          have a1 : l.length - 1 - k ≠ n := by omega
          have a2 : k ≠ n := by omega
          simp [List.getD, a1, a2]
        rw [e1, ihn, if_pos (by omega), if_pos (by omega)]
  funext n
  show (revS l).getD n 0 = if n < l.length then l.getD (l.length - 1 - n) 0 else 0
  by_cases h : n < l.length
  · rw [if_pos h]
    show (swapS l (l.length / 2)).getD n 0 = _
    rw [key (l.length / 2) (by omega) n h]
    split
    · rfl
    · have : l.length - 1 - n = n := by omega
      rw [this]
  · rw [if_neg h]
    simp [List.getD, List.getElem?_eq_none (show (revS l).length ≤ n by rw [revS_length]; omega)]
end Go.Proofs.YtcpeeopdaakbaaaGreat.Ps

namespace Go.Proofs.YtcpeeopdaakbaaaGreat.Ps

/-- 1 + t -/
def on : Nat → Int := ad un (sh un)
/-- [m] -/
def ones (m : Nat) : Nat → Int := fun n => if n < m then 1 else 0
/-- one more summand -/
def zStep (z : (Nat → Int) × (Nat → Int)) (m : Nat) : (Nat → Int) × (Nat → Int) := if m = 0 then z else (ad (cv z.1 (cv on (ones m))) (shN m z.2), cv z.2 (cv on (ones m)))
/-- the fraction turned about, behind k orders -/
def zz (l : List Nat) : Nat → (Nat → Int) × (Nat → Int)
  | 0 => (ad un (sc (-2) (sh un)), on)
  | k + 1 => zStep (zz l k) (l.getD k 0)

theorem co_ones (m : Nat) : co (List.replicate m 1) = ones m := by
  funext n
  show (List.replicate m (1 : Int)).getD n 0 = if n < m then 1 else 0
  simp [List.getD, List.getElem?_replicate]
  split <;> rfl
theorem co_on : co [1, 1] = on := by
  funext n
  match n with
  | 0 => rfl
  | 1 => rfl
  | n + 2 => rfl
theorem R_ones (m : Nat) : R m (ones m) = ones m := by
  funext n
  show (if n < m then (if m - 1 - n < m then 1 else 0) else 0) = if n < m then (1 : Int) else 0
  split
  · rw [if_pos (by omega)]
  · rfl
theorem R_on : R 2 on = on := by
  funext n
  match n with
  | 0 => rfl
  | 1 => rfl
  | n + 2 => rfl

section
variable {W : Int} {wr : Int → Int} (hw : ∀ y, Cg W (wr y) y)
include hw
theorem side_co (m : Nat) (hm : 1 ≤ m) : Ce W (R (m + 1) (co (prodS wr [1, 1] (List.replicate m 1) 2))) (cv on (ones m)) := by
  have h := prod_co hw [1, 1] (List.replicate m 1) (by simp; omega)
  rw [co_on, co_ones] at h
  have h2 := R_ce (m + 1) h
  have s1 : Sup 2 on := by have := co_sup [1, 1]; rw [co_on] at this; exact this
  have s2 : Sup m (ones m) := by rw [← co_ones]; have := co_sup (List.replicate m 1); rwa [List.length_replicate] at this
  have e := R_cv hm (ones m) s2 2 on (by omega) s1
  rw [show 2 + m - 1 = m + 1 by omega, R_on, R_ones] at e
  rw [e] at h2
  exact h2
theorem step_co {N D : List Int} {zn zd : Nat → Int} {L m : Nat} (hm : 1 ≤ m) (hN : N.length = L) (hD : D.length = L) (hL : 1 ≤ L) (h1 : Ce W (R L (co N)) zn) (h2 : Ce W (R L (co D)) zd) :
    (plusN wr N D [1] (prodS wr [1, 1] (List.replicate m 1) 2)).length = L + m ∧ (plusD wr D (prodS wr [1, 1] (List.replicate m 1) 2)).length = L + m ∧
    Ce W (R (L + m) (co (plusN wr N D [1] (prodS wr [1, 1] (List.replicate m 1) 2)))) (ad (cv zn (cv on (ones m))) (shN m zd)) ∧
    Ce W (R (L + m) (co (plusD wr D (prodS wr [1, 1] (List.replicate m 1) 2)))) (cv zd (cv on (ones m))) := by
  have hs := side_co hw m hm
  have hsl : (prodS wr [1, 1] (List.replicate m 1) 2).length = m + 1 := by rw [prodS_length, List.length_replicate]; simp; omega
  generalize prodS wr [1, 1] (List.replicate m 1) 2 = s at hs hsl
  have sN := co_sup N
  have sD := co_sup D
  have ss := co_sup s
  rw [hN] at sN
  rw [hD] at sD
  rw [hsl] at ss
  have cN := R_cv (show 1 ≤ m + 1 by omega) (co s) ss L (co N) hL sN
  have cD := R_cv (show 1 ≤ m + 1 by omega) (co s) ss L (co D) hL sD
  rw [show L + (m + 1) - 1 = L + m by omega] at cN cD
  refine ⟨by rw [plusN_length, hN, hD, hsl, List.length_singleton]; omega, by rw [plusD_length, hD, hsl]; omega, ?_, ?_⟩
  · have p1 := prod_co hw N s (by omega)
    have p2 := prod_co hw [1] D (by omega)
    have p3 := sum_co hw (prodS wr N s N.length) (prodS wr [1] D 1)
    have p4 : Ce W (co (plusN wr N D [1] s)) (ad (cv (co N) (co s)) (cv (co [1]) (co D))) := p3.trans (p1.ad p2)
    have e1 : co [1] = un := by funext n; match n with | 0 => rfl | n + 1 => rfl
    rw [e1, cv_un] at p4
    have p5 := R_ce (L + m) p4
    rw [R_ad, cN, R_up L m (co D) sD] at p5
    refine p5.trans ((h1.cv hs).ad ?_)
    intro n
    rw [shN_at, shN_at]
    split
    · exact h2 _
    · exact Cg.refl _ _
  · have p1 := prod_co hw D s (by omega)
    have p5 := R_ce (L + m) p1
    rw [cD] at p5
    exact p5.trans (h2.cv hs)

theorem ser_co (x : Int) (hx : Cg W x (-3)) (l : List Nat) : ∀ k, ∃ L, 1 ≤ L ∧ (serS wr x l k).1.length = L ∧ (serS wr x l k).2.length = L ∧ Ce W (R L (co (serS wr x l k).1)) (zz l k).1 ∧ Ce W (R L (co (serS wr x l k).2)) (zz l k).2
  | 0 => by
    refine ⟨2, by omega, by show (plusN wr _ _ _ _).length = 2; rw [plusN_length]; rfl, by show (plusD wr _ _).length = 2; rw [plusD_length]; rfl, ?_, ?_⟩
    · have p1 := prod_co hw [1] [1, 1] (by decide)
      have p2 := prod_co hw [x] [1] (by decide)
      have p3 := sum_co hw (prodS wr [1] [1, 1] 1) (prodS wr [x] [1] 1)
      have p4 : Ce W (co (plusN wr [1] [1] [x] [1, 1])) (ad (cv (co [1]) (co [1, 1])) (cv (co [x]) (co [1]))) := p3.trans (p1.ad p2)
      have e1 : co [1] = un := by funext n; match n with | 0 => rfl | n + 1 => rfl
      rw [e1, cv_un, cv_un', co_on] at p4
      refine (R_ce 2 p4).trans ?_
      intro n
      match n with
      | 0 => exact Cg.of_eq (by simp [R, ad, on, co, zz, sc, sh, un])
      | 1 =>
        show Cg W (1 + 0 + x) (0 + -2 * 1)
        obtain ⟨z, hz⟩ := hx
        exact ⟨z, by rw [hz]; omega⟩
      | n + 2 => exact Cg.refl _ _
    · have p1 := prod_co hw [1] [1, 1] (by decide)
      have e1 : co [1] = un := by funext n; match n with | 0 => rfl | n + 1 => rfl
      rw [e1, cv_un, co_on] at p1
      have := R_ce 2 p1
      rw [R_on] at this
      exact this
  | k + 1 => by
    obtain ⟨L, hL, h1, h2, h3, h4⟩ := ser_co x hx l k
    show ∃ L', 1 ≤ L' ∧ (serStep wr (serS wr x l k) (l.getD k 0)).1.length = L' ∧ (serStep wr (serS wr x l k) (l.getD k 0)).2.length = L' ∧ Ce W (R L' (co (serStep wr (serS wr x l k) (l.getD k 0)).1)) (zStep (zz l k) (l.getD k 0)).1 ∧ Ce W (R L' (co (serStep wr (serS wr x l k) (l.getD k 0)).2)) (zStep (zz l k) (l.getD k 0)).2
    generalize l.getD k 0 = m
    unfold serStep zStep
    by_cases hm : m = 0
    · rw [if_pos hm, if_pos hm]
      exact ⟨L, hL, h1, h2, h3, h4⟩
    · rw [if_neg hm, if_neg hm]
      obtain ⟨a, b, c, d⟩ := step_co hw (m := m) (by omega) h1 h2 hL h3 h4
      exact ⟨L + m, by omega, a, b, c, d⟩
end

/-- there is a series with a product -/
theorem cv_exists {d : Nat → Int} (h0 : d 0 = 1) (v : Nat → Int) : ∃ u, cv d u = v := by
  let uL : Nat → List Int := fun n => Nat.rec [] (fun n l => l ++ [v n - sumTo n (fun i => d (i + 1) * l.getD (n - (i + 1)) 0)]) n
  have us : ∀ n, uL (n + 1) = uL n ++ [v n - sumTo n (fun i => d (i + 1) * (uL n).getD (n - (i + 1)) 0)] := fun n => rfl
  have ul : ∀ n, (uL n).length = n := by
    intro n
    induction n with
    | zero => rfl
    | succ n ih => rw [us]; simp [ih]
  have ug : ∀ n k, k < n → (uL n).getD k 0 = (uL (k + 1)).getD k 0 := by
    intro n
    induction n with
    | zero => intro k hk; omega
    | succ n ih =>
      intro k hk
      rcases Nat.lt_or_ge k n with h | h
      · rw [us, ← ih k h]
        have := ul n
        simp [List.getD, List.getElem?_append_left (show k < (uL n).length by omega)]
      · obtain rfl : k = n := by omega
        rfl
  refine ⟨fun n => (uL (n + 1)).getD n 0, ?_⟩
  funext n
  rw [cv_split, h0]
  have e : (uL (n + 1)).getD n 0 = v n - sumTo n (fun i => d (i + 1) * (uL n).getD (n - (i + 1)) 0) := by
    rw [us]
    have := ul n
    simp [List.getD, this]
  have e2 : sh (cv (fun n => d (n + 1)) (fun n => (uL (n + 1)).getD n 0)) n = sumTo n (fun i => d (i + 1) * (uL n).getD (n - (i + 1)) 0) := by
    cases n with
    | zero => rfl
    | succ n =>
      show sumTo (n + 1) _ = _
      refine sumTo_congr (fun i hi => ?_)
      show d (i + 1) * (uL (n - i + 1)).getD (n - i) 0 = _
      rw [← ug (n + 1) (n - i) (by omega), Nat.add_sub_add_right]
  show 1 * (uL (n + 1)).getD n 0 + _ = v n
  rw [e2, e]
  omega

/-- a coefficient by those ahead of it -/
theorem cv_next {d u v : Nat → Int} (h0 : d 0 = 1) (h : cv d u = v) (n : Nat) : u n = v n - sumTo n (fun i => d (i + 1) * u (n - (i + 1))) := by
  have e := congrFun h n
  rw [cv_split, h0] at e
  have e2 : sh (cv (fun n => d (n + 1)) u) n = sumTo n (fun i => d (i + 1) * u (n - (i + 1))) := by
    cases n with
    | zero => rfl
    | succ n =>
      show sumTo (n + 1) _ = _
      exact sumTo_congr (fun i hi => by rw [Nat.add_sub_add_right])
  omega
theorem sumTo_more {f : Nat → Int} {n m : Nat} (hnm : n ≤ m) (h : ∀ i, n ≤ i → i < m → f i = 0) : sumTo m f = sumTo n f := by
  induction m with
  | zero => obtain rfl : n = 0 := by omega
            rfl
  | succ m ih =>
    rcases Nat.lt_or_ge n (m + 1) with h1 | h1
    · show sumTo m f + f m = _
      rw [h m (by omega) (by omega), ih (by omega) (fun i a b => h i a (by omega))]
      omega
    · obtain rfl : n = m + 1 := by omega
      rfl

section
variable {W : Int} {wr : Int → Int} (hw : ∀ y, Cg W (wr y) y)
include hw
theorem inner_co (den l : List Int) (k : Nat) (hk : k < l.length) (n : Nat) : ∀ m, m ≤ k → Cg W (co (innerS wr den k l m) n) (co l n - if n = k then sumTo m (fun i => co den (i + 1) * co l (k - (i + 1))) else 0)
  | 0, _ => Cg.of_eq (by show co l n = _; split <;> simp [sumTo])
  | m + 1, h => by
    have ih := inner_co den l k hk n m (by omega)
    have ihk := inner_co den l k hk (k - (m + 1)) m (by omega)
    rw [if_neg (by omega)] at ihk
    have hlen := innerS_length wr den k l m
    show Cg W ((List.set _ k _).getD n 0) _
    by_cases e : n = k
    · subst e
      rw [if_pos rfl] at ih ⊢
      have : (List.set (innerS wr den n l m) n (wr ((innerS wr den n l m).getD n 0 - wr (den.getD (m + 1) 0 * (innerS wr den n l m).getD (n - (m + 1)) 0)))).getD n 0 = wr ((innerS wr den n l m).getD n 0 - wr (den.getD (m + 1) 0 * (innerS wr den n l m).getD (n - (m + 1)) 0)) := by
        simp [List.getD, hlen, hk]
      rw [this]
      refine (hw _).trans ?_
      have h2 : Cg W (wr (den.getD (m + 1) 0 * (innerS wr den n l m).getD (n - (m + 1)) 0)) (co den (m + 1) * co l (n - (m + 1))) := by
        refine (hw _).trans ((Cg.refl W (den.getD (m + 1) 0)).mul (ihk.trans (Cg.of_eq (by omega))))
      refine (ih.sub h2).trans (Cg.of_eq ?_)
      show _ = co l n - (sumTo m (fun i => co den (i + 1) * co l (n - (i + 1))) + co den (m + 1) * co l (n - (m + 1)))
      omega
    · rw [if_neg e] at ih ⊢
      have : (List.set (innerS wr den k l m) k (wr ((innerS wr den k l m).getD k 0 - wr (den.getD (m + 1) 0 * (innerS wr den k l m).getD (k - (m + 1)) 0)))).getD n 0 = (innerS wr den k l m).getD n 0 := by
        simp [List.getD, Ne.symm e]
      rw [this]
      exact ih
theorem coef_co {num den : List Int} {d u v : Nat → Int} (h0 : d 0 = 1) (h : cv d u = v) (hd : Ce W (co den) d) (hn : Ce W (co num) v) (N n : Nat) (hnN : n < N) : ∀ k, k ≤ N → Cg W (co (coefS wr (startS num N) den k) n) (if n < k then u n else v n)
  | 0, _ => by
    show Cg W ((startS num N).getD n 0) (if n < 0 then _ else _)
    rw [if_neg (by omega)]
    refine (Cg.of_eq ?_).trans (hn n)
    show (num.take N ++ List.replicate _ (0 : Int)).getD n 0 = num.getD n 0
    by_cases h1 : n < num.length
    · have : n < (num.take N).length := by simp; omega
      simp only [List.getD]
      rw [List.getElem?_append_left this, List.getElem?_take_of_lt hnN]
    · have e1 : (num.take N).length = num.length := by simp; omega
      simp only [List.getD]
      rw [List.getElem?_append_right (by omega), List.getElem?_replicate, List.getElem?_eq_none (Nat.le_of_not_lt h1)]
      split <;> rfl
  | k + 1, hk => by
    have ih := fun j (hj : j < N) => coef_co h0 h hd hn N j hj k (by omega)
    have hlen : (coefS wr (startS num N) den k).length = N := by rw [coefS_length, startS_length]
    have hi := inner_co hw den (coefS wr (startS num N) den k) k (by omega) n (min k (den.length - 1)) (by omega)
    refine hi.trans ?_
    by_cases e : n = k
    · subst e
      rw [if_pos rfl, if_pos (by omega), cv_next h0 h n]
      have h1 := ih n hnN
      rw [if_neg (by omega)] at h1
      refine h1.sub ?_
      have e1 : sumTo (min n (den.length - 1)) (fun i => co den (i + 1) * co (coefS wr (startS num N) den n) (n - (i + 1))) = sumTo n (fun i => co den (i + 1) * co (coefS wr (startS num N) den n) (n - (i + 1))) := by
        refine (sumTo_more (by omega) (fun i a b => ?_)).symm
        rw [co_ge (l := den) (n := i + 1) (by omega)]
        simp
      rw [e1]
      refine sumTo_cg (fun i hi => (hd (i + 1)).mul ?_)
      have h2 := ih (n - (i + 1)) (by omega)
      rw [if_pos (by omega)] at h2
      exact h2
    · rw [if_neg e]
      have h1 := ih n hnN
      refine ((h1.sub (Cg.refl _ _)).trans (Cg.of_eq ?_))
      rcases Nat.lt_trichotomy n k with h3 | h3 | h3
      · rw [if_pos h3, if_pos (by omega)]; omega
      · omega
      · rw [if_neg (by omega), if_neg (by omega)]; omega
end

/-- entries from 0 to W -/
def InR (W : Int) (l : List Int) : Prop := ∀ n, 0 ≤ l.getD n 0 ∧ l.getD n 0 < W
section
variable {W : Int} {wr : Int → Int} (hr : ∀ y, 0 ≤ wr y ∧ wr y < W) (hW : 0 < W)
theorem inR_set {l : List Int} {W : Int} (h : InR W l) {v : Int} (hv : 0 ≤ v ∧ v < W) (i : Nat) : InR W (l.set i v) := fun n => by
  by_cases e : n = i
  · subst e
    by_cases h1 : n < l.length
    · have : (l.set n v).getD n 0 = v := by simp [List.getD, h1]
      rw [this]; exact hv
    · have : (l.set n v).getD n 0 = l.getD n 0 := by rw [List.set_eq_of_length_le (by omega)]
      rw [this]; exact h n
  · have : (l.set i v).getD n 0 = l.getD n 0 := by simp [List.getD, Ne.symm e]
    rw [this]; exact h n
include hW in
theorem inR_zero (n : Nat) : InR W (List.replicate n 0) := fun k => by
  have : (List.replicate n (0 : Int)).getD k 0 = 0 := by
    simp [List.getD, List.getElem?_replicate]; split <;> rfl
  rw [this]; omega
include hr in
theorem inR_prodRow (c : Int) (b : List Int) (i : Nat) (l : List Int) (h : InR W l) : ∀ m, InR W (prodRow wr c b i l m)
  | 0 => h
  | m + 1 => inR_set (inR_prodRow c b i l h m) (hr _) _
include hr hW in
theorem inR_prod (a b : List Int) : ∀ k, InR W (prodS wr a b k)
  | 0 => inR_zero hW _
  | k + 1 => inR_prodRow hr _ _ _ _ (inR_prod a b k) _
theorem inR_swap {W : Int} {l : List Int} (h : InR W l) : ∀ k, InR W (swapS l k)
  | 0 => h
  | k + 1 => inR_set (inR_set (inR_swap h k) (inR_swap h k _) _) (inR_swap h k _) _
theorem inR_rev {W : Int} {l : List Int} (h : InR W l) : InR W (revS l) := inR_swap h _
include hr in
theorem inR_inner (den : List Int) (k : Nat) (l : List Int) (h : InR W l) : ∀ m, InR W (innerS wr den k l m)
  | 0 => h
  | m + 1 => inR_set (inR_inner den k l h m) (hr _) _
include hr in
theorem inR_coef (l den : List Int) (h : InR W l) : ∀ k, InR W (coefS wr l den k)
  | 0 => h
  | k + 1 => inR_inner hr _ _ _ (inR_coef l den h k) _
include hW in
theorem inR_start {num : List Int} (h : InR W num) (N : Nat) : InR W (startS num N) := fun n => by
  show 0 ≤ (num.take N ++ List.replicate _ (0 : Int)).getD n 0 ∧ (num.take N ++ List.replicate _ (0 : Int)).getD n 0 < W
  by_cases h1 : n < (num.take N).length
  · have : (num.take N ++ List.replicate (N - num.length) (0 : Int)).getD n 0 = num.getD n 0 := by
      simp only [List.getD]
      rw [List.getElem?_append_left h1, List.getElem?_take_of_lt (by simp at h1; omega)]
    rw [this]; exact h n
  · have : (num.take N ++ List.replicate (N - num.length) (0 : Int)).getD n 0 = 0 := by
      simp only [List.getD]
      rw [List.getElem?_append_right (by omega), List.getElem?_replicate]
      split <;> rfl
    rw [this]; omega
include hr hW in
theorem inR_ser (x : Int) (l : List Nat) : ∀ k, InR W (serS wr x l k).2
  | 0 => inR_prod hr hW _ _ _
  | k + 1 => by
    show InR W (serStep wr (serS wr x l k) (l.getD k 0)).2
    unfold serStep
    split
    · exact inR_ser x l k
    · exact inR_prod hr hW _ _ _
end
end Go.Proofs.YtcpeeopdaakbaaaGreat.Ps

set_option linter.unusedSimpArgs false
namespace Go.Proofs.YtcpeeopdaakbaaaGreat.Ps

theorem ad_comm (f g : Nat → Int) : ad f g = ad g f := by funext n; show f n + g n = g n + f n; omega
theorem ad_assoc (f g h : Nat → Int) : ad (ad f g) h = ad f (ad g h) := by funext n; show f n + g n + h n = f n + (g n + h n); omega
theorem ad_left (f g h : Nat → Int) : ad f (ad g h) = ad g (ad f h) := by rw [← ad_assoc, ad_comm f g, ad_assoc]
theorem shN_cv (m : Nat) (f : Nat → Int) : shN m f = cv (shN m un) f := by rw [cv_shN, cv_un]
theorem sh_cv (f : Nat → Int) : sh f = cv (shN 1 un) f := shN_cv 1 f
theorem sc_cv (c : Int) (f : Nat → Int) : sc c f = cv (sc c un) f := by rw [cv_sc, cv_un]

/-- a row is added -/
def addL (wr : Int → Int) (b l : List Int) : Nat → List Int
  | 0 => l
  | m + 1 => addAt wr (addL wr b l m) m (b.getD m 0)
theorem addL_length (wr : Int → Int) (b l : List Int) : ∀ m, (addL wr b l m).length = l.length
  | 0 => rfl
  | m + 1 => (addAt_length _ _ _ _).trans (addL_length wr b l m)
/-- the reference's sum -/
def plusR (wr : Int → Int) (a b : List Int) (t : Int) : List Int := prodRow wr t b 0 (addL wr a (List.replicate (max a.length b.length) 0) a.length) b.length
theorem plusR_length (wr : Int → Int) (a b : List Int) (t : Int) : (plusR wr a b t).length = max a.length b.length := by
  unfold plusR; rw [prodRow_length, addL_length, List.length_replicate]
def timR (wr : Int → Int) (a b : List Int) : List Int := prodS wr a b a.length
theorem timR_length (wr : Int → Int) (a b : List Int) : (timR wr a b).length = a.length + b.length - 1 := prodS_length _ _ _ _
/-- the product of rows of ones, but for the i-th -/
def rowsR (wr : Int → Int) (l : List Nat) (i : Nat) : Nat → List Int
  | 0 => [1]
  | k + 1 => if k = i then rowsR wr l i k else timR wr (rowsR wr l i k) (List.replicate (l.getD k 0) 1)
/-- B -/
def numR (wr : Int → Int) (l : List Nat) : List Int := timR wr (rowsR wr l l.length l.length) [1, 1]
/-- A behind k summands -/
def denR (wr : Int → Int) (l : List Nat) : Nat → List Int
  | 0 => plusR wr (numR wr l) (rowsR wr l l.length l.length) (-3)
  | k + 1 => plusR wr (denR wr l k) (rowsR wr l k l.length) 1

section
variable {W : Int} {wr : Int → Int} (hw : ∀ y, Cg W (wr y) y)
include hw
theorem addL_co (b l : List Int) (n : Nat) : ∀ m, m ≤ l.length → Cg W (co (addL wr b l m) n) (co l n + if n < m then co b n else 0)
  | 0, _ => Cg.of_eq (by simp [addL])
  | m + 1, h => by
    have ih := addL_co b l n m (by omega)
    have h1 := addAt_co (W := W) (wr := wr) hw (addL wr b l m) m (b.getD m 0) (by rw [addL_length]; omega) n
    refine (Cg.trans h1 (ih.add (Cg.refl _ _))).trans (Cg.of_eq ?_)
    by_cases e : n = m
    · subst e
      rw [if_neg (by omega), if_pos rfl, if_pos (by omega)]
      show co l n + 0 + co b n = _
      omega
    · rw [if_neg e]
      by_cases h2 : n < m
      · rw [if_pos h2, if_pos (by omega)]; omega
      · rw [if_neg h2, if_neg (by omega)]; omega
theorem plusR_co (a b : List Int) (t : Int) : Ce W (co (plusR wr a b t)) (ad (co a) (sc t (co b))) := fun n => by
  have h1 := addL_co hw a (List.replicate (max a.length b.length) 0) n a.length (by simp; omega)
  have h2 := prodRow_co hw t b 0 (addL wr a (List.replicate (max a.length b.length) 0) a.length) n b.length (by rw [addL_length, List.length_replicate]; omega)
  refine h2.trans ((h1.add (Cg.refl _ _)).trans (Cg.of_eq ?_))
  have e0 : co (List.replicate (max a.length b.length) 0) n = 0 := by
    show (List.replicate _ (0 : Int)).getD n 0 = 0
    simp [List.getD, List.getElem?_replicate]; split <;> rfl
  rw [e0]
  show _ = co a n + t * co b n
  have e1 : (if n < a.length then co a n else 0) = co a n := by
    split
    · rfl
    · rw [co_ge (l := a) (n := n) (by omega)]
  have e2 : (if 0 ≤ n ∧ n - 0 < b.length then t * co b (n - 0) else 0) = t * co b n := by
    split
    · rfl
    · rw [co_ge (l := b) (n := n) (by omega)]; simp
  rw [e1, e2]
  omega

/-- a row that is the same when it is turned about, as a series -/
structure Pal (W : Int) (l : List Int) (L : Nat) (f : Nat → Int) : Prop where
  len : l.length = L
  pos : 1 ≤ L
  val : Ce W (co l) f
  turn : Ce W (R L (co l)) f
omit hw in
theorem pal_one : Pal W [1] 1 un := by
  have e1 : co [1] = un := by funext n; match n with | 0 => rfl | n + 1 => rfl
  have e2 : R 1 un = un := by funext n; match n with | 0 => rfl | n + 1 => rfl
  exact ⟨rfl, Nat.le_refl _, by rw [e1]; exact Ce.refl _ _, by rw [e1, e2]; exact Ce.refl _ _⟩
omit hw in
theorem pal_on : Pal W [1, 1] 2 on := ⟨rfl, by omega, by rw [co_on]; exact Ce.refl _ _, by rw [co_on, R_on]; exact Ce.refl _ _⟩
omit hw in
theorem pal_ones (m : Nat) (hm : 1 ≤ m) : Pal W (List.replicate m 1) m (ones m) := ⟨by simp, hm, by rw [co_ones]; exact Ce.refl _ _, by rw [co_ones, R_ones]; exact Ce.refl _ _⟩
theorem Pal.times {a b : List Int} {p q : Nat} {f g : Nat → Int} (ha : Pal W a p f) (hb : Pal W b q g) : Pal W (timR wr a b) (p + q - 1) (cv f g) := by
  have h := prod_co hw a b (by have := hb.len; have := hb.pos; omega)
  have sa := co_sup a
  have sb := co_sup b
  rw [ha.len] at sa
  rw [hb.len] at sb
  have hp := ha.pos
  have hq := hb.pos
  refine ⟨by rw [timR_length, ha.len, hb.len], by omega, h.trans (ha.val.cv hb.val), ?_⟩
  have h2 := R_ce (p + q - 1) h
  rw [R_cv hq (co b) sb p (co a) hp sa] at h2
  exact h2.trans (ha.turn.cv hb.turn)
/-- one more summand, turned about -/
theorem plusR_turn {a b : List Int} {L q m : Nat} {f g : Nat → Int} (t : Int) (ha : a.length = L) (hf : Ce W (R L (co a)) f) (hb : Pal W b q g) (hq : q + m = L) :
    (plusR wr a b t).length = L ∧ Ce W (R L (co (plusR wr a b t))) (ad f (sc t (shN m g))) := by
  refine ⟨by rw [plusR_length, ha, hb.len]; omega, ?_⟩
  have h := R_ce L (plusR_co hw a b t)
  rw [R_ad] at h
  refine h.trans (hf.ad ?_)
  have sb := co_sup b
  rw [hb.len] at sb
  have e := R_up q m (co b) sb
  rw [hq] at e
  intro n
  have h1 : R L (sc t (co b)) n = t * R L (co b) n := by
    show (if n < L then t * co b _ else 0) = t * (if n < L then co b _ else 0)
    split <;> simp
  rw [h1, e]
  refine (Cg.refl W t).mul ?_
  rw [shN_at, shN_at]
  split
  · exact hb.turn _
  · exact Cg.refl _ _
end

/-- what is wanted of the reference's fraction: it is a part of the program's -/
structure Part (W : Int) (N D : List Int) (zn zd : Nat → Int) : Prop where
  part : ∃ e dn dd : Nat → Int, Ce W (co N) dn ∧ Ce W (R D.length (co D)) dd ∧ e 0 = 1 ∧ dd 0 = 1 ∧ zn = cv e dd ∧ zd = cv e dn

theorem sc_one (f : Nat → Int) : sc 1 f = f := by funext n; show 1 * f n = f n; omega
theorem start_eq : ad un (sc (-2) (sh un)) = ad on (sc (-3) (sh un)) := by
  funext n
  show un n + -2 * sh un n = (un n + sh un n) + -3 * sh un n
  omega
theorem cv_head (f g : Nat → Int) : cv f g 0 = f 0 * g 0 := by show sumTo 1 _ = _; simp [sumTo]
theorem on_head : on 0 = 1 := rfl
theorem ones_head {m : Nat} (h : 1 ≤ m) : ones m 0 = 1 := by show (if 0 < m then (1 : Int) else 0) = 1; rw [if_pos (by omega)]
theorem shN_head (m : Nat) (h : 1 ≤ m) (f : Nat → Int) : shN m f 0 = 0 := by rw [shN_at, if_neg (by omega)]
theorem ad_head (f g : Nat → Int) : ad f g 0 = f 0 + g 0 := rfl
theorem sc_head (c : Int) (f : Nat → Int) : sc c f 0 = c * f 0 := rfl
theorem sh_head (f : Nat → Int) : sh f 0 = 0 := rfl
theorem un_head : un 0 = 1 := rfl

section
variable {W : Int} {wr : Int → Int} (hw : ∀ y, Cg W (wr y) y)
include hw
theorem part0 : Part W (numR wr []) (denR wr [] 0) (ad un (sc (-2) (sh un))) on := by
  have r := pal_one (W := W)
  have b := Pal.times hw r (pal_on (W := W))
  obtain ⟨l0, a0⟩ := plusR_turn hw (-3) b.len b.turn r (show 1 + 1 = 1 + 2 - 1 by omega)
  have e0 : (denR wr [] 0).length = 1 + 2 - 1 := l0
  refine ⟨un, _, _, b.val, by rw [e0]; exact a0, rfl, ?_, ?_, ?_⟩
  · simp [cv_head, ad_head, sc_head, on_head, un_head, shN_head]
  · rw [start_eq, cv_un, cv_un]; rfl
  · rw [cv_un, cv_un]
theorem part1 (p : Nat) (hp : 1 ≤ p) : Part W (numR wr [p]) (denR wr [p] 1) (zStep (ad un (sc (-2) (sh un)), on) p).1 (zStep (ad un (sc (-2) (sh un)), on) p).2 := by
  have r0 := pal_one (W := W)
  have r := Pal.times hw r0 (pal_ones (W := W) p hp)
  have b := Pal.times hw r (pal_on (W := W))
  obtain ⟨l0, a0⟩ := plusR_turn hw (-3) b.len b.turn r (show 1 + p - 1 + 1 = 1 + p - 1 + 2 - 1 by omega)
  obtain ⟨l1, a1⟩ := plusR_turn hw 1 l0 a0 r0 (show 1 + p = 1 + p - 1 + 2 - 1 by omega)
  have e0 : (denR wr [p] 1).length = 1 + p - 1 + 2 - 1 := l1
  refine ⟨on, _, _, b.val, by rw [e0]; exact a1, rfl, ?_, ?_, ?_⟩
  · simp [cv_head, ad_head, sc_head, on_head, un_head, shN_head, ones_head hp, shN_head p hp]
  · unfold zStep
    rw [if_neg (by omega), start_eq]
    show ad (cv (ad on (sc (-3) (sh un))) (cv on (ones p))) (shN p on) = _
    rw [sc_one]
    generalize on = x
    rw [shN_cv p x, shN_cv p un, sh_cv un, shN_cv 1 (cv un (ones p)), sc_cv (-3) (cv (shN 1 un) un), sc_cv (-3) (cv (shN 1 un) (cv un (ones p)))]
    generalize shN p un = tp
    generalize shN 1 un = t1
    generalize sc (-3) un = c3
    generalize ones p = op
    simp [cv_un, cv_un', cv_ad, cv_ad', ad_assoc, cv_assoc, cv_comm, cv_left, ad_comm, ad_left]
  · unfold zStep
    rw [if_neg (by omega)]
    show cv on (cv on (ones p)) = _
    rw [cv_un, cv_comm (ones p)]
theorem part2 (p q : Nat) (hp : 1 ≤ p) (hq : 1 ≤ q) : Part W (numR wr [p, q]) (denR wr [p, q] 2) (zStep (zStep (ad un (sc (-2) (sh un)), on) p) q).1 (zStep (zStep (ad un (sc (-2) (sh un)), on) p) q).2 := by
  have r0 := pal_one (W := W)
  have r1 := Pal.times hw r0 (pal_ones (W := W) p hp)
  have rq := Pal.times hw r0 (pal_ones (W := W) q hq)
  have r := Pal.times hw r1 (pal_ones (W := W) q hq)
  have b := Pal.times hw r (pal_on (W := W))
  obtain ⟨l0, a0⟩ := plusR_turn hw (-3) b.len b.turn r (show 1 + p - 1 + q - 1 + 1 = 1 + p - 1 + q - 1 + 2 - 1 by omega)
  obtain ⟨l1, a1⟩ := plusR_turn hw 1 l0 a0 rq (show 1 + q - 1 + p = 1 + p - 1 + q - 1 + 2 - 1 by omega)
  obtain ⟨l2, a2⟩ := plusR_turn hw 1 l1 a1 r1 (show 1 + p - 1 + q = 1 + p - 1 + q - 1 + 2 - 1 by omega)
  have e0 : (denR wr [p, q] 2).length = 1 + p - 1 + q - 1 + 2 - 1 := l2
  refine ⟨cv on on, _, _, b.val, by rw [e0]; exact a2, rfl, ?_, ?_, ?_⟩
  · simp [cv_head, ad_head, sc_head, on_head, un_head, shN_head, ones_head hp, ones_head hq, shN_head p hp, shN_head q hq]
  · unfold zStep
    rw [if_neg (by omega), if_neg (by omega), start_eq]
    show ad (cv (ad (cv (ad on (sc (-3) (sh un))) (cv on (ones p))) (shN p on)) (cv on (ones q))) (shN q (cv on (cv on (ones p)))) = _
    simp only [sc_one, cv_un]
    generalize on = x
    rw [shN_cv p x, shN_cv p (ones q), sh_cv un, shN_cv 1 (cv (ones p) (ones q)), sc_cv (-3) (cv (shN 1 un) un), sc_cv (-3) (cv (shN 1 un) (cv (ones p) (ones q))), shN_cv q (cv x (cv x (ones p))), shN_cv q (ones p)]
    generalize shN p un = tp
    generalize shN q un = tq
    generalize shN 1 un = t1
    generalize sc (-3) un = c3
    generalize ones p = op
    generalize ones q = oq
    simp [cv_un, cv_un', cv_ad, cv_ad', ad_assoc, cv_assoc, cv_comm, cv_left, ad_comm, ad_left]
  · unfold zStep
    rw [if_neg (by omega), if_neg (by omega)]
    show cv (cv on (cv on (ones p))) (cv on (ones q)) = _
    generalize on = x
    generalize ones p = op
    generalize ones q = oq
    simp [cv_un, cv_un', cv_assoc, cv_comm, cv_left]
theorem part3 (p q s : Nat) (hp : 1 ≤ p) (hq : 1 ≤ q) (hs : 1 ≤ s) : Part W (numR wr [p, q, s]) (denR wr [p, q, s] 3) (zStep (zStep (zStep (ad un (sc (-2) (sh un)), on) p) q) s).1 (zStep (zStep (zStep (ad un (sc (-2) (sh un)), on) p) q) s).2 := by
  have r0 := pal_one (W := W)
  have op := pal_ones (W := W) p hp
  have oq := pal_ones (W := W) q hq
  have os := pal_ones (W := W) s hs
  have r1 := Pal.times hw r0 op
  have rq := Pal.times hw r0 oq
  have rpq := Pal.times hw r1 oq
  have rps := Pal.times hw r1 os
  have rqs := Pal.times hw rq os
  have r := Pal.times hw rpq os
  have b := Pal.times hw r (pal_on (W := W))
  obtain ⟨l0, a0⟩ := plusR_turn hw (-3) b.len b.turn r (show 1 + p - 1 + q - 1 + s - 1 + 1 = 1 + p - 1 + q - 1 + s - 1 + 2 - 1 by omega)
  obtain ⟨l1, a1⟩ := plusR_turn hw 1 l0 a0 rqs (show 1 + q - 1 + s - 1 + p = 1 + p - 1 + q - 1 + s - 1 + 2 - 1 by omega)
  obtain ⟨l2, a2⟩ := plusR_turn hw 1 l1 a1 rps (show 1 + p - 1 + s - 1 + q = 1 + p - 1 + q - 1 + s - 1 + 2 - 1 by omega)
  obtain ⟨l3, a3⟩ := plusR_turn hw 1 l2 a2 rpq (show 1 + p - 1 + q - 1 + s = 1 + p - 1 + q - 1 + s - 1 + 2 - 1 by omega)
  have e0 : (denR wr [p, q, s] 3).length = 1 + p - 1 + q - 1 + s - 1 + 2 - 1 := l3
  refine ⟨cv on (cv on on), _, _, b.val, by rw [e0]; exact a3, rfl, ?_, ?_, ?_⟩
  · simp [cv_head, ad_head, sc_head, on_head, un_head, shN_head, ones_head hp, ones_head hq, ones_head hs, shN_head p hp, shN_head q hq, shN_head s hs]
  · unfold zStep
    rw [if_neg (by omega), if_neg (by omega), if_neg (by omega), start_eq]
    show ad (cv (ad (cv (ad (cv (ad on (sc (-3) (sh un))) (cv on (ones p))) (shN p on)) (cv on (ones q))) (shN q (cv on (cv on (ones p))))) (cv on (ones s))) (shN s (cv (cv on (cv on (ones p))) (cv on (ones q)))) = _
    simp only [sc_one, cv_un]
    generalize on = x
    rw [shN_cv p x, shN_cv p (cv (ones q) (ones s)), sh_cv un, shN_cv 1 (cv (cv (ones p) (ones q)) (ones s)), sc_cv (-3) (cv (shN 1 un) un), sc_cv (-3) (cv (shN 1 un) (cv (cv (ones p) (ones q)) (ones s))), shN_cv q (cv x (cv x (ones p))), shN_cv q (cv (ones p) (ones s)), shN_cv s (cv (cv x (cv x (ones p))) (cv x (ones q))), shN_cv s (cv (ones p) (ones q))]
    generalize shN p un = tp
    generalize shN q un = tq
    generalize shN s un = ts
    generalize shN 1 un = t1
    generalize sc (-3) un = c3
    generalize ones p = op
    generalize ones q = oq
    generalize ones s = os
    simp [cv_un, cv_un', cv_ad, cv_ad', ad_assoc, cv_assoc, cv_comm, cv_left, ad_comm, ad_left]
  · unfold zStep
    rw [if_neg (by omega), if_neg (by omega), if_neg (by omega)]
    show cv (cv (cv on (cv on (ones p))) (cv on (ones q))) (cv on (ones s)) = _
    generalize on = x
    generalize ones p = op
    generalize ones q = oq
    generalize ones s = os
    simp [cv_un, cv_un', cv_assoc, cv_comm, cv_left]
end

/-- the orders that are not 0 -/
def ordL (a b c : Nat) : List Nat := [a, b, c].filter (· ≠ 0)
theorem zStep_zero (z : (Nat → Int) × (Nat → Int)) : zStep z 0 = z := rfl
theorem part_all {W : Int} {wr : Int → Int} (hw : ∀ y, Cg W (wr y) y) (a b c : Nat) : Part W (numR wr (ordL a b c)) (denR wr (ordL a b c) (ordL a b c).length) (zz [a, b, c] 3).1 (zz [a, b, c] 3).2 := by
  show Part W _ _ (zStep (zStep (zStep (ad un (sc (-2) (sh un)), on) a) b) c).1 (zStep (zStep (zStep (ad un (sc (-2) (sh un)), on) a) b) c).2
  unfold ordL
  rcases Nat.eq_zero_or_pos a with rfl | ha <;> rcases Nat.eq_zero_or_pos b with rfl | hb <;> rcases Nat.eq_zero_or_pos c with rfl | hc <;> (try simp only [zStep_zero])
  · exact part0 hw
  · rw [show [0, 0, c].filter (· ≠ 0) = [c] by simp [List.filter_cons, Nat.pos_iff_ne_zero.1 hc]]; exact part1 hw c hc
  · rw [show [0, b, 0].filter (· ≠ 0) = [b] by simp [List.filter_cons, Nat.pos_iff_ne_zero.1 hb]]; exact part1 hw b hb
  · rw [show [0, b, c].filter (· ≠ 0) = [b, c] by simp [List.filter_cons, Nat.pos_iff_ne_zero.1 hb, Nat.pos_iff_ne_zero.1 hc]]; exact part2 hw b c hb hc
  · rw [show [a, 0, 0].filter (· ≠ 0) = [a] by simp [List.filter_cons, Nat.pos_iff_ne_zero.1 ha]]; exact part1 hw a ha
  · rw [show [a, 0, c].filter (· ≠ 0) = [a, c] by simp [List.filter_cons, Nat.pos_iff_ne_zero.1 ha, Nat.pos_iff_ne_zero.1 hc]]; exact part2 hw a c ha hc
  · rw [show [a, b, 0].filter (· ≠ 0) = [a, b] by simp [List.filter_cons, Nat.pos_iff_ne_zero.1 ha, Nat.pos_iff_ne_zero.1 hb]]; exact part2 hw a b ha hb
  · rw [show [a, b, c].filter (· ≠ 0) = [a, b, c] by simp [List.filter_cons, Nat.pos_iff_ne_zero.1 ha, Nat.pos_iff_ne_zero.1 hb, Nat.pos_iff_ne_zero.1 hc]]; exact part3 hw a b c ha hb hc

/-- the two fractions have one series -/
theorem one_series {e dn dd zn zd u v : Nat → Int} (he : e 0 = 1) (hd : dd 0 = 1) (h1 : zn = cv e dd) (h2 : zd = cv e dn) (hu : cv zn u = zd) (hv : cv dd v = dn) : u = v := by
  refine cv_cancel (d := zn) (by rw [h1, cv_head, he, hd]; rfl) ?_
  rw [hu, h1, cv_assoc, hv, h2]
end Go.Proofs.YtcpeeopdaakbaaaGreat.Ps

namespace Go.Proofs.YtcpeeopdaakbaaaGreat.Ps

/-- a coefficient, less m summands, as the reference reckons it -/
def cntIn (wr : Int → Int) (num den out : List Int) (i : Nat) : Nat → Int
  | 0 => if i < num.length then wr (num.getD i 0) else 0
  | m + 1 => wr (cntIn wr num den out i m - wr (wr (den.getD (m + 1) 0) * out.getD (i - (m + 1)) 0))
def cntL (wr : Int → Int) (num den : List Int) : Nat → List Int
  | 0 => []
  | i + 1 => cntL wr num den i ++ [cntIn wr num den (cntL wr num den i) i (min i (den.length - 1))]
theorem cntL_length (wr : Int → Int) (num den : List Int) : ∀ n, (cntL wr num den n).length = n
  | 0 => rfl
  | n + 1 => by show (cntL wr num den n ++ [_]).length = n + 1; simp [cntL_length wr num den n]

section
variable {W : Int} {wr : Int → Int} (hw : ∀ y, Cg W (wr y) y)
include hw
theorem cntIn_co (num den out : List Int) (i : Nat) : ∀ m, Cg W (cntIn wr num den out i m) (co num i - sumTo m (fun j => co den (j + 1) * co out (i - (j + 1))))
  | 0 => by
    show Cg W (if i < num.length then wr (num.getD i 0) else 0) (co num i - 0)
    split
    · exact (hw _).trans (Cg.of_eq (by show co num i = _; omega))
    · rw [co_ge (l := num) (n := i) (by omega)]; exact Cg.refl _ _
  | m + 1 => by
    have ih := cntIn_co num den out i m
    refine (hw _).trans ?_
    refine (ih.sub ((hw _).trans ((hw _).mul (Cg.refl W (out.getD (i - (m + 1)) 0))))).trans (Cg.of_eq ?_)
    show co num i - sumTo m (fun j => co den (j + 1) * co out (i - (j + 1))) - co den (m + 1) * co out (i - (m + 1)) = co num i - (sumTo m (fun j => co den (j + 1) * co out (i - (j + 1))) + co den (m + 1) * co out (i - (m + 1)))
    omega
theorem cntL_co {num den : List Int} {d u v : Nat → Int} (h0 : d 0 = 1) (h : cv d u = v) (hd : Ce W (co den) d) (hn : Ce W (co num) v) : ∀ N n, n < N → Cg W (co (cntL wr num den N) n) (u n)
  | 0, n, hnN => by omega
  | i + 1, n, hnN => by
    have ih := cntL_co h0 h hd hn i
    have hl := cntL_length wr num den i
    show Cg W ((cntL wr num den i ++ [cntIn wr num den (cntL wr num den i) i (min i (den.length - 1))]).getD n 0) _
    rcases Nat.lt_or_ge n i with h1 | h1
    · have : (cntL wr num den i ++ [cntIn wr num den (cntL wr num den i) i (min i (den.length - 1))]).getD n 0 = (cntL wr num den i).getD n 0 := by
        simp only [List.getD]
        rw [List.getElem?_append_left (by omega)]
      rw [this]
      exact ih n h1
    · obtain rfl : n = i := by omega
      have : (cntL wr num den n ++ [cntIn wr num den (cntL wr num den n) n (min n (den.length - 1))]).getD n 0 = cntIn wr num den (cntL wr num den n) n (min n (den.length - 1)) := by
        simp only [List.getD]
        rw [List.getElem?_append_right (by omega), hl, Nat.sub_self]
        rfl
      rw [this, cv_next h0 h n]
      refine (cntIn_co hw num den (cntL wr num den n) n _).trans ((hn n).sub ?_)
      have e1 : sumTo (min n (den.length - 1)) (fun j => co den (j + 1) * co (cntL wr num den n) (n - (j + 1))) = sumTo n (fun j => co den (j + 1) * co (cntL wr num den n) (n - (j + 1))) := by
        refine (sumTo_more (by omega) (fun j a b => ?_)).symm
        rw [co_ge (l := den) (n := j + 1) (by omega)]
        simp
      rw [e1]
      exact sumTo_cg (fun j hj => (hd (j + 1)).mul (ih (n - (j + 1)) (by omega)))
end
theorem inR_cnt {W : Int} {wr : Int → Int} (hr : ∀ y, 0 ≤ wr y ∧ wr y < W) (hW : 0 < W) (num den out : List Int) (i : Nat) : ∀ m, 0 ≤ cntIn wr num den out i m ∧ cntIn wr num den out i m < W
  | 0 => by
    show 0 ≤ (if i < num.length then wr (num.getD i 0) else 0) ∧ (if i < num.length then wr (num.getD i 0) else 0) < W
    split
    · exact hr _
    · omega
  | m + 1 => hr _
theorem cnt_last (wr : Int → Int) (num den : List Int) (n : Nat) : (cntL wr num den (n + 1)).getD n 0 = cntIn wr num den (cntL wr num den n) n (min n (den.length - 1)) := by
  have hl := cntL_length wr num den n
  show (cntL wr num den n ++ [_]).getD n 0 = _
  simp only [List.getD]
  rw [List.getElem?_append_right (by omega), hl, Nat.sub_self]
  rfl
theorem cg_same {W x y : Int} (h : Cg W x y) (hx : 0 ≤ x ∧ x < W) (hy : 0 ≤ y ∧ y < W) : x = y := by
  have := h.emod
  rwa [Int.emod_eq_of_lt hx.1 hx.2, Int.emod_eq_of_lt hy.1 hy.2] at this

/-- the reference's denominator as a row: turned about, without zeros behind -/
theorem trim_co {l : List Int} {n : Nat} (hn : n ≤ l.length) (hz : ∀ i, n ≤ i → l.getD i 0 = 0) : co (l.take n) = co l := by
  funext i
  show (l.take n).getD i 0 = l.getD i 0
  rcases Nat.lt_or_ge i n with h | h
  · simp only [List.getD]; rw [List.getElem?_take_of_lt h]
  · rw [hz i h]
    simp only [List.getD]
    rw [List.getElem?_eq_none (by simp; omega)]
    rfl
theorem co_reverse (l : List Int) : co l.reverse = R l.length (co l) := by
  funext n
  show l.reverse.getD n 0 = if n < l.length then l.getD (l.length - 1 - n) 0 else 0
  split
  · rename_i h
    simp only [List.getD]
    rw [List.getElem?_reverse h]
  · rename_i h
    simp only [List.getD]
    rw [List.getElem?_eq_none (by simp; omega)]
    rfl

/-- the program's count is the reference's -/
theorem counts_same {W : Int} {wr w6 : Int → Int} (hw : ∀ y, Cg W (wr y) y) (hw6 : ∀ y, Cg W (w6 y) y) (hr : ∀ y, 0 ≤ wr y ∧ wr y < W) (hW : 0 < W) (x : Int) (hx : Cg W x (-3)) (a b c n : Nat) (den : List Int)
    (hden : co den = R (denR w6 (ordL a b c) (ordL a b c).length).length (co (denR w6 (ordL a b c) (ordL a b c).length))) :
    (coefS wr (startS (revS (serS wr x [a, b, c] 3).2) (n + 1)) (revS (serS wr x [a, b, c] 3).1) (n + 1)).getD n 0 = (cntL wr (numR w6 (ordL a b c)) den (n + 1)).getD n 0 := by
  obtain ⟨L, hL, l1, l2, c1, c2⟩ := ser_co hw x hx [a, b, c] 3
  obtain ⟨e, dn, dd, p1, p2, he, hd, q1, q2⟩ := (part_all hw6 a b c).part
  have hz0 : (zz [a, b, c] 3).1 0 = 1 := by rw [q1, cv_head, he, hd]; rfl
  obtain ⟨u, hu⟩ := cv_exists hz0 (zz [a, b, c] 3).2
  obtain ⟨v, hv⟩ := cv_exists hd dn
  obtain rfl : u = v := one_series he hd q1 q2 hu hv
  have k1 : Ce W (co (revS (serS wr x [a, b, c] 3).1)) (zz [a, b, c] 3).1 := by rw [revS_co, l1]; exact c1
  have k2 : Ce W (co (revS (serS wr x [a, b, c] 3).2)) (zz [a, b, c] 3).2 := by rw [revS_co, l2]; exact c2
  have k3 := coef_co hw hz0 hu k1 k2 (n + 1) n (by omega) (n + 1) (Nat.le_refl _)
  rw [if_pos (by omega)] at k3
  have k4 := cntL_co hw hd hv (den := den) (num := numR w6 (ordL a b c)) (by rw [hden]; exact p2) p1 (n + 1) n (by omega)
  refine cg_same (k3.trans k4.symm) (inR_coef hr _ _ (inR_start hW (inR_rev (inR_ser hr hW x _ 3)) _) _ n) ?_
  rw [cnt_last]
  exact inR_cnt hr hW _ _ _ _ _
/-- the head of the reference's denominator is not 0 -/
theorem den_head {W : Int} {w6 : Int → Int} (hW : 1 < W) (hw6 : ∀ y, Cg W (w6 y) y) (a b c : Nat) : (denR w6 (ordL a b c) (ordL a b c).length).reverse.getD 0 0 ≠ 0 := by
  obtain ⟨e, dn, dd, p1, p2, he, hd, q1, q2⟩ := (part_all hw6 a b c).part
  intro h
  have h2 := p2 0
  rw [← co_reverse, hd] at h2
  have h3 : co (denR w6 (ordL a b c) (ordL a b c).length).reverse 0 = 0 := h
  rw [h3] at h2
  have := h2.emod
  rw [Int.emod_eq_of_lt (by omega) hW] at this
  simp at this
end Go.Proofs.YtcpeeopdaakbaaaGreat.Ps
