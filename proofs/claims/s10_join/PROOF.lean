import PyProof.Rows.All
import KE.OsGo
import KE.OsArgs
import KE.BitLaws
import PySem.Challenge.RW_byterows_s10_join
set_option Elab.async false
namespace My
/-! ### exclusive or -/
theorem xor_and (x y : Nat) : (x ^^^ y) + 2 * (x &&& y) = x + y := by
  induction x using Nat.strongRecOn generalizing y with
  | _ x ih =>
    by_cases h0 : x = 0
    · subst h0; simp
    · have h := ih (x / 2) (by omega) (y / 2)
      rw [← Nat.xor_div_two, ← Nat.and_div_two] at h
      have h1 := Nat.xor_mod_two_eq_one (a := x) (b := y)
      have h4 : (x ^^^ y) % 2 < 2 := Nat.mod_lt _ (by decide)
      have h2 := Nat.and_mod_two_eq_one (a := x) (b := y)
      have h3 : (x &&& y) % 2 < 2 := Nat.mod_lt _ (by decide)
      generalize (x ^^^ y) = u at *
      generalize (x &&& y) = v at *
      by_cases hx : x % 2 = 1 <;> by_cases hy : y % 2 = 1
      · have := h2.mpr ⟨hx, hy⟩
        have : ¬ u % 2 = 1 := by rw [h1]; simp [hx, hy]
        omega
      · have : ¬ v % 2 = 1 := fun e => hy (h2.mp e).2
        have : u % 2 = 1 := by rw [h1]; simp [hx, hy]
        omega
      · have : ¬ v % 2 = 1 := fun e => hx (h2.mp e).1
        have : u % 2 = 1 := by rw [h1]; simp [hx, hy]
        omega
      · have : ¬ v % 2 = 1 := fun e => hx (h2.mp e).1
        have : ¬ u % 2 = 1 := by rw [h1]; simp [hx, hy]
        omega
end My
namespace My
section
open Md04
/-! ### steps are linear -/
theorem step_xor (a b : Nat) : step (a ^^^ b) = step a ^^^ step b := by
  unfold step
  rw [Nat.xor_div_two]
  have h := Nat.xor_mod_two_eq_one (a := a) (b := b)
  by_cases ha : a % 2 = 1 <;> by_cases hb : b % 2 = 1
  · have : ¬ (a ^^^ b) % 2 = 1 := by rw [h]; simp [ha, hb]
    rw [if_neg this, if_pos ha, if_pos hb]
    rw [show (a / 2 ^^^ POLY) ^^^ (b / 2 ^^^ POLY) = (a / 2 ^^^ b / 2) ^^^ (POLY ^^^ POLY) by ac_rfl, Nat.xor_self, Nat.xor_zero]
  · have : (a ^^^ b) % 2 = 1 := by rw [h]; simp [ha, hb]
    rw [if_pos this, if_pos ha, if_neg hb]; ac_rfl
  · have : (a ^^^ b) % 2 = 1 := by rw [h]; simp [ha, hb]
    rw [if_pos this, if_neg ha, if_pos hb]; ac_rfl
  · have : ¬ (a ^^^ b) % 2 = 1 := by rw [h]; simp [ha, hb]
    rw [if_neg this, if_neg ha, if_neg hb]
theorem step_lt {c : Nat} (h : c < 2 ^ 32) : step c < 2 ^ 32 := by
  unfold step
  split
  · exact Nat.xor_lt_two_pow (by omega) (by decide)
  · omega
theorem steps_add : ∀ (j k c : Nat), steps (j + k) c = steps k (steps j c)
  | 0, k, c => by rw [Nat.zero_add]; rfl
  | j + 1, k, c => by
    rw [show j + 1 + k = (j + k) + 1 by omega]
    exact steps_add j k (step c)
theorem steps_succ (k c : Nat) : steps (k + 1) c = step (steps k c) := by
  rw [steps_add k 1 c]; rfl
theorem steps_xor : ∀ (k a b : Nat), steps k (a ^^^ b) = steps k a ^^^ steps k b
  | 0, _, _ => rfl
  | k + 1, a, b => by
    show steps k (step (a ^^^ b)) = steps k (step a) ^^^ steps k (step b)
    rw [step_xor, steps_xor k]
theorem steps_lt : ∀ (k : Nat) {c : Nat}, c < 2 ^ 32 → steps k c < 2 ^ 32
  | 0, _, h => h
  | k + 1, _, h => steps_lt k (step_lt h)
theorem steps_zero (k : Nat) : steps k 0 = 0 := by
  have h := steps_xor k 0 0
  rw [Nat.xor_self, Nat.xor_self] at h
  exact h
/-! ### a list of what a linear map makes of each bit -/
theorem mod_succ (c n : Nat) : c % 2 ^ (n + 1) = if c.testBit n = true then (c % 2 ^ n) ^^^ 2 ^ n else c % 2 ^ n := by
  apply Nat.eq_of_testBit_eq
  intro j
  by_cases hc : c.testBit n = true
  · rw [if_pos hc, Nat.testBit_xor, Nat.testBit_mod_two_pow, Nat.testBit_mod_two_pow, Nat.testBit_two_pow]
    by_cases hj : j = n
    · subst hj; simp [hc]
    · have h1 : decide (j < n + 1) = decide (j < n) := by
        rw [decide_eq_decide]; omega
      have h2 : decide (n = j) = false := by simp; omega
      rw [h1, h2, Bool.xor_false]
  · rw [if_neg hc, Nat.testBit_mod_two_pow, Nat.testBit_mod_two_pow]
    by_cases hj : j = n
    · subst hj; simp at hc; simp [hc]
    · have h1 : decide (j < n + 1) = decide (j < n) := by
        rw [decide_eq_decide]; omega
      rw [h1]
theorem of_range (f : Nat → Nat) (hf : ∀ a b, f (a ^^^ b) = f a ^^^ f b) (c : Nat) : ∀ n, Turn.of ((List.range n).map fun i => f (2 ^ i)) c = f (c % 2 ^ n)
  | 0 => by
    have h := hf 0 0
    rw [Nat.xor_self, Nat.xor_self] at h
    show 0 = f (c % 2 ^ 0)
    rw [Nat.pow_zero, Nat.mod_one, h]
  | n + 1 => by
    have ih := of_range f hf c n
    unfold Turn.of at ih ⊢
    rw [List.range_succ, List.map_append, List.zipIdx_append, List.foldl_append, ih, mod_succ]
    simp only [List.map_cons, List.map_nil, List.zipIdx_cons, List.zipIdx_nil, List.foldl_cons, List.foldl_nil, List.length_map, List.length_range, Nat.zero_add]
    split
    · rw [hf]
    · rfl
/-- m tells f of each of 32 bits -/
def Rep (m : Turn) (f : Nat → Nat) : Prop := m = (List.range 32).map fun i => f (2 ^ i)
theorem Rep.of {m : Turn} {f : Nat → Nat} (h : Rep m f) (hf : ∀ a b, f (a ^^^ b) = f a ^^^ f b) {c : Nat} (hc : c < 2 ^ 32) : Turn.of m c = f c := by
  have e := of_range f hf c 32
  rw [show m = (List.range 32).map fun i => f (2 ^ i) from h, e, Nat.mod_eq_of_lt hc]
theorem rep_map {m : Turn} {f g : Nat → Nat} {h : Nat → Nat} (r : Rep m f) (e : ∀ i, i < 32 → g (f (2 ^ i)) = h (2 ^ i)) : Rep (m.map g) h := by
  unfold Rep
  rw [show m = (List.range 32).map fun i => f (2 ^ i) from r, List.map_map]
  apply List.map_congr_left
  intro i hi
  exact e i (List.mem_range.mp hi)
theorem rep_once : Rep once step := rfl
theorem power_rep : ∀ (f n : Nat), n < 2 ^ f → Rep (power f n) (steps n)
  | 0, n, h => by
    have : n = 0 := by simpa using h
    subst this
    rfl
  | f + 1, n, h => by
    unfold power
    by_cases h0 : n = 0
    · rw [if_pos h0]; subst h0; rfl
    · rw [if_neg h0]
      have ih := power_rep f (n / 2) (by rw [Nat.pow_succ] at h; omega)
      have hq : Rep ((power f (n / 2)).map (power f (n / 2)).of) (steps (n / 2 + n / 2)) :=
        rep_map ih fun i hi => by
          rw [ih.of (steps_xor _) (steps_lt _ (Nat.pow_lt_pow_right (by decide) hi)), steps_add]
      show Rep (if n % 2 = 1 then _ else _) (steps n)
      split
      · rename_i ho
        have e : n = n / 2 + n / 2 + 1 := by omega
        have := rep_map (g := once.of) (h := steps n) hq fun i hi => by
          rw [rep_once.of step_xor (steps_lt _ (Nat.pow_lt_pow_right (by decide) hi)), ← steps_succ, ← e]
        exact this
      · rename_i ho
        have e : n / 2 + n / 2 = n := by omega
        rw [e] at hq
        exact hq
theorem join_eq {a : Nat} (b n : Nat) (h : a < 2 ^ 32) : join a b n = steps (8 * n) a ^^^ b := by
  unfold join
  rw [(power_rep (8 * n + 1) (8 * n) (Nat.lt_of_lt_of_le Nat.lt_two_pow_self (Nat.pow_le_pow_right (by decide) (Nat.le_succ _)))).of (steps_xor _) h]
/-! ### products -/
/-- the first n terms of a times b: bit 31 is the lowest power -/
def mulTo (a b : Nat) : Nat → Nat
  | 0 => 0
  | i + 1 => if a.testBit (31 - i) = true then mulTo a b i ^^^ steps i b else mulTo a b i
def mul (a b : Nat) : Nat := mulTo a b 32
theorem mulTo_xor (a a' b : Nat) : ∀ i, mulTo (a ^^^ a') b i = mulTo a b i ^^^ mulTo a' b i
  | 0 => by simp [mulTo]
  | i + 1 => by
    unfold mulTo
    rw [mulTo_xor a a' b i, Nat.testBit_xor]
    generalize mulTo a b i = x
    generalize mulTo a' b i = y
    generalize steps i b = z
    cases a.testBit (31 - i) <;> cases a'.testBit (31 - i) <;> simp
    · ac_rfl
    · ac_rfl
    · rw [show x ^^^ z ^^^ (y ^^^ z) = (x ^^^ y) ^^^ (z ^^^ z) by ac_rfl, Nat.xor_self, Nat.xor_zero]
theorem mulTo_xor_r (a b b' : Nat) : ∀ i, mulTo a (b ^^^ b') i = mulTo a b i ^^^ mulTo a b' i
  | 0 => by simp [mulTo]
  | i + 1 => by
    unfold mulTo
    rw [mulTo_xor_r a b b' i, steps_xor]
    cases a.testBit (31 - i) <;> simp
    ac_rfl
theorem mulTo_zero (b : Nat) : ∀ i, mulTo 0 b i = 0
  | 0 => rfl
  | i + 1 => by unfold mulTo; rw [mulTo_zero b i]; simp
/-- one bit -/
theorem mulTo_bit (b : Nat) {j : Nat} (hj : j < 32) : ∀ i, i ≤ 32 → mulTo (2 ^ j) b i = if 31 - j < i then steps (31 - j) b else 0
  | 0, _ => by simp [mulTo]
  | i + 1, hi => by
    unfold mulTo
    rw [mulTo_bit b hj i (by omega), Nat.testBit_two_pow]
    by_cases e : j = 31 - i
    · rw [if_pos (by simpa using e), if_neg (by omega), if_pos (by omega), Nat.zero_xor, show 31 - j = i by omega]
    · rw [if_neg (by simpa using e)]
      by_cases h : 31 - j < i
      · rw [if_pos h, if_pos (by omega)]
      · rw [if_neg h, if_neg (by omega)]
theorem mul_bit (b : Nat) {j : Nat} (hj : j < 32) : mul (2 ^ j) b = steps (31 - j) b := by
  unfold mul
  rw [mulTo_bit b hj 32 (Nat.le_refl _), if_pos (by omega)]
theorem lin_ext {f g : Nat → Nat} (hf : ∀ a b, f (a ^^^ b) = f a ^^^ f b) (hg : ∀ a b, g (a ^^^ b) = g a ^^^ g b) (h : ∀ i, i < 32 → f (2 ^ i) = g (2 ^ i)) {c : Nat} (hc : c < 2 ^ 32) : f c = g c := by
  have z : ∀ {k : Nat → Nat}, (∀ a b, k (a ^^^ b) = k a ^^^ k b) → k 0 = 0 := fun {k} hk => by
    have := hk 0 0
    rw [Nat.xor_self, Nat.xor_self] at this
    exact this
  have : ∀ n, n ≤ 32 → f (c % 2 ^ n) = g (c % 2 ^ n) := by
    intro n
    induction n with
    | zero => intro _; rw [Nat.pow_zero, Nat.mod_one, z hf, z hg]
    | succ n ih =>
      intro hn
      rw [mod_succ]
      split
      · rw [hf, hg, ih (by omega), h n (by omega)]
      · exact ih (by omega)
  have e := this 32 (Nat.le_refl _)
  rwa [Nat.mod_eq_of_lt hc] at e
/-- the polynomial itself: 32 steps are its other terms -/
theorem poly_bits : ∀ i, i < 32 → mul POLY (2 ^ i) = steps 32 (2 ^ i) := by
  have : (List.range 32).all (fun i => mul POLY (2 ^ i) == steps 32 (2 ^ i)) = true := by decide +kernel
  intro i hi
  have := List.all_eq_true.mp this i (List.mem_range.mpr hi)
  simpa using this
theorem mul_poly {b : Nat} (hb : b < 2 ^ 32) : mul POLY b = steps 32 b :=
  lin_ext (f := mul POLY) (g := steps 32) (fun _ _ => mulTo_xor_r _ _ _ _) (steps_xor 32) poly_bits hb
theorem step_bit {i : Nat} : step (2 ^ (i + 1)) = 2 ^ i := by
  unfold step
  rw [if_neg (by rw [Nat.pow_succ]; omega), Nat.pow_succ]
  omega
theorem mul_step {a b : Nat} (ha : a < 2 ^ 32) (hb : b < 2 ^ 32) : mul (step a) b = step (mul a b) := by
  refine lin_ext (f := fun a => mul (step a) b) (g := fun a => step (mul a b)) (fun x y => ?_) (fun x y => ?_) (fun i hi => ?_) ha
  · show mul (step (x ^^^ y)) b = _
    rw [step_xor]; exact mulTo_xor _ _ _ _
  · show step (mul (x ^^^ y) b) = _
    rw [show mul (x ^^^ y) b = mul x b ^^^ mul y b from mulTo_xor _ _ _ _, step_xor]
  · show mul (step (2 ^ i)) b = step (mul (2 ^ i) b)
    rw [mul_bit b hi, ← steps_succ]
    cases i with
    | zero => exact mul_poly hb
    | succ i => rw [step_bit, mul_bit b (by omega), show 31 - i = 31 - (i + 1) + 1 by omega]
theorem mul_steps {b : Nat} (hb : b < 2 ^ 32) : ∀ k {a : Nat}, a < 2 ^ 32 → mul (steps k a) b = steps k (mul a b)
  | 0, _, _ => rfl
  | k + 1, a, ha => by
    show mul (steps k (step a)) b = steps k (step (mul a b))
    rw [mul_steps hb k (step_lt ha), mul_step ha hb]
/-- x to the k times b -/
theorem mul_power {b : Nat} (hb : b < 2 ^ 32) (k : Nat) : mul (steps k (2 ^ 31)) b = steps k b := by
  rw [mul_steps hb k (by decide), mul_bit b (by decide)]; rfl
theorem mul_comm_power (j k : Nat) : mul (steps k (2 ^ 31)) (steps j (2 ^ 31)) = steps (j + k) (2 ^ 31) := by
  rw [mul_power (steps_lt _ (by decide)), steps_add]
theorem eight : steps 8 (2 ^ 31) = 2 ^ 23 := by decide +kernel
/-- the other way round -/
theorem mul_comm {a b : Nat} (ha : a < 2 ^ 32) (hb : b < 2 ^ 32) : mul a b = mul b a := by
  refine lin_ext (f := fun a => mul a b) (g := fun a => mul b a) (fun x y => mulTo_xor _ _ _ _) (fun x y => mulTo_xor_r _ _ _ _) (fun i hi => ?_) ha
  show mul (2 ^ i) b = mul b (2 ^ i)
  refine lin_ext (f := fun b => mul (2 ^ i) b) (g := fun b => mul b (2 ^ i)) (fun x y => mulTo_xor_r _ _ _ _) (fun x y => mulTo_xor _ _ _ _) (fun j hj => ?_) hb
  show mul (2 ^ i) (2 ^ j) = mul (2 ^ j) (2 ^ i)
  rw [mul_bit _ hi, mul_bit _ hj]
  have p : ∀ {i : Nat}, i < 32 → (2 : Nat) ^ i = steps (31 - i) (2 ^ 31) := by
    have : (List.range 32).all (fun i => 2 ^ i == steps (31 - i) (2 ^ 31)) = true := by decide +kernel
    intro i hi
    have := List.all_eq_true.mp this i (List.mem_range.mpr hi)
    simpa using this
  rw [p hi, p hj, ← steps_add, ← steps_add, Nat.add_comm]
/-- a bit -/
theorem bit_of {a : Int} (h0 : 0 ≤ a) (k : Nat) : a / 2 ^ k % 2 = 1 ↔ a.toNat.testBit k = true := by
  rw [Nat.testBit_eq_decide_div_mod_eq, decide_eq_true_eq]
  have e : a = ((a.toNat : Nat) : Int) := by omega
  generalize a.toNat = n at e
  subst e
  have : ((n : Int) / 2 ^ k) = ((n / 2 ^ k : Nat) : Int) := by simp
  rw [this]
  omega
end
end My
open PySem PySem.W PyProof.Rows
namespace My
open PySem PySem.W
theorem w_int {lo hi : Int} {cs : List Codec} {a : Int} {r : Codec.denoteAll cs} (h : Codec.withinAll (.int lo hi :: cs) (a, r) = true) : (lo ≤ a ∧ a ≤ hi) ∧ Codec.withinAll cs r = true := by
  have h1 : (Codec.inInt lo hi a && Codec.withinAll cs r) = true := h
  rw [Bool.and_eq_true] at h1
  have h2 := h1.1
  unfold Codec.inInt at h2
  rw [Bool.and_eq_true, decide_eq_true_eq, decide_eq_true_eq] at h2
  exact ⟨h2, h1.2⟩
theorem w_ints {l m : Nat} {lo hi : Int} {cs : List Codec} {a : List Int} {r : Codec.denoteAll cs} (h : Codec.withinAll (.list l m (.int lo hi) :: cs) (a, r) = true) :
    (l ≤ a.length ∧ a.length ≤ m) ∧ (∀ x ∈ a, lo ≤ x ∧ x ≤ hi) ∧ Codec.withinAll cs r = true := by
  have h1 : (Codec.inList l m (Codec.inInt lo hi) a && Codec.withinAll cs r) = true := h
  rw [Bool.and_eq_true] at h1
  have h2 := h1.1
  unfold Codec.inList at h2
  rw [Bool.and_eq_true, List.all_eq_true] at h2
  have h4 := h2.1
  unfold Codec.inLen Codec.inNat at h4
  rw [Bool.and_eq_true, decide_eq_true_eq, decide_eq_true_eq] at h4
  refine ⟨h4, fun x hx => ?_, h1.2⟩
  have h3 := h2.2 x hx
  unfold Codec.inInt at h3
  rw [Bool.and_eq_true, decide_eq_true_eq, decide_eq_true_eq] at h3
  exact h3
end My
namespace My
open PySem PySem.W PySem.Calls PyProof.Rows
section
variable {prog : Program} {w : World} {A : Around} {E : Value → Shared → Prop} {s : Shared} {x y : Int} {t u : Tok} {Q : Value → Shared → Prop}
theorem step_div (hy : 0 < y) (hs : y ≤ 100000) (h : Q (.int (x / y) s.toks) { s with toks := s.toks + 1 }) :
    wpAny (model prog w) A (binaryOp .FloorDiv (.int x t) (.int y u)) Q E s :=
  PyProof.Rows.floordiv_int (by omega) (by rw [Int.fdiv_eq_ediv_of_nonneg x (Int.le_of_lt hy)]; exact h) (Or.inl (PyProof.noPylong_small (by omega)))
theorem step_mod (hy : 0 < y) (h : Q (.int (x % y) s.toks) { s with toks := s.toks + 1 }) :
    wpAny (model prog w) A (binaryOp .Mod (.int x t) (.int y u)) Q E s :=
  PyProof.Rows.mod_int (by omega) (by rw [Int.fmod_eq_emod_of_nonneg x (Int.le_of_lt hy)]; exact h)
theorem step_shr (hy : 0 ≤ y) (h : Q (.int (x / 2 ^ y.toNat) s.toks) { s with toks := s.toks + 1 }) :
    wpAny (model prog w) A (binaryOp .RShift (.int x t) (.int y u)) Q E s := by
  refine PyProof.Rows.rshift_int (by omega) ?_
  rw [Int.fdiv_eq_ediv_of_nonneg x (Int.le_of_lt (Int.pow_pos (by decide)))]
  exact h
theorem mask1 (x : Int) : Builtin.bitAnd x 1 = x % 2 := kbt_mask x 1
theorem step_and1 (h : Q (.int (x % 2) s.toks) { s with toks := s.toks + 1 }) : wpAny (model prog w) A (binaryOp .BitAnd (.int x t) (.int 1 u)) Q E s := by
  refine PyProof.Rows.and_int ?_
  rw [mask1]
  exact h
end
end My
namespace My
open PySem PySem.W PySem.Calls PyProof.Rows
theorem bitXor_nat {x y : Int} (hx : 0 ≤ x) (hy : 0 ≤ y) : Builtin.bitXor x y = ((x.toNat ^^^ y.toNat : Nat) : Int) := by
  rw [PyProof.Rows.bitXor_and, PyProof.Rows.bitAnd_pp hx hy]; have := xor_and x.toNat y.toNat; omega
/-- exclusive or of whole numbers not below 0 -/
def zx (x y : Int) : Int := ((x.toNat ^^^ y.toNat : Nat) : Int)
section
variable {prog : Program} {w : World} {A : Around} {E : Value → Shared → Prop} {s : Shared} {x y : Int} {t u : Tok} {Q : Value → Shared → Prop}
theorem zx_nonneg (x y : Int) : 0 ≤ zx x y := Int.natCast_nonneg _
theorem step_xor2 (hx : 0 ≤ x) (hy : 0 ≤ y) (h : 0 ≤ zx x y → Q (.int (zx x y) s.toks) { s with toks := s.toks + 1 }) :
    wpAny (model prog w) A (binaryOp .BitXor (.int x t) (.int y u)) Q E s := by
  refine PyProof.Rows.xor_int ?_
  rw [bitXor_nat hx hy]
  exact h (zx_nonneg x y)
theorem step_shr1 (h : Q (.int (x / 2) s.toks) { s with toks := s.toks + 1 }) :
    wpAny (model prog w) A (binaryOp .RShift (.int x t) (.int 1 u)) Q E s := by
  refine step_shr (by decide) ?_
  exact h
end
end My
namespace My
theorem said : PySem.Challenge.rw_byterows_s10_join.wellSaid = true := by decide +kernel
/-- one step -/
def sh (s : Int) : Int := ((Md04.step s.toNat : Nat) : Int)
theorem sh_nonneg (s : Int) : 0 ≤ sh s := Int.natCast_nonneg _
theorem sh_odd {s : Int} (h0 : 0 ≤ s) (h : s % 2 = 1) : zx (s / 2) 2197175160 = sh s := by
  unfold sh zx Md04.step
  rw [if_pos (by omega), show (s / 2).toNat = s.toNat / 2 by omega]
  rfl
theorem sh_even {s : Int} (h0 : 0 ≤ s) (h : ¬ s % 2 = 1) : s / 2 = sh s := by
  unfold sh Md04.step
  rw [if_neg (by omega)]
  omega
/-- eight steps -/
structure In (z₀ : Int) (pre : List Int) (s : Int) : Prop where
  eq : s = ((Md04.steps pre.length z₀.toNat : Nat) : Int)
theorem snoc_len (pre : List Int) (k : Int) : (pre ++ [k]).length = pre.length + 1 := by simp
theorem in_start {z : Int} (h : 0 ≤ z) : 0 ≤ z ∧ In z [] z := ⟨h, ⟨by show z = ((z.toNat : Nat) : Int); omega⟩⟩
theorem in_turn {z₀ s k : Int} {pre : List Int} (T : In z₀ pre s) : 0 ≤ sh s ∧ In z₀ (pre ++ [k]) (sh s) := by
  refine ⟨sh_nonneg _, ⟨?_⟩⟩
  rw [snoc_len, steps_succ]
  have e := T.eq
  generalize Md04.steps pre.length z₀.toNat = n at e ⊢
  subst e
  rfl
structure Mark (z : Int) : Prop where
  z0 : 0 ≤ z
theorem mark {s b : Int} (h : 0 ≤ zx s b) : Mark (zx s b) := ⟨h⟩
abbrev W {z : Int} (_ : Mark z) (pre : List Int) (s : Int) : Prop := In z pre s
theorem in_end {z s : Int} {n : Nat} (T : In z (rangeKs 0 n) s) (hn : n = 8) : s = ((Md04.steps 8 z.toNat : Nat) : Int) := by
  have e := T.eq
  rw [rangeKs_length, hn] at e
  exact e
end My
local macro_rules | `(tactic| walk_at "binaryOp FloorDiv int int") => `(tactic| (k_here; (with_reducible refine' My.step_div ?k1 ?k2 ?_); (case k1 => k_dflt omega); (case k2 => k_dflt omega)))
local macro_rules | `(tactic| walk_at "binaryOp Mod int int") => `(tactic| (k_here; (with_reducible refine' My.step_mod ?k1 ?_); (case k1 => k_dflt omega)))
local macro_rules | `(tactic| walk_at "binaryOp RShift int int") => `(tactic| (k_here; (with_reducible refine' My.step_shr ?k1 ?_); (case k1 => k_dflt omega)))
local macro_rules | `(tactic| walk_at "binaryOp BitAnd int int") => `(tactic| (k_here; (with_reducible show wpAny _ _ (binaryOp Operator.BitAnd (Value.int _ _) (Value.int 1 _)) _ _ _); k_dflt (refine My.step_and1 ?_)))
local macro_rules | `(tactic| walk_at "binaryOp BitXor int int") => `(tactic| (k_here; (with_reducible refine' My.step_xor2 ?k1 ?k2 ?_); (case k1 => k_dflt omega); (case k2 => k_dflt omega); intro _))
local macro_rules | `(tactic| walk_at "binaryOp RShift int int") => `(tactic| (k_here; (with_reducible show wpAny _ _ (binaryOp Operator.RShift (Value.int _ _) (Value.int 1 _)) _ _ _); k_dflt (refine My.step_shr1 ?_)))

namespace My
structure Bounds (a b n : Int) : Prop where
  a0 : 0 ≤ a
  a1 : a ≤ 4294967295
  b0 : 0 ≤ b
  n0 : 0 ≤ n
theorem bounds {a b n : Int} (h : PySem.Challenge.rw_byterows_s10_join.pre [WData.int a, WData.int b, WData.int n] = true) : Bounds a b n := by
  obtain ⟨d, w, q, e⟩ := os_pre said h
  obtain ⟨a', b', n', u⟩ := d
  have e1 := os_j_int (List.cons.inj e).1
  have e2 := os_j_int (List.cons.inj (List.cons.inj e).2).1
  have e3 := os_j_int (List.cons.inj (List.cons.inj (List.cons.inj e).2).2).1
  subst e1 e2 e3
  obtain ⟨b1, w1⟩ := w_int w
  obtain ⟨b2, w2⟩ := w_int w1
  obtain ⟨b3, _⟩ := w_int w2
  exact ⟨b1.1, b1.2, b2.1, b3.1⟩
/-- two numbers of a frame -/
structure Mark2 (a b : Int) : Prop where
theorem mark2 {h₀ h : Heap} {L : Addr} {m : Str → Option Value} {a b : Int} {t u : Tok} (_ : Fr h₀ L h m) (_ : m (Str.ofString "a") = some (.int a t)) (_ : m (Str.ofString "b") = some (.int b u)) : Mark2 a b := ⟨⟩
/-- within a product -/
structure Mul (a b₀ : Int) (pre : List Int) (p b : Int) : Prop where
  a0 : 0 ≤ a
  pe : p = ((mulTo a.toNat b₀.toNat pre.length : Nat) : Int)
  be : b = ((Md04.steps pre.length b₀.toNat : Nat) : Int)
theorem mul_start {a b₀ : Int} (ha : 0 ≤ a) (hb : 0 ≤ b₀) : (0 : Int) ≤ 0 ∧ 0 ≤ b₀ ∧ Mul a b₀ [] 0 b₀ :=
  ⟨Int.le_refl 0, hb, ⟨ha, rfl, by show b₀ = ((b₀.toNat : Nat) : Int); omega⟩⟩
theorem mul_one {a b₀ p b k : Int} {pre : List Int} (T : Mul a b₀ pre p b) (h : a / 2 ^ k.toNat % 2 = 1) (hk : k = 31 - (pre.length : Int)) (hl : pre.length < 32) :
    0 ≤ zx p b ∧ 0 ≤ sh b ∧ Mul a b₀ (pre ++ [k]) (zx p b) (sh b) := by
  refine ⟨zx_nonneg _ _, sh_nonneg _, ⟨T.a0, ?_, ?_⟩⟩
  · have hb := (bit_of T.a0 k.toNat).mp h
    rw [show k.toNat = 31 - pre.length by omega] at hb
    rw [snoc_len]
    unfold mulTo
    rw [if_pos hb, T.pe, T.be]
    rfl
  · rw [snoc_len, steps_succ, T.be]
    rfl
theorem mul_none {a b₀ p b k : Int} {pre : List Int} (T : Mul a b₀ pre p b) (h : ¬ a / 2 ^ k.toNat % 2 = 1) (hk : k = 31 - (pre.length : Int)) (hl : pre.length < 32) :
    0 ≤ p ∧ 0 ≤ sh b ∧ Mul a b₀ (pre ++ [k]) p (sh b) := by
  refine ⟨by have := T.pe; omega, sh_nonneg _, ⟨T.a0, ?_, ?_⟩⟩
  · have hb : ¬ a.toNat.testBit k.toNat = true := fun e => h ((bit_of T.a0 k.toNat).mpr e)
    rw [show k.toNat = 31 - pre.length by omega] at hb
    rw [snoc_len]
    unfold mulTo
    rw [if_neg hb, T.pe]
  · rw [snoc_len, steps_succ, T.be]
    rfl
theorem mul_end {a b₀ p b : Int} {n : Nat} (T : Mul a b₀ (downKs 31 n) p b) (hn : n = 32) : p = ((mul a.toNat b₀.toNat : Nat) : Int) := by
  have e := T.pe
  rw [downKs_length, hn] at e
  exact e
abbrev W2 {a b₀ : Int} (_ : Mark2 a b₀) (pre : List Int) (p b : Int) : Prop := Mul a b₀ pre p b
/-- within the while -/
structure Pw (n₀ n f s : Int) : Prop where
  ex : ∃ i j : Nat, f = ((Md04.steps (8 * i) (2 ^ 31) : Nat) : Int) ∧ s = ((Md04.steps (8 * j) (2 ^ 31) : Nat) : Int) ∧ i + j * n.toNat = n₀.toNat
theorem pw_start {n s : Int} {m : Nat} (I : In (zx 2147483648 0) (rangeKs 0 m) s) (hn : 0 ≤ n) (hm : m = 8) : 0 ≤ n ∧ (0 : Int) ≤ 2147483648 ∧ 0 ≤ s ∧ Pw n n 2147483648 s := by
  have e := in_end I hm
  refine ⟨hn, by decide, by omega, ⟨0, 1, rfl, ?_, by omega⟩⟩
  rw [e]
  rfl
theorem pw_sq {s : Int} {j : Nat} (h : s = ((Md04.steps (8 * j) (2 ^ 31) : Nat) : Int)) : ((mul s.toNat s.toNat : Nat) : Int) = ((Md04.steps (8 * (2 * j)) (2 ^ 31) : Nat) : Int) := by
  rw [h, Int.toNat_natCast, mul_comm_power, show 8 * j + 8 * j = 8 * (2 * j) by omega]
theorem pw_odd {n₀ n f s p b p' b' : Int} {m m' : Nat} (T : Pw n₀ n f s) (M : Mul f s (downKs 31 m) p b) (M' : Mul s s (downKs 31 m') p' b') (ho : n % 2 = 1) (h0 : 0 ≤ n) (hm : m = 32) (hm' : m' = 32) :
    0 ≤ n / 2 ∧ 0 ≤ p ∧ 0 ≤ p' ∧ Pw n₀ (n / 2) p p' := by
  have e := mul_end M hm
  have e' := mul_end M' hm'
  obtain ⟨i, j, h1, h2, h3⟩ := T.ex
  refine ⟨by omega, by omega, by omega, ⟨j + i, 2 * j, ?_, ?_, ?_⟩⟩
  · rw [e, h1, h2, Int.toNat_natCast, Int.toNat_natCast, mul_comm_power, show 8 * j + 8 * i = 8 * (j + i) by omega]
  · rw [e', pw_sq h2]
  · have : n.toNat = 2 * (n / 2).toNat + 1 := by omega
    rw [← h3, this, Nat.mul_add, Nat.mul_one, ← Nat.mul_assoc, Nat.mul_comm j 2]
    omega
theorem pw_even {n₀ n f s p' b' : Int} {m' : Nat} (T : Pw n₀ n f s) (M' : Mul s s (downKs 31 m') p' b') (ho : ¬ n % 2 = 1) (h0 : 0 ≤ n) (hf : 0 ≤ f) (hm' : m' = 32) :
    0 ≤ n / 2 ∧ 0 ≤ f ∧ 0 ≤ p' ∧ Pw n₀ (n / 2) f p' := by
  have e' := mul_end M' hm'
  obtain ⟨i, j, h1, h2, h3⟩ := T.ex
  refine ⟨by omega, hf, by omega, ⟨i, 2 * j, h1, ?_, ?_⟩⟩
  · rw [e', pw_sq h2]
  · have : n.toNat = 2 * (n / 2).toNat := by omega
    rw [← h3, this, ← Nat.mul_assoc, Nat.mul_comm j 2]
theorem j_end {a b n₀ n f s p b' : Int} {m : Nat} (T : Pw n₀ n f s) (M : Mul a f (downKs 31 m) p b') (hm : m = 32) (hn : ¬ 0 < n) (ha : 0 ≤ a ∧ a ≤ 4294967295) (h0 : 0 ≤ n) : PyMd04.join a b n₀ = [zx p b] := by
  have e := mul_end M hm
  obtain ⟨i, j, h1, h2, h3⟩ := T.ex
  have hi : i = n₀.toNat := by
    rw [show n.toNat = 0 by omega] at h3
    omega
  subst hi
  show [((Md04.join a.toNat b.toNat n₀.toNat : Nat) : Int)] = _
  have hl : a.toNat < 2 ^ 32 := by omega
  rw [join_eq _ _ hl]
  rw [h1, Int.toNat_natCast, mul_comm hl (steps_lt _ (by decide)), mul_power hl] at e
  unfold zx
  rw [e, Int.toNat_natCast]
end My
set_option maxRecDepth 100000 in
set_option maxHeartbeats 8000000 in
theorem PySem.Challenge.cw_byterows_s10_join_holds : PySem.Challenge.rw_byterows_s10_join.Holds := by
  k_with "call ref" => k_call_by "shifted" My.sh (fun (s : Int) => 0 ≤ s)
  k_with "tree" => first
    | exact My.sh_odd (by assumption) (by assumption)
    | exact My.sh_even (by assumption) (by assumption)
  k_with "state" => first
    | exact My.in_turn (by assumption)
    | exact My.in_start (by assumption)
    | exact My.mul_start (by assumption) (by assumption)
    | exact My.mul_one (by assumption) (by assumption) (by omega) (by omega)
    | exact My.mul_none (by assumption) (by assumption) (by omega) (by omega)
    | exact My.pw_start (by assumption) (by assumption) (by omega)
    | exact My.pw_odd (by assumption) (by assumption) (by assumption) (by assumption) (by assumption) (by omega) (by omega)
    | exact My.pw_even (by assumption) (by assumption) (by assumption) (by assumption) (by assumption) (by omega)
  k_with "pyIter ref" => (k_of "step" => ((rename (0 ≤ My.zx _ _) => hpz); (have hm := My.mark hpz); k_state_short (fun pre s => 0 ≤ s ∧ My.W hm pre s) "state"))
  k_with "pyIter ref" => (k_of "k" => ((have hb := My.bounds (by assumption)); (have hba := hb.a0); (rename Fr _ _ _ _ => hFr); (have hm := My.mark2 hFr (by with_unfolding_all rfl) (by with_unfolding_all rfl)); k_state (fun pre p b => 0 ≤ p ∧ 0 ≤ b ∧ My.W2 hm pre p b) "product" "b"))
  k_with "exec While Compare cons nil" => ((have hb := My.bounds (by assumption)); (have hbn := hb.n0); k_while_given ["n!"] (fun n₀ _ n f s => 0 ≤ n ∧ 0 ≤ f ∧ 0 ≤ s ∧ My.Pw n₀ n f s) (fun _ _ n _ _ => n.toNat) "n" "factor" "square")
  k_with "binaryOp BitXor int int" => ((have hb := My.bounds (by assumption)); (have hb1 := hb.b0); (with_reducible refine' My.step_xor2 ?k1 ?k2 ?_); (case k1 => omega); (case k2 => omega); intro _)
  w_on; k_headS; (case hw => exact ⟨[.int 0, .int 0, .int 0], by decide +kernel, by decide +kernel⟩)
  w_strict k_goS
  all_goals
    os_open My.said with a w q e
    obtain ⟨a', b', n', u⟩ := a
    have e1 := os_j_int (List.cons.inj e).1
    have e2 := os_j_int (List.cons.inj (List.cons.inj e).2).1
    have e3 := os_j_int (List.cons.inj (List.cons.inj (List.cons.inj e).2).2).1
    subst e1 e2 e3
    refine os_list (ys := PyMd04.join _ _ _) ?_
  · have hb := My.w_int w
    rw [My.j_end (by assumption) (by assumption) (by omega) (by omega) hb.1 (by assumption)]; rfl
#print axioms PySem.Challenge.cw_byterows_s10_join_holds
