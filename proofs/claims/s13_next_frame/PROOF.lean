import PyProof.Rows.All
import KE.OsGo
import KE.OsArgs
import KE.BitLaws
import PySem.Challenge.RW_byterows_s13_next_frame
set_option Elab.async false
namespace My
/-- A whole number as a byte. -/
abbrev u8 (z : Int) : UInt8 := UInt8.ofNat z.toNat
theorem u8_toNat {z : Int} (h0 : 0 ≤ z) (h1 : z ≤ 255) : (u8 z).toNat = z.toNat := by
  show (UInt8.ofNat z.toNat).toNat = z.toNat
  rw [UInt8.toNat_ofNat']
  omega
theorem u8_inj {a b : Int} (ha : 0 ≤ a ∧ a ≤ 255) (hb : 0 ≤ b ∧ b ≤ 255) (e : u8 a = u8 b) : a = b := by
  have := congrArg UInt8.toNat e
  rw [u8_toNat ha.1 ha.2, u8_toNat hb.1 hb.2] at this
  omega
theorem u8_lt {a b : Int} (ha : 0 ≤ a ∧ a ≤ 255) (hb : 0 ≤ b ∧ b ≤ 255) : u8 a < u8 b ↔ a < b := by
  rw [UInt8.lt_iff_toNat_lt, u8_toNat ha.1 ha.2, u8_toNat hb.1 hb.2]
  omega
/-- bytes -/
abbrev Row (xs : List Int) : Prop := ∀ x ∈ xs, (0 : Int) ≤ x ∧ x ≤ 255
theorem Row.tail {x : Int} {xs : List Int} (h : Row (x :: xs)) : Row xs := fun y hy => h y (List.mem_cons_of_mem _ hy)
theorem Row.head {x : Int} {xs : List Int} (h : Row (x :: xs)) : (0 : Int) ≤ x ∧ x ≤ 255 := h x (List.mem_cons_self ..)
theorem Row.drop {xs : List Int} (h : Row xs) (k : Nat) : Row (xs.drop k) := fun y hy => h y (List.mem_of_mem_drop hy)
theorem Row.take {xs : List Int} (h : Row xs) (k : Nat) : Row (xs.take k) := fun y hy => h y (List.mem_of_mem_take hy)
abbrev by_ := Md04Neutral.by_
theorem by_length (xs : List Int) : (by_ xs).length = xs.length := List.length_map ..
theorem by_append (xs ys : List Int) : by_ (xs ++ ys) = by_ xs ++ by_ ys := List.map_append ..
theorem by_drop (xs : List Int) (k : Nat) : by_ (xs.drop k) = (by_ xs).drop k := List.map_drop ..
theorem by_take (xs : List Int) (k : Nat) : by_ (xs.take k) = (by_ xs).take k := List.map_take ..
theorem by_inj : ∀ {a b : List Int}, Row a → Row b → by_ a = by_ b → a = b
  | [], [], _, _, _ => rfl
  | [], _ :: _, _, _, e => by cases e
  | _ :: _, [], _, _, e => by cases e
  | x :: a, y :: b, ha, hb, e => by
    have e' := List.cons.inj e
    rw [u8_inj ha.head hb.head e'.1, by_inj ha.tail hb.tail e'.2]
/-- back again -/
theorem by_back : ∀ {xs : List Int}, Row xs → (by_ xs).map (fun (b : UInt8) => (b.toNat : Int)) = xs
  | [], _ => rfl
  | x :: r, h => by
    show ((u8 x).toNat : Int) :: _ = x :: r
    have e := by_back h.tail
    unfold by_ Md04Neutral.by_ at e
    rw [e, u8_toNat h.head.1 h.head.2]
    congr 1
    have := h.head
    omega
theorem find_first {f : Nat → Bool} : ∀ (n k : Nat), k < n → f k = true → (∀ i, i < k → f i = false) → (List.range n).find? f = some k := by
  intro n k hk hf h
  rw [List.find?_eq_some_iff_getElem]
  refine ⟨hf, k, by simpa using hk, by simp, fun j hj => by simp [h j hj]⟩
theorem find_none {f : Nat → Bool} {n : Nat} (h : ∀ i, i < n → f i = false) : (List.range n).find? f = none := by
  rw [List.find?_eq_none]
  intro x hx
  simp [h x (List.mem_range.mp hx)]
/-! ### next -/
theorem next_at {b : Md04.Bytes} {k m : Nat} (hk : k < b.length) (h : Md04.frameAt (b.drop k) = some m) (hn : ∀ i : Nat, i < k → Md04.frameAt (b.drop i) = none) : Md04.next b = some (k, m) := by
  unfold Md04.next
  rw [find_first _ k hk (by rw [h]; rfl) (fun i hi => by rw [hn i hi]; rfl)]
  show some (k, (Md04.frameAt (b.drop k)).getD 0) = _
  rw [h]; rfl
theorem next_none {b : Md04.Bytes} (hn : ∀ i : Nat, i < b.length → Md04.frameAt (b.drop i) = none) : Md04.next b = none := by
  unfold Md04.next
  rw [find_none (fun i hi => by rw [hn i hi]; rfl)]
  rfl
/-! ### exclusive or -/
theorem xor_and (x y : Nat) : (x ^^^ y) + 2 * (x &&& y) = x + y := by
  induction x using Nat.strongRecOn generalizing y with
  | _ x ih =>
    by_cases h0 : x = 0
    · subst h0; simp
    · have h := ih (x / 2) (by omega) (y / 2)
      rw [← Nat.xor_div_two, ← Nat.and_div_two] at h
      have h1 := Nat.xor_mod_two_eq_one (a := x) (b := y)
      have h4 : (x ^^^ y) % 2 < 2 := Nat.mod_lt _ (by decide)
      have h2 := Nat.and_mod_two_eq_one (a := x) (b := y)
      have h3 : (x &&& y) % 2 < 2 := Nat.mod_lt _ (by decide)
      generalize (x ^^^ y) = u at *
      generalize (x &&& y) = v at *
      by_cases hx : x % 2 = 1 <;> by_cases hy : y % 2 = 1
      · have := h2.mpr ⟨hx, hy⟩
        have : ¬ u % 2 = 1 := by rw [h1]; simp [hx, hy]
        omega
      · have : ¬ v % 2 = 1 := fun e => hy (h2.mp e).2
        have : u % 2 = 1 := by rw [h1]; simp [hx, hy]
        omega
      · have : ¬ v % 2 = 1 := fun e => hx (h2.mp e).1
        have : u % 2 = 1 := by rw [h1]; simp [hx, hy]
        omega
      · have : ¬ v % 2 = 1 := fun e => hx (h2.mp e).1
        have : ¬ u % 2 = 1 := by rw [h1]; simp [hx, hy]
        omega
end My
namespace My
section
open Md04
/-! ### steps are linear -/
theorem step_xor (a b : Nat) : step (a ^^^ b) = step a ^^^ step b := by
  unfold step
  rw [Nat.xor_div_two]
  have h := Nat.xor_mod_two_eq_one (a := a) (b := b)
  by_cases ha : a % 2 = 1 <;> by_cases hb : b % 2 = 1
  · have : ¬ (a ^^^ b) % 2 = 1 := by rw [h]; simp [ha, hb]
    rw [if_neg this, if_pos ha, if_pos hb]
    rw [show (a / 2 ^^^ POLY) ^^^ (b / 2 ^^^ POLY) = (a / 2 ^^^ b / 2) ^^^ (POLY ^^^ POLY) by ac_rfl, Nat.xor_self, Nat.xor_zero]
  · have : (a ^^^ b) % 2 = 1 := by rw [h]; simp [ha, hb]
    rw [if_pos this, if_pos ha, if_neg hb]; ac_rfl
  · have : (a ^^^ b) % 2 = 1 := by rw [h]; simp [ha, hb]
    rw [if_pos this, if_neg ha, if_pos hb]; ac_rfl
  · have : ¬ (a ^^^ b) % 2 = 1 := by rw [h]; simp [ha, hb]
    rw [if_neg this, if_neg ha, if_neg hb]
theorem step_lt {c : Nat} (h : c < 2 ^ 32) : step c < 2 ^ 32 := by
  unfold step
  split
  · exact Nat.xor_lt_two_pow (by omega) (by decide)
  · omega
theorem steps_add : ∀ (j k c : Nat), steps (j + k) c = steps k (steps j c)
  | 0, k, c => by rw [Nat.zero_add]; rfl
  | j + 1, k, c => by
    rw [show j + 1 + k = (j + k) + 1 by omega]
    exact steps_add j k (step c)
theorem steps_succ (k c : Nat) : steps (k + 1) c = step (steps k c) := by
  rw [steps_add k 1 c]; rfl
theorem steps_xor : ∀ (k a b : Nat), steps k (a ^^^ b) = steps k a ^^^ steps k b
  | 0, _, _ => rfl
  | k + 1, a, b => by
    show steps k (step (a ^^^ b)) = steps k (step a) ^^^ steps k (step b)
    rw [step_xor, steps_xor k]
theorem steps_lt : ∀ (k : Nat) {c : Nat}, c < 2 ^ 32 → steps k c < 2 ^ 32
  | 0, _, h => h
  | k + 1, _, h => steps_lt k (step_lt h)
theorem steps_zero (k : Nat) : steps k 0 = 0 := by
  have h := steps_xor k 0 0
  rw [Nat.xor_self, Nat.xor_self] at h
  exact h
/-! ### a list of what a linear map makes of each bit -/
theorem mod_succ (c n : Nat) : c % 2 ^ (n + 1) = if c.testBit n = true then (c % 2 ^ n) ^^^ 2 ^ n else c % 2 ^ n := by
  apply Nat.eq_of_testBit_eq
  intro j
  by_cases hc : c.testBit n = true
  · rw [if_pos hc, Nat.testBit_xor, Nat.testBit_mod_two_pow, Nat.testBit_mod_two_pow, Nat.testBit_two_pow]
    by_cases hj : j = n
    · subst hj; simp [hc]
    · have h1 : decide (j < n + 1) = decide (j < n) := by
        rw [decide_eq_decide]; omega
      have h2 : decide (n = j) = false := by simp; omega
      rw [h1, h2, Bool.xor_false]
  · rw [if_neg hc, Nat.testBit_mod_two_pow, Nat.testBit_mod_two_pow]
    by_cases hj : j = n
    · subst hj; simp at hc; simp [hc]
    · have h1 : decide (j < n + 1) = decide (j < n) := by
        rw [decide_eq_decide]; omega
      rw [h1]
theorem of_range (f : Nat → Nat) (hf : ∀ a b, f (a ^^^ b) = f a ^^^ f b) (c : Nat) : ∀ n, Turn.of ((List.range n).map fun i => f (2 ^ i)) c = f (c % 2 ^ n)
  | 0 => by
    have h := hf 0 0
    rw [Nat.xor_self, Nat.xor_self] at h
    show 0 = f (c % 2 ^ 0)
    rw [Nat.pow_zero, Nat.mod_one, h]
  | n + 1 => by
    have ih := of_range f hf c n
    unfold Turn.of at ih ⊢
    rw [List.range_succ, List.map_append, List.zipIdx_append, List.foldl_append, ih, mod_succ]
    simp only [List.map_cons, List.map_nil, List.zipIdx_cons, List.zipIdx_nil, List.foldl_cons, List.foldl_nil, List.length_map, List.length_range, Nat.zero_add]
    split
    · rw [hf]
    · rfl
/-- m tells f of each of 32 bits -/
def Rep (m : Turn) (f : Nat → Nat) : Prop := m = (List.range 32).map fun i => f (2 ^ i)
theorem Rep.of {m : Turn} {f : Nat → Nat} (h : Rep m f) (hf : ∀ a b, f (a ^^^ b) = f a ^^^ f b) {c : Nat} (hc : c < 2 ^ 32) : Turn.of m c = f c := by
  have e := of_range f hf c 32
  rw [show m = (List.range 32).map fun i => f (2 ^ i) from h, e, Nat.mod_eq_of_lt hc]
theorem rep_map {m : Turn} {f g : Nat → Nat} {h : Nat → Nat} (r : Rep m f) (e : ∀ i, i < 32 → g (f (2 ^ i)) = h (2 ^ i)) : Rep (m.map g) h := by
  unfold Rep
  rw [show m = (List.range 32).map fun i => f (2 ^ i) from r, List.map_map]
  apply List.map_congr_left
  intro i hi
  exact e i (List.mem_range.mp hi)
theorem rep_once : Rep once step := rfl
theorem power_rep : ∀ (f n : Nat), n < 2 ^ f → Rep (power f n) (steps n)
  | 0, n, h => by
    have : n = 0 := by simpa using h
    subst this
    rfl
  | f + 1, n, h => by
    unfold power
    by_cases h0 : n = 0
    · rw [if_pos h0]; subst h0; rfl
    · rw [if_neg h0]
      have ih := power_rep f (n / 2) (by rw [Nat.pow_succ] at h; omega)
      have hq : Rep ((power f (n / 2)).map (power f (n / 2)).of) (steps (n / 2 + n / 2)) :=
        rep_map ih fun i hi => by
          rw [ih.of (steps_xor _) (steps_lt _ (Nat.pow_lt_pow_right (by decide) hi)), steps_add]
      show Rep (if n % 2 = 1 then _ else _) (steps n)
      split
      · rename_i ho
        have e : n = n / 2 + n / 2 + 1 := by omega
        have := rep_map (g := once.of) (h := steps n) hq fun i hi => by
          rw [rep_once.of step_xor (steps_lt _ (Nat.pow_lt_pow_right (by decide) hi)), ← steps_succ, ← e]
        exact this
      · rename_i ho
        have e : n / 2 + n / 2 = n := by omega
        rw [e] at hq
        exact hq
theorem join_eq {a : Nat} (b n : Nat) (h : a < 2 ^ 32) : join a b n = steps (8 * n) a ^^^ b := by
  unfold join
  rw [(power_rep (8 * n + 1) (8 * n) (Nat.lt_of_lt_of_le Nat.lt_two_pow_self (Nat.pow_le_pow_right (by decide) (Nat.le_succ _)))).of (steps_xor _) h]
/-! ### the sum -/
theorem feed_append (c : Nat) (x y : Bytes) : feed c (x ++ y) = feed (feed c x) y := by
  unfold feed; rw [List.foldl_append]
theorem feed_cons (c : Nat) (x : UInt8) (y : Bytes) : feed c (x :: y) = feed (steps 8 (c ^^^ x.toNat)) y := rfl
theorem u8_lt32 (x : UInt8) : x.toNat < 2 ^ 32 := Nat.lt_of_lt_of_le x.toNat_lt (by decide)
theorem feed_lt : ∀ (b : Bytes) {c : Nat}, c < 2 ^ 32 → feed c b < 2 ^ 32
  | [], _, h => h
  | x :: r, _, h => feed_lt r (steps_lt 8 (Nat.xor_lt_two_pow h (u8_lt32 x)))
theorem sum_lt {a : Nat} (h : a < 2 ^ 32) (b : Bytes) : sum a b < 2 ^ 32 :=
  Nat.xor_lt_two_pow (feed_lt b (Nat.xor_lt_two_pow h (by decide))) (by decide)
theorem xor_ones_twice (c : Nat) : c ^^^ ONES ^^^ ONES = c := by rw [Nat.xor_assoc, Nat.xor_self, Nat.xor_zero]
theorem sum_append (a : Nat) (x y : Bytes) : sum a (x ++ y) = sum (sum a x) y := by
  unfold sum
  rw [feed_append, xor_ones_twice]
/-! ### products -/
/-- the first n terms of a times b: bit 31 is the lowest power -/
def mulTo (a b : Nat) : Nat → Nat
  | 0 => 0
  | i + 1 => if a.testBit (31 - i) = true then mulTo a b i ^^^ steps i b else mulTo a b i
def mul (a b : Nat) : Nat := mulTo a b 32
theorem mulTo_xor (a a' b : Nat) : ∀ i, mulTo (a ^^^ a') b i = mulTo a b i ^^^ mulTo a' b i
  | 0 => by simp [mulTo]
  | i + 1 => by
    unfold mulTo
    rw [mulTo_xor a a' b i, Nat.testBit_xor]
    generalize mulTo a b i = x
    generalize mulTo a' b i = y
    generalize steps i b = z
    cases a.testBit (31 - i) <;> cases a'.testBit (31 - i) <;> simp
    · ac_rfl
    · ac_rfl
    · rw [show x ^^^ z ^^^ (y ^^^ z) = (x ^^^ y) ^^^ (z ^^^ z) by ac_rfl, Nat.xor_self, Nat.xor_zero]
theorem mulTo_xor_r (a b b' : Nat) : ∀ i, mulTo a (b ^^^ b') i = mulTo a b i ^^^ mulTo a b' i
  | 0 => by simp [mulTo]
  | i + 1 => by
    unfold mulTo
    rw [mulTo_xor_r a b b' i, steps_xor]
    cases a.testBit (31 - i) <;> simp
    ac_rfl
theorem mulTo_zero (b : Nat) : ∀ i, mulTo 0 b i = 0
  | 0 => rfl
  | i + 1 => by unfold mulTo; rw [mulTo_zero b i]; simp
/-- one bit -/
theorem mulTo_bit (b : Nat) {j : Nat} (hj : j < 32) : ∀ i, i ≤ 32 → mulTo (2 ^ j) b i = if 31 - j < i then steps (31 - j) b else 0
  | 0, _ => by simp [mulTo]
  | i + 1, hi => by
    unfold mulTo
    rw [mulTo_bit b hj i (by omega), Nat.testBit_two_pow]
    by_cases e : j = 31 - i
    · rw [if_pos (by simpa using e), if_neg (by omega), if_pos (by omega), Nat.zero_xor, show 31 - j = i by omega]
    · rw [if_neg (by simpa using e)]
      by_cases h : 31 - j < i
      · rw [if_pos h, if_pos (by omega)]
      · rw [if_neg h, if_neg (by omega)]
theorem mul_bit (b : Nat) {j : Nat} (hj : j < 32) : mul (2 ^ j) b = steps (31 - j) b := by
  unfold mul
  rw [mulTo_bit b hj 32 (Nat.le_refl _), if_pos (by omega)]
theorem lin_ext {f g : Nat → Nat} (hf : ∀ a b, f (a ^^^ b) = f a ^^^ f b) (hg : ∀ a b, g (a ^^^ b) = g a ^^^ g b) (h : ∀ i, i < 32 → f (2 ^ i) = g (2 ^ i)) {c : Nat} (hc : c < 2 ^ 32) : f c = g c := by
  have z : ∀ {k : Nat → Nat}, (∀ a b, k (a ^^^ b) = k a ^^^ k b) → k 0 = 0 := fun {k} hk => by
    have := hk 0 0
    rw [Nat.xor_self, Nat.xor_self] at this
    exact this
  have : ∀ n, n ≤ 32 → f (c % 2 ^ n) = g (c % 2 ^ n) := by
    intro n
    induction n with
    | zero => intro _; rw [Nat.pow_zero, Nat.mod_one, z hf, z hg]
    | succ n ih =>
      intro hn
      rw [mod_succ]
      split
      · rw [hf, hg, ih (by omega), h n (by omega)]
      · exact ih (by omega)
  have e := this 32 (Nat.le_refl _)
  rwa [Nat.mod_eq_of_lt hc] at e
/-- the polynomial itself: 32 steps are its other terms -/
theorem poly_bits : ∀ i, i < 32 → mul POLY (2 ^ i) = steps 32 (2 ^ i) := by
  have : (List.range 32).all (fun i => mul POLY (2 ^ i) == steps 32 (2 ^ i)) = true := by decide +kernel
  intro i hi
  have := List.all_eq_true.mp this i (List.mem_range.mpr hi)
  simpa using this
theorem mul_poly {b : Nat} (hb : b < 2 ^ 32) : mul POLY b = steps 32 b :=
  lin_ext (f := mul POLY) (g := steps 32) (fun _ _ => mulTo_xor_r _ _ _ _) (steps_xor 32) poly_bits hb
theorem step_bit {i : Nat} : step (2 ^ (i + 1)) = 2 ^ i := by
  unfold step
  rw [if_neg (by rw [Nat.pow_succ]; omega), Nat.pow_succ]
  omega
theorem mul_step {a b : Nat} (ha : a < 2 ^ 32) (hb : b < 2 ^ 32) : mul (step a) b = step (mul a b) := by
  refine lin_ext (f := fun a => mul (step a) b) (g := fun a => step (mul a b)) (fun x y => ?_) (fun x y => ?_) (fun i hi => ?_) ha
  · show mul (step (x ^^^ y)) b = _
    rw [step_xor]; exact mulTo_xor _ _ _ _
  · show step (mul (x ^^^ y) b) = _
    rw [show mul (x ^^^ y) b = mul x b ^^^ mul y b from mulTo_xor _ _ _ _, step_xor]
  · show mul (step (2 ^ i)) b = step (mul (2 ^ i) b)
    rw [mul_bit b hi, ← steps_succ]
    cases i with
    | zero => exact mul_poly hb
    | succ i => rw [step_bit, mul_bit b (by omega), show 31 - i = 31 - (i + 1) + 1 by omega]
theorem mul_steps {b : Nat} (hb : b < 2 ^ 32) : ∀ k {a : Nat}, a < 2 ^ 32 → mul (steps k a) b = steps k (mul a b)
  | 0, _, _ => rfl
  | k + 1, a, ha => by
    show mul (steps k (step a)) b = steps k (step (mul a b))
    rw [mul_steps hb k (step_lt ha), mul_step ha hb]
/-- x to the k times b -/
theorem mul_power {b : Nat} (hb : b < 2 ^ 32) (k : Nat) : mul (steps k (2 ^ 31)) b = steps k b := by
  rw [mul_steps hb k (by decide), mul_bit b (by decide)]; rfl
theorem mul_comm_power (j k : Nat) : mul (steps k (2 ^ 31)) (steps j (2 ^ 31)) = steps (j + k) (2 ^ 31) := by
  rw [mul_power (steps_lt _ (by decide)), steps_add]
theorem eight : steps 8 (2 ^ 31) = 2 ^ 23 := by decide +kernel
/-- the other way round -/
theorem mul_comm {a b : Nat} (ha : a < 2 ^ 32) (hb : b < 2 ^ 32) : mul a b = mul b a := by
  refine lin_ext (f := fun a => mul a b) (g := fun a => mul b a) (fun x y => mulTo_xor _ _ _ _) (fun x y => mulTo_xor_r _ _ _ _) (fun i hi => ?_) ha
  show mul (2 ^ i) b = mul b (2 ^ i)
  refine lin_ext (f := fun b => mul (2 ^ i) b) (g := fun b => mul b (2 ^ i)) (fun x y => mulTo_xor_r _ _ _ _) (fun x y => mulTo_xor _ _ _ _) (fun j hj => ?_) hb
  show mul (2 ^ i) (2 ^ j) = mul (2 ^ j) (2 ^ i)
  rw [mul_bit _ hi, mul_bit _ hj]
  have p : ∀ {i : Nat}, i < 32 → (2 : Nat) ^ i = steps (31 - i) (2 ^ 31) := by
    have : (List.range 32).all (fun i => 2 ^ i == steps (31 - i) (2 ^ 31)) = true := by decide +kernel
    intro i hi
    have := List.all_eq_true.mp this i (List.mem_range.mpr hi)
    simpa using this
  rw [p hi, p hj, ← steps_add, ← steps_add, Nat.add_comm]
/-- a bit -/
theorem bit_of {a : Int} (h0 : 0 ≤ a) (k : Nat) : a / 2 ^ k % 2 = 1 ↔ a.toNat.testBit k = true := by
  rw [Nat.testBit_eq_decide_div_mod_eq, decide_eq_true_eq]
  have e : a = ((a.toNat : Nat) : Int) := by omega
  generalize a.toNat = n at e
  subst e
  have : ((n : Int) / 2 ^ k) = ((n / 2 ^ k : Nat) : Int) := by simp
  rw [this]
  omega
end
end My
/-! ### sums of parts -/
namespace My
section
open Md04
theorem feed_lin : ∀ (x : Bytes) (c : Nat), feed c x = steps (8 * x.length) c ^^^ feed 0 x
  | [], c => by
    show c = steps 0 c ^^^ 0
    rw [Nat.xor_zero]; rfl
  | y :: r, c => by
    rw [feed_cons, feed_cons, feed_lin r, feed_lin r (steps 8 (0 ^^^ y.toNat)), steps_xor, Nat.zero_xor, steps_xor]
    rw [List.length_cons, show 8 * (r.length + 1) = 8 + 8 * r.length by omega, steps_add]
    ac_rfl
theorem sum_lin (a : Nat) (y : Bytes) : sum a y = steps (8 * y.length) a ^^^ sum 0 y := by
  unfold sum
  rw [feed_lin y (a ^^^ ONES), feed_lin y (0 ^^^ ONES), steps_xor, Nat.zero_xor]
  ac_rfl
/-- a part's sum out of the sums of beginnings -/
theorem sum_part (b : Bytes) (k j : Nat) (h : k + j ≤ b.length) : sum 0 ((b.drop k).take j) = sum 0 (b.take (k + j)) ^^^ steps (8 * j) (sum 0 (b.take k)) := by
  have hl : ((b.drop k).take j).length = j := by rw [List.length_take, List.length_drop]; omega
  rw [List.take_add, sum_append, sum_lin (sum 0 (b.take k)), hl]
  generalize steps (8 * j) (sum 0 (b.take k)) = u
  generalize sum 0 ((b.drop k).take j) = v
  rw [show u ^^^ v ^^^ u = v ^^^ (u ^^^ u) by ac_rfl, Nat.xor_self, Nat.xor_zero]
theorem feed_zeros (c : Nat) : ∀ (l : List Int), (∀ z ∈ l, z = 0) → feed c (by_ l) = steps (8 * l.length) c
  | [], _ => rfl
  | z :: r, h => by
    have hz : z = 0 := h z (List.mem_cons_self ..)
    subst hz
    show feed (steps 8 (c ^^^ 0)) (by_ r) = _
    rw [feed_zeros _ r (fun y hy => h y (List.mem_cons_of_mem _ hy)), Nat.xor_zero, ← steps_add, List.length_cons, show 8 + 8 * r.length = 8 * (r.length + 1) by omega]
/-! ### a number out of four bytes -/
theorem drop_cons {a : List Int} {k : Nat} (h : k < a.length) : a.drop k = a.getD k 0 :: a.drop (k + 1) := by
  rw [List.drop_eq_getElem_cons h]
  congr 1
  simp [List.getD, h]
abbrev num (xs : List Int) (k : Int) : Int := xs.getD k.toNat 0 * 16777216 + xs.getD (k + 1).toNat 0 * 65536 + xs.getD (k + 2).toNat 0 * 256 + xs.getD (k + 3).toNat 0
structure IsNum (xs : List Int) (k v : Int) : Prop where
  eq : v = num xs k
theorem row_at {xs : List Int} (h : Row xs) (i : Nat) : 0 ≤ xs.getD i 0 ∧ xs.getD i 0 ≤ 255 := by
  by_cases hi : i < xs.length
  · have e : xs.getD i 0 = xs[i] := by simp [List.getD, hi]
    rw [e]
    exact h _ (List.getElem_mem hi)
  · have e : xs.getD i 0 = 0 := by simp [List.getD, List.getElem?_eq_none (Nat.le_of_not_lt hi)]
    rw [e]
    decide
theorem num_nonneg {xs : List Int} (h : Row xs) (k : Int) : 0 ≤ num xs k := by
  have h0 := row_at h k.toNat
  have h1 := row_at h (k + 1).toNat
  have h2 := row_at h (k + 2).toNat
  have h3 := row_at h (k + 3).toNat
  unfold num
  omega
theorem word_at {xs : List Int} (h : Row xs) {k : Int} (h0 : 0 ≤ k) (hk : k + 4 ≤ xs.length) : ((word (((by_ xs).drop k.toNat).take 4) : Nat) : Int) = num xs k := by
  have b0 := row_at h k.toNat
  have b1 := row_at h (k + 1).toNat
  have b2 := row_at h (k + 2).toNat
  have b3 := row_at h (k + 3).toNat
  rw [← by_drop, drop_cons (by omega), drop_cons (by omega), drop_cons (by omega), drop_cons (by omega)]
  rw [show k.toNat + 1 = (k + 1).toNat by omega, show (k + 1).toNat + 1 = (k + 2).toNat by omega, show (k + 2).toNat + 1 = (k + 3).toNat by omega]
  show ((256 * (256 * (256 * (256 * 0 + (u8 (xs.getD k.toNat 0)).toNat) + (u8 (xs.getD (k + 1).toNat 0)).toNat) + (u8 (xs.getD (k + 2).toNat 0)).toNat) + (u8 (xs.getD (k + 3).toNat 0)).toNat : Nat) : Int) = _
  rw [u8_toNat b0.1 b0.2, u8_toNat b1.1 b1.2, u8_toNat b2.1 b2.2, u8_toNat b3.1 b3.2]
  unfold num
  omega
/-! ### a frame at a place -/
theorem frame_eq {xs : List Int} (h : Row xs) {k : Int} (h0 : 0 ≤ k) (hk : k + 8 ≤ xs.length) : frameAt ((by_ xs).drop k.toNat) =
    if k + 4 + num xs k + 4 ≤ xs.length then (if ((sum 0 (((by_ xs).drop k.toNat).take (4 + (num xs k).toNat)) : Nat) : Int) = num xs (k + 4 + num xs k) then some (num xs k).toNat else none) else none := by
  have hn := num_nonneg h k
  have hw := word_at h h0 (by omega)
  have hw' : word (((by_ xs).drop k.toNat).take 4) = (num xs k).toNat := by omega
  have hl : ((by_ xs).drop k.toNat).length = xs.length - k.toNat := by rw [List.length_drop, by_length]
  unfold frameAt
  rw [hw', hl]
  generalize hv : num xs k = v at hn
  by_cases hf : k + 4 + v + 4 ≤ xs.length
  · rw [if_pos hf]
    have hc : ¬ (xs.length - k.toNat < 8 ∨ xs.length - k.toNat - 8 < v.toNat) := by omega
    simp only [hc, if_false]
    have hw2 := word_at h (k := k + 4 + v) (by omega) (by omega)
    rw [List.drop_drop, show k.toNat + (4 + v.toNat) = (k + 4 + v).toNat by omega]
    by_cases he : sum 0 (((by_ xs).drop k.toNat).take (4 + v.toNat)) = word (((by_ xs).drop (k + 4 + v).toNat).take 4)
    · rw [if_pos he, if_pos (by rw [he]; exact hw2)]
    · rw [if_neg he, if_neg (by omega)]
  · rw [if_neg hf]
    have hc : (xs.length - k.toNat < 8 ∨ xs.length - k.toNat - 8 < v.toNat) := by omega
    simp only [hc, if_true]
theorem frame_short {xs : List Int} {i : Nat} (h : xs.length < i + 8) : frameAt ((by_ xs).drop i) = none := by
  unfold frameAt
  have hl : ((by_ xs).drop i).length < 8 := by rw [List.length_drop, by_length]; omega
  simp only [hl, true_or, if_true]
end
end My
open PySem PySem.W PyProof.Rows
namespace My
open PySem PySem.W
theorem w_int {lo hi : Int} {cs : List Codec} {a : Int} {r : Codec.denoteAll cs} (h : Codec.withinAll (.int lo hi :: cs) (a, r) = true) : (lo ≤ a ∧ a ≤ hi) ∧ Codec.withinAll cs r = true := by
  have h1 : (Codec.inInt lo hi a && Codec.withinAll cs r) = true := h
  rw [Bool.and_eq_true] at h1
  have h2 := h1.1
  unfold Codec.inInt at h2
  rw [Bool.and_eq_true, decide_eq_true_eq, decide_eq_true_eq] at h2
  exact ⟨h2, h1.2⟩
theorem w_ints {l m : Nat} {lo hi : Int} {cs : List Codec} {a : List Int} {r : Codec.denoteAll cs} (h : Codec.withinAll (.list l m (.int lo hi) :: cs) (a, r) = true) :
    (l ≤ a.length ∧ a.length ≤ m) ∧ (∀ x ∈ a, lo ≤ x ∧ x ≤ hi) ∧ Codec.withinAll cs r = true := by
  have h1 : (Codec.inList l m (Codec.inInt lo hi) a && Codec.withinAll cs r) = true := h
  rw [Bool.and_eq_true] at h1
  have h2 := h1.1
  unfold Codec.inList at h2
  rw [Bool.and_eq_true, List.all_eq_true] at h2
  have h4 := h2.1
  unfold Codec.inLen Codec.inNat at h4
  rw [Bool.and_eq_true, decide_eq_true_eq, decide_eq_true_eq] at h4
  refine ⟨h4, fun x hx => ?_, h1.2⟩
  have h3 := h2.2 x hx
  unfold Codec.inInt at h3
  rw [Bool.and_eq_true, decide_eq_true_eq, decide_eq_true_eq] at h3
  exact h3
end My
namespace My
open PySem PySem.W PySem.Calls PyProof.Rows
section
variable {prog : Program} {w : World} {A : Around} {E : Value → Shared → Prop} {s : Shared} {x y : Int} {t u : Tok} {Q : Value → Shared → Prop}
theorem step_div (hy : 0 < y) (hs : y ≤ 100000) (h : Q (.int (x / y) s.toks) { s with toks := s.toks + 1 }) :
    wpAny (model prog w) A (binaryOp .FloorDiv (.int x t) (.int y u)) Q E s :=
  PyProof.Rows.floordiv_int (by omega) (by rw [Int.fdiv_eq_ediv_of_nonneg x (Int.le_of_lt hy)]; exact h) (Or.inl (PyProof.noPylong_small (by omega)))
theorem step_mod (hy : 0 < y) (h : Q (.int (x % y) s.toks) { s with toks := s.toks + 1 }) :
    wpAny (model prog w) A (binaryOp .Mod (.int x t) (.int y u)) Q E s :=
  PyProof.Rows.mod_int (by omega) (by rw [Int.fmod_eq_emod_of_nonneg x (Int.le_of_lt hy)]; exact h)
theorem step_shr (hy : 0 ≤ y) (h : Q (.int (x / 2 ^ y.toNat) s.toks) { s with toks := s.toks + 1 }) :
    wpAny (model prog w) A (binaryOp .RShift (.int x t) (.int y u)) Q E s := by
  refine PyProof.Rows.rshift_int (by omega) ?_
  rw [Int.fdiv_eq_ediv_of_nonneg x (Int.le_of_lt (Int.pow_pos (by decide)))]
  exact h
theorem mask1 (x : Int) : Builtin.bitAnd x 1 = x % 2 := kbt_mask x 1
theorem step_and1 (h : Q (.int (x % 2) s.toks) { s with toks := s.toks + 1 }) : wpAny (model prog w) A (binaryOp .BitAnd (.int x t) (.int 1 u)) Q E s := by
  refine PyProof.Rows.and_int ?_
  rw [mask1]
  exact h
end
end My
namespace My
open PySem PySem.W PySem.Calls PyProof.Rows
theorem bitXor_nat {x y : Int} (hx : 0 ≤ x) (hy : 0 ≤ y) : Builtin.bitXor x y = ((x.toNat ^^^ y.toNat : Nat) : Int) := by
  rw [PyProof.Rows.bitXor_and, PyProof.Rows.bitAnd_pp hx hy]; have := xor_and x.toNat y.toNat; omega
/-- exclusive or of whole numbers not below 0 -/
def zx (x y : Int) : Int := ((x.toNat ^^^ y.toNat : Nat) : Int)
section
variable {prog : Program} {w : World} {A : Around} {E : Value → Shared → Prop} {s : Shared} {x y : Int} {t u : Tok} {Q : Value → Shared → Prop}
theorem zx_nonneg (x y : Int) : 0 ≤ zx x y := Int.natCast_nonneg _
theorem step_xor2 (hx : 0 ≤ x) (hy : 0 ≤ y) (h : 0 ≤ zx x y → Q (.int (zx x y) s.toks) { s with toks := s.toks + 1 }) :
    wpAny (model prog w) A (binaryOp .BitXor (.int x t) (.int y u)) Q E s := by
  refine PyProof.Rows.xor_int ?_
  rw [bitXor_nat hx hy]
  exact h (zx_nonneg x y)
theorem step_shr1 (h : Q (.int (x / 2) s.toks) { s with toks := s.toks + 1 }) :
    wpAny (model prog w) A (binaryOp .RShift (.int x t) (.int 1 u)) Q E s := by
  refine step_shr (by decide) ?_
  exact h
end
end My
namespace My
open PySem PySem.W PySem.Calls PyProof.Rows
theorem low_and (k q y : Nat) (hy : y < 2 ^ k) : (q * 2 ^ k) &&& y = 0 := by
  apply Nat.eq_of_testBit_eq
  intro j
  rw [Nat.testBit_and, Nat.zero_testBit, Nat.testBit_mul_two_pow]
  by_cases hj : k ≤ j
  · rw [Nat.testBit_lt_two_pow (Nat.lt_of_lt_of_le hy (Nat.pow_le_pow_right (by decide) hj)), Bool.and_false]
  · simp [hj]
theorem bitOr_add {x y m : Int} (k : Nat) (hm : m = ((2 ^ k : Nat) : Int)) (hx : 0 ≤ x) (hd : x % m = 0) (hy : 0 ≤ y) (hy' : y < m) : Builtin.bitOr x y = x + y := by
  rw [PyProof.Rows.bitOr_and, PyProof.Rows.bitAnd_pp hx hy]
  have e1 : x = m * (x / m) := by have := Int.mul_ediv_add_emod x m; omega
  have hq : 0 ≤ x / m := Int.ediv_nonneg hx (by omega)
  have e2 : x.toNat = (x / m).toNat * 2 ^ k := by
    have : x = (((x / m).toNat * 2 ^ k : Nat) : Int) := by
      rw [Int.natCast_mul, ← hm, Int.toNat_of_nonneg hq, Int.mul_comm]
      exact e1
    omega
  rw [e2, low_and _ _ _ (by omega)]
  simp
section
variable {prog : Program} {w : World} {A : Around} {E : Value → Shared → Prop} {s : Shared} {x y : Int} {t u : Tok} {Q : Value → Shared → Prop} {xs : List Int} {i : Nat}
theorem step_shl24 (B : Row xs) (h : 0 ≤ xs.getD i 0 → xs.getD i 0 ≤ 255 → Q (.int (xs.getD i 0 * 16777216) s.toks) { s with toks := s.toks + 1 }) :
    wpAny (model prog w) A (binaryOp .LShift (.int (xs.getD i 0) t) (.int 24 u)) Q E s :=
  have hb := row_at B i
  PyProof.Rows.lshift_int_small (by decide) (by decide) (by omega) (h hb.1 hb.2)
theorem step_shl16 (B : Row xs) (h : 0 ≤ xs.getD i 0 → xs.getD i 0 ≤ 255 → Q (.int (xs.getD i 0 * 65536) s.toks) { s with toks := s.toks + 1 }) :
    wpAny (model prog w) A (binaryOp .LShift (.int (xs.getD i 0) t) (.int 16 u)) Q E s :=
  have hb := row_at B i
  PyProof.Rows.lshift_int_small (by decide) (by decide) (by omega) (h hb.1 hb.2)
theorem step_shl8 (B : Row xs) (h : 0 ≤ xs.getD i 0 → xs.getD i 0 ≤ 255 → Q (.int (xs.getD i 0 * 256) s.toks) { s with toks := s.toks + 1 }) :
    wpAny (model prog w) A (binaryOp .LShift (.int (xs.getD i 0) t) (.int 8 u)) Q E s :=
  have hb := row_at B i
  PyProof.Rows.lshift_int_small (by decide) (by decide) (by omega) (h hb.1 hb.2)
theorem step_or24 (hx : 0 ≤ x) (hd : x % 16777216 = 0) (hy : 0 ≤ y) (hy' : y < 16777216) (h : Q (.int (x + y) s.toks) { s with toks := s.toks + 1 }) :
    wpAny (model prog w) A (binaryOp .BitOr (.int x t) (.int y u)) Q E s :=
  PyProof.Rows.or_int (by rw [bitOr_add 24 rfl hx hd hy hy']; exact h)
theorem step_or16 (hx : 0 ≤ x) (hd : x % 65536 = 0) (hy : 0 ≤ y) (hy' : y < 65536) (h : Q (.int (x + y) s.toks) { s with toks := s.toks + 1 }) :
    wpAny (model prog w) A (binaryOp .BitOr (.int x t) (.int y u)) Q E s :=
  PyProof.Rows.or_int (by rw [bitOr_add 16 rfl hx hd hy hy']; exact h)
theorem step_num {k : Int} (B : Row xs) (h : ∀ v, IsNum xs k v → 0 ≤ v → Q (.int v s.toks) { s with toks := s.toks + 1 }) :
    wpAny (model prog w) A (binaryOp .BitOr (.int (xs.getD k.toNat 0 * 16777216 + xs.getD (k + 1).toNat 0 * 65536 + xs.getD (k + 2).toNat 0 * 256) t) (.int (xs.getD (k + 3).toNat 0) u)) Q E s := by
  have h0 := row_at B k.toNat
  have h1 := row_at B (k + 1).toNat
  have h2 := row_at B (k + 2).toNat
  have h3 := row_at B (k + 3).toNat
  refine PyProof.Rows.or_int ?_
  rw [bitOr_add 8 rfl (by omega) (by omega) h3.1 (by omega)]
  exact h _ ⟨rfl⟩ (num_nonneg B k)
end
end My
namespace My
theorem said : PySem.Challenge.rw_byterows_s13_next_frame.wellSaid = true := by decide +kernel
/-- one step -/
def sh (s : Int) : Int := ((Md04.step s.toNat : Nat) : Int)
theorem sh_nonneg (s : Int) : 0 ≤ sh s := Int.natCast_nonneg _
theorem sh_odd {s : Int} (h0 : 0 ≤ s) (h : s % 2 = 1) : zx (s / 2) 2197175160 = sh s := by
  unfold sh zx Md04.step
  rw [if_pos (by omega), show (s / 2).toNat = s.toNat / 2 by omega]
  rfl
theorem sh_even {s : Int} (h0 : 0 ≤ s) (h : ¬ s % 2 = 1) : s / 2 = sh s := by
  unfold sh Md04.step
  rw [if_neg (by omega)]
  omega
/-- eight steps -/
structure In (z₀ : Int) (pre : List Int) (s : Int) : Prop where
  eq : s = ((Md04.steps pre.length z₀.toNat : Nat) : Int)
theorem snoc_len (pre : List Int) (k : Int) : (pre ++ [k]).length = pre.length + 1 := by simp
theorem in_start {z : Int} (h : 0 ≤ z) : 0 ≤ z ∧ In z [] z := ⟨h, ⟨by show z = ((z.toNat : Nat) : Int); omega⟩⟩
theorem in_turn {z₀ s k : Int} {pre : List Int} (T : In z₀ pre s) : 0 ≤ sh s ∧ In z₀ (pre ++ [k]) (sh s) := by
  refine ⟨sh_nonneg _, ⟨?_⟩⟩
  rw [snoc_len, steps_succ]
  have e := T.eq
  generalize Md04.steps pre.length z₀.toNat = n at e ⊢
  subst e
  rfl
structure Mark (z : Int) : Prop where
  z0 : 0 ≤ z
theorem mark {s b : Int} (h : 0 ≤ zx s b) : Mark (zx s b) := ⟨h⟩
abbrev W {z : Int} (_ : Mark z) (pre : List Int) (s : Int) : Prop := In z pre s
theorem in_end {z s : Int} {n : Nat} (T : In z (rangeKs 0 n) s) (hn : n = 8) : s = ((Md04.steps 8 z.toNat : Nat) : Int) := by
  have e := T.eq
  rw [rangeKs_length, hn] at e
  exact e
end My
local macro_rules | `(tactic| walk_at "binaryOp FloorDiv int int") => `(tactic| (k_here; (with_reducible refine' My.step_div ?k1 ?k2 ?_); (case k1 => k_dflt omega); (case k2 => k_dflt omega)))
local macro_rules | `(tactic| walk_at "binaryOp Mod int int") => `(tactic| (k_here; (with_reducible refine' My.step_mod ?k1 ?_); (case k1 => k_dflt omega)))
local macro_rules | `(tactic| walk_at "binaryOp RShift int int") => `(tactic| (k_here; (with_reducible refine' My.step_shr ?k1 ?_); (case k1 => k_dflt omega)))
local macro_rules | `(tactic| walk_at "binaryOp BitAnd int int") => `(tactic| (k_here; (with_reducible show wpAny _ _ (binaryOp Operator.BitAnd (Value.int _ _) (Value.int 1 _)) _ _ _); k_dflt (refine My.step_and1 ?_)))
local macro_rules | `(tactic| walk_at "binaryOp BitXor int int") => `(tactic| (k_here; (with_reducible refine' My.step_xor2 ?k1 ?k2 ?_); (case k1 => k_dflt omega); (case k2 => k_dflt omega); intro _))
local macro_rules | `(tactic| walk_at "binaryOp RShift int int") => `(tactic| (k_here; (with_reducible show wpAny _ _ (binaryOp Operator.RShift (Value.int _ _) (Value.int 1 _)) _ _ _); k_dflt (refine My.step_shr1 ?_)))

local macro_rules | `(tactic| walk_at "binaryOp LShift int int") => `(tactic| (k_here; (with_reducible show wpAny _ _ (binaryOp Operator.LShift (Value.int _ _) (Value.int 24 _)) _ _ _); k_dflt (refine My.step_shl24 (by assumption) ?_); intro _ _))
local macro_rules | `(tactic| walk_at "binaryOp LShift int int") => `(tactic| (k_here; (with_reducible show wpAny _ _ (binaryOp Operator.LShift (Value.int _ _) (Value.int 16 _)) _ _ _); k_dflt (refine My.step_shl16 (by assumption) ?_); intro _ _))
local macro_rules | `(tactic| walk_at "binaryOp LShift int int") => `(tactic| (k_here; (with_reducible show wpAny _ _ (binaryOp Operator.LShift (Value.int _ _) (Value.int 8 _)) _ _ _); k_dflt (refine My.step_shl8 (by assumption) ?_); intro _ _))
local macro_rules | `(tactic| walk_at "binaryOp BitOr int int") => `(tactic| (k_here; (with_reducible refine' My.step_or24 ?k1 ?k2 ?k3 ?k4 ?_); (case k1 => k_dflt omega); (case k2 => k_dflt omega); (case k3 => k_dflt omega); (case k4 => k_dflt omega)))
local macro_rules | `(tactic| walk_at "binaryOp BitOr int int") => `(tactic| (k_here; (with_reducible refine' My.step_or16 ?k1 ?k2 ?k3 ?k4 ?_); (case k1 => k_dflt omega); (case k2 => k_dflt omega); (case k3 => k_dflt omega); (case k4 => k_dflt omega)))
local macro_rules | `(tactic| walk_at "binaryOp BitOr int int") => `(tactic| (k_here; (with_reducible refine' My.step_num ?kb ?_); (case kb => assumption); intro _ _ _))
namespace My
structure Bounds (xs : List Int) : Prop where
  row : Row xs
  len : xs.length ≤ 4096
theorem bounds {xs : List Int} (h : PySem.Challenge.rw_byterows_s13_next_frame.pre [ofPy (PyData.list (xs.map PyData.int))] = true) : Bounds xs := by
  obtain ⟨a, w, q, e⟩ := os_pre said h
  obtain ⟨ys, u⟩ := a
  have e2 := os_j_ints (List.cons.inj e).1
  subst e2
  obtain ⟨b2, b3, _⟩ := w_ints w
  exact ⟨b3, b2.2⟩
theorem Bounds.item {k : Int} {xs : List Int} (B : Bounds xs) (h : k ∈ xs) : 0 ≤ k ∧ k ≤ 255 := B.row k h
/-- two numbers of a frame -/
structure Mark2 (a b : Int) : Prop where
theorem mark2 {h₀ h : Heap} {L : Addr} {m : Str → Option Value} {a b : Int} {t u : Tok} (_ : Fr h₀ L h m) (_ : m (Str.ofString "a") = some (.int a t)) (_ : m (Str.ofString "b") = some (.int b u)) : Mark2 a b := ⟨⟩
/-- within a product -/
structure Mul (a b₀ : Int) (pre : List Int) (p b : Int) : Prop where
  a0 : 0 ≤ a
  pe : p = ((mulTo a.toNat b₀.toNat pre.length : Nat) : Int)
  be : b = ((Md04.steps pre.length b₀.toNat : Nat) : Int)
theorem mul_start {a b₀ : Int} (ha : 0 ≤ a) (hb : 0 ≤ b₀) : (0 : Int) ≤ 0 ∧ 0 ≤ b₀ ∧ Mul a b₀ [] 0 b₀ :=
  ⟨Int.le_refl 0, hb, ⟨ha, rfl, by show b₀ = ((b₀.toNat : Nat) : Int); omega⟩⟩
theorem mul_one {a b₀ p b k : Int} {pre : List Int} (T : Mul a b₀ pre p b) (h : a / 2 ^ k.toNat % 2 = 1) (hk : k = 31 - (pre.length : Int)) (hl : pre.length < 32) :
    0 ≤ zx p b ∧ 0 ≤ sh b ∧ Mul a b₀ (pre ++ [k]) (zx p b) (sh b) := by
  refine ⟨zx_nonneg _ _, sh_nonneg _, ⟨T.a0, ?_, ?_⟩⟩
  · have hb := (bit_of T.a0 k.toNat).mp h
    rw [show k.toNat = 31 - pre.length by omega] at hb
    rw [snoc_len]
    unfold mulTo
    rw [if_pos hb, T.pe, T.be]
    rfl
  · rw [snoc_len, steps_succ, T.be]
    rfl
theorem mul_none {a b₀ p b k : Int} {pre : List Int} (T : Mul a b₀ pre p b) (h : ¬ a / 2 ^ k.toNat % 2 = 1) (hk : k = 31 - (pre.length : Int)) (hl : pre.length < 32) :
    0 ≤ p ∧ 0 ≤ sh b ∧ Mul a b₀ (pre ++ [k]) p (sh b) := by
  refine ⟨by have := T.pe; omega, sh_nonneg _, ⟨T.a0, ?_, ?_⟩⟩
  · have hb : ¬ a.toNat.testBit k.toNat = true := fun e => h ((bit_of T.a0 k.toNat).mpr e)
    rw [show k.toNat = 31 - pre.length by omega] at hb
    rw [snoc_len]
    unfold mulTo
    rw [if_neg hb, T.pe]
  · rw [snoc_len, steps_succ, T.be]
    rfl
theorem mul_end {a b₀ p b : Int} {n : Nat} (T : Mul a b₀ (downKs 31 n) p b) (hn : n = 32) : p = ((mul a.toNat b₀.toNat : Nat) : Int) := by
  have e := T.pe
  rw [downKs_length, hn] at e
  exact e
abbrev W2 {a b₀ : Int} (_ : Mark2 a b₀) (pre : List Int) (p b : Int) : Prop := Mul a b₀ pre p b
/-- one number of a frame -/
structure Mark1 (a : Int) : Prop where
theorem mark1 {h₀ h : Heap} {L : Addr} {m : Str → Option Value} {a : Int} {t : Tok} (_ : Fr h₀ L h m) (_ : m (Str.ofString "state") = some (.int a t)) : Mark1 a := ⟨⟩
/-- the states along a row -/
structure Along (c : Int) (pre : List Int) (s : Int) (st : List Int) : Prop where
  se : s = ((Md04.feed c.toNat (by_ pre) : Nat) : Int)
  le : st.length = pre.length + 1
  te : ∀ i : Nat, i ≤ pre.length → st.getD i 0 = ((Md04.feed c.toNat (by_ (pre.take i)) : Nat) : Int)
abbrev W1 {c : Int} (_ : Mark1 c) (pre : List Int) (s : Int) (st : List Int) : Prop := Along c pre s st
theorem a_start {c : Int} (h : 0 ≤ c) : 0 ≤ c ∧ [c].length = ([] : List Int).length + 1 ∧ Along c [] c [c] := by
  refine ⟨h, rfl, ⟨?_, rfl, fun i hi => ?_⟩⟩
  · show c = ((c.toNat : Nat) : Int)
    omega
  · have : i = 0 := by simpa using hi
    subst this
    show c = ((c.toNat : Nat) : Int)
    omega
theorem a_turn {c s k s' : Int} {n : Nat} {pre st : List Int} (T : Along c pre s st) (I : In (zx s k) (rangeKs 0 n) s') (hn : n = 8) (h0 : 0 ≤ k) (h1 : k ≤ 255) :
    0 ≤ s' ∧ (st ++ [s']).length = (pre ++ [k]).length + 1 ∧ Along c (pre ++ [k]) s' (st ++ [s']) := by
  have e1 := in_end I hn
  have hs : s' = ((Md04.feed c.toNat (by_ (pre ++ [k])) : Nat) : Int) := by
    have e := T.se
    rw [by_append, feed_append, e1]
    generalize Md04.feed c.toNat (by_ pre) = n at e ⊢
    subst e
    show ((Md04.steps 8 (n ^^^ k.toNat) : Nat) : Int) = ((Md04.steps 8 (n ^^^ (u8 k).toNat) : Nat) : Int)
    rw [u8_toNat h0 h1]
  have hl : (st ++ [s']).length = (pre ++ [k]).length + 1 := by
    simp only [List.length_append, List.length_cons, List.length_nil, T.le]
  refine ⟨by omega, hl, ⟨hs, hl, fun i hi => ?_⟩⟩
  rw [List.length_append, List.length_cons, List.length_nil] at hi
  by_cases hi' : i ≤ pre.length
  · have e2 : (st ++ [s']).getD i 0 = st.getD i 0 := by
      rw [List.getD_eq_getElem?_getD, List.getD_eq_getElem?_getD, List.getElem?_append_left (by have := T.le; omega)]
    rw [e2, T.te i hi', List.take_append_of_le_length hi']
  · have hi2 : i = pre.length + 1 := by omega
    subst hi2
    have e2 : (st ++ [s']).getD (pre.length + 1) 0 = s' := by
      rw [List.getD_eq_getElem?_getD, List.getElem?_append_right (by have := T.le; omega), T.le, Nat.sub_self]
      rfl
    rw [e2, List.take_of_length_le (by simp), ← hs]
theorem zero_item {k : Int} {n : Nat} (h : k ∈ (List.replicate n [(0 : Int)]).flatten) : 0 ≤ k ∧ k ≤ 255 := by
  obtain ⟨l, hl, hk⟩ := List.mem_flatten.mp h
  rw [List.eq_of_mem_replicate hl] at hk
  have : k = 0 := by simpa using hk
  omega
theorem Along.item {c s k : Int} {pre st : List Int} (T : Along c pre s st) (h : k ∈ st) : 0 ≤ k := by
  obtain ⟨i, hi, e⟩ := List.mem_iff_getElem.mp h
  have h2 := T.te i (by have := T.le; omega)
  have e2 : st.getD i 0 = st[i] := by simp [List.getD, hi]
  rw [e2, e] at h2
  omega
theorem Along.at {c s : Int} {pre st : List Int} (T : Along c pre s st) (i : Nat) : 0 ≤ st.getD i 0 := by
  by_cases hi : i ≤ pre.length
  · rw [T.te i hi]; omega
  · have hl := T.le
    have e : st.getD i 0 = 0 := by simp [List.getD, List.getElem?_eq_none (show st.length ≤ i by omega)]
    omega
/-- the sums of the beginnings -/
abbrev turnedAll (st : List Int) : List Int := st.map fun (k' : Int) => Builtin.bitXor k' 4294967295
theorem turned_at {s : Int} {xs st : List Int} (T : Along 4294967295 xs s st) {i : Nat} (hi : i ≤ xs.length) : (turnedAll st).getD i 0 = ((Md04.sum 0 ((by_ xs).take i) : Nat) : Int) := by
  have hl := T.le
  have e : (turnedAll st).getD i 0 = Builtin.bitXor (st.getD i 0) 4294967295 := by
    unfold turnedAll
    rw [List.getD_eq_getElem?_getD, List.getD_eq_getElem?_getD, List.getElem?_map, List.getElem?_eq_getElem (show i < st.length by omega)]
    rfl
  rw [e, T.te i hi, bitXor_nat (by omega) (by decide), Int.toNat_natCast, by_take]
  rfl
theorem Along.xat {s : Int} {xs st : List Int} (T : Along 4294967295 xs s st) (i : Nat) : 0 ≤ (turnedAll st).getD i 0 := by
  by_cases hi : i ≤ xs.length
  · rw [turned_at T hi]; omega
  · have hl := T.le
    have e : (turnedAll st).getD i 0 = 0 := by
      have : (turnedAll st).length ≤ i := by rw [List.length_map]; omega
      simp [List.getD, List.getElem?_eq_none this]
    omega
theorem zeros_at {s : Int} {n i : Nat} {st : List Int} (T : Along 2147483648 (List.replicate (n : Int).toNat [(0 : Int)]).flatten s st) (hi : i ≤ n) : st.getD i 0 = ((Md04.steps (8 * i) (2 ^ 31) : Nat) : Int) := by
  have hz : ∀ z ∈ (List.replicate (n : Int).toNat [(0 : Int)]).flatten, z = 0 := fun z hz => by
    obtain ⟨l, hl, hk⟩ := List.mem_flatten.mp hz
    rw [List.eq_of_mem_replicate hl] at hk
    simpa using hk
  have hl : (List.replicate (n : Int).toNat [(0 : Int)]).flatten.length = n := by simp
  rw [T.te i (by omega), feed_zeros _ _ (fun z h => hz z (List.mem_of_mem_take h)), List.length_take, hl, Nat.min_eq_left hi]
  rfl
theorem own_is {xs st fs : List Int} {s s' p q k v : Int} {m : Nat} (T1 : Along 4294967295 xs s st) (T2 : Along 2147483648 (List.replicate (xs.length : Int).toNat [(0 : Int)]).flatten s' fs)
    (M : Mul ((turnedAll st).getD k.toNat 0) (fs.getD (4 + v).toNat 0) (downKs 31 m) p q) (hm : m = 32) (h0 : 0 ≤ k) (hv : 0 ≤ v) (hf : k + 4 + v + 4 ≤ xs.length) :
    Builtin.bitXor ((turnedAll st).getD (k + 4 + v).toNat 0) p = ((Md04.sum 0 (((by_ xs).drop k.toNat).take (4 + v.toNat)) : Nat) : Int) := by
  have e := mul_end M hm
  rw [turned_at T1 (by omega), zeros_at T2 (by omega), Int.toNat_natCast, Int.toNat_natCast] at e
  have hlt : Md04.sum 0 ((by_ xs).take k.toNat) < 2 ^ 32 := sum_lt (by decide) _
  rw [mul_comm hlt (steps_lt _ (by decide)), mul_power hlt] at e
  rw [turned_at T1 (by omega), e, bitXor_nat (by omega) (by omega), Int.toNat_natCast, Int.toNat_natCast]
  rw [sum_part _ _ _ (by rw [by_length]; omega), show (k + 4 + v).toNat = k.toNat + (4 + v.toNat) by omega, show (4 + v).toNat = 4 + v.toNat by omega]
/-- no frame at the places so far -/
structure Told (xs pre : List Int) : Prop where
  no : ∀ i : Nat, i < pre.length → Md04.frameAt ((by_ xs).drop i) = none
abbrev V {xs : List Int} (_ : Bounds xs) (pre : List Int) : Prop := Told xs pre
theorem told_snoc {xs pre : List Int} {k : Int} (T : Told xs pre) (hk : k = 0 + (pre.length : Int)) (h : Md04.frameAt ((by_ xs).drop k.toNat) = none) : Told xs (pre ++ [k]) := by
  refine ⟨fun i hi => ?_⟩
  rw [List.length_append, List.length_cons, List.length_nil] at hi
  by_cases hi' : i < pre.length
  · exact T.no i hi'
  · rw [show i = k.toNat by omega]
    exact h
theorem l_long {xs pre : List Int} {k : Int} (T : Told xs pre) (hk : k = 0 + (pre.length : Int)) (hr : Row xs) {v : Int} (I : IsNum xs k v) (h : ¬ k + 4 + v + 4 ≤ xs.length) (hl : k + 8 ≤ xs.length) : Told xs (pre ++ [k]) :=
  told_snoc T hk (by rw [I.eq] at h; rw [frame_eq hr (by omega) hl, if_neg h])
theorem l_wrong {xs pre st fs : List Int} {k s s' p q : Int} {m : Nat} (T : Told xs pre) (hk : k = 0 + (pre.length : Int)) (hr : Row xs) (T1 : Along 4294967295 xs s st)
    (T2 : Along 2147483648 (List.replicate (xs.length : Int).toNat [(0 : Int)]).flatten s' fs) {v v' : Int} (I : IsNum xs k v) (M : Mul ((turnedAll st).getD k.toNat 0) (fs.getD (4 + v).toNat 0) (downKs 31 m) p q)
    (I' : IsNum xs (k + 4 + v) v') (he : ¬ Builtin.bitXor ((turnedAll st).getD (k + 4 + v).toNat 0) p = v') (hf : k + 4 + v + 4 ≤ xs.length) (hm : m = 32) (hl : k + 8 ≤ xs.length) : Told xs (pre ++ [k]) := by
  refine told_snoc T hk ?_
  have iv := I.eq
  have iv' := I'.eq
  subst iv
  subst iv'
  rw [own_is T1 T2 M hm (by omega) (num_nonneg hr k) hf] at he
  rw [frame_eq hr (by omega) hl, if_pos hf, if_neg he]
theorem due (xs : List Int) : PyMd04.next_frame xs = match Md04.next (by_ xs) with
    | none => [(xs.length : Int), 0]
    | some x => [(x.1 : Int), (x.2 : Int)] := by
  show [(match Md04.next (by_ xs) with
    | none => Md04.num (by_ xs).length
    | some x => ⟨(x.1 : Int), [], x.2⟩ : Md04.Ans).code, ((match Md04.next (by_ xs) with
    | none => Md04.num (by_ xs).length
    | some x => ⟨(x.1 : Int), [], x.2⟩ : Md04.Ans).len : Int)] = _
  cases Md04.next (by_ xs) with
  | none => rw [by_length]; rfl
  | some x => rfl
theorem l_found {xs pre st fs : List Int} {k s s' p q : Int} {m : Nat} (T : Told xs pre) (hk : k = 0 + (pre.length : Int)) (hr : Row xs) (T1 : Along 4294967295 xs s st)
    (T2 : Along 2147483648 (List.replicate (xs.length : Int).toNat [(0 : Int)]).flatten s' fs) {v v' : Int} (I : IsNum xs k v) (M : Mul ((turnedAll st).getD k.toNat 0) (fs.getD (4 + v).toNat 0) (downKs 31 m) p q)
    (I' : IsNum xs (k + 4 + v) v') (he : Builtin.bitXor ((turnedAll st).getD (k + 4 + v).toNat 0) p = v') (hf : k + 4 + v + 4 ≤ xs.length) (hm : m = 32) (hl : k + 8 ≤ xs.length) : PyMd04.next_frame xs = [k, v] := by
  have iv := I.eq
  have iv' := I'.eq
  subst iv
  subst iv'
  rw [own_is T1 T2 M hm (by omega) (num_nonneg hr k) hf] at he
  have hn := num_nonneg hr k
  have e : Md04.frameAt ((by_ xs).drop k.toNat) = some (num xs k).toNat := by rw [frame_eq hr (by omega) hl, if_pos hf, if_pos he]
  rw [due, next_at (b := by_ xs) (k := k.toNat) (by rw [by_length]; omega) e (fun i hi => T.no i (by omega))]
  show [((k.toNat : Nat) : Int), (((num xs k).toNat : Nat) : Int)] = _
  rw [Int.toNat_of_nonneg (by omega), Int.toNat_of_nonneg hn]
theorem l_none {xs : List Int} {n : Nat} (T : Told xs (rangeKs 0 n)) (hn : (xs.length : Int) ≤ n + 7) : PyMd04.next_frame xs = [(xs.length : Int), 0] := by
  rw [due, next_none (b := by_ xs) (fun i hi => ?_)]
  by_cases h : i < n
  · exact T.no i (by rw [rangeKs_length]; exact h)
  · exact frame_short (by omega)
theorem l_none' {xs : List Int} (T : Told xs (rangeKs 0 ((xs.length : Int) - 7 - 0).toNat)) : PyMd04.next_frame xs = [(xs.length : Int), 0] := l_none T (by omega)
theorem l_start {xs : List Int} : Told xs [] := ⟨fun i hi => absurd hi (Nat.not_lt_zero _)⟩
section
variable {prog : Program} {w : World} {A : Around} {E : Value → Shared → Prop} {s : Shared} {env : Env} {h₀ : Heap} {x : Str} {body : List Stmt} {Q : Flow → Shared → Prop}
theorem look_range {r : Addr} {b : Int} {t1 t2 t3 : Tok} {n : Nat} {news : List (Addr × Obj)} {m₀ : Str → Option Value} (stored : List Str) (P : List Int → Prop)
    (hh : A.handled = none) (hr : IsRange s.heap r 0 b 1 t1 t2 t3) (hs : Builtin.Range.small 0 b 1 = true)
    (hn : Builtin.Range.rangeSize 0 b 1 = (n : Int)) (F : Fr h₀ env.locals s.heap m₀)
    (N : News h₀ env.locals s.heap news) (hp : P [])
    (turn : ∀ (pre : List Int) (k : Int) t (u : Str → Option Value) h tk own,
      k = 0 + (pre.length : Int) → pre.length < n → OwnOff own (news.map (·.1)) → P pre →
      Fr h₀ env.locals h (fun y => if y = x then some (.int k t) else if stored.contains y then u y else m₀ y) →
      News h₀ env.locals h (news ++ own) →
      wpAny (model prog w) A (execs body env)
        (InvPostN h₀ env.locals (KstS (σ := Unit) (fun _ => news) (fun _ => []) (fun _ => True) x stored m₀ (fun pre _ => P pre) (pre ++ [k])) own (news.map (·.1)) { s with heap := h, toks := tk } Q) E
        { s with heap := h, toks := tk })
    (done : ∀ (u : Str → Option Value) h tk, P (rangeKs 0 n) →
      Fr h₀ env.locals h (fun y => if y = x then u y else if stored.contains y then u y else m₀ y) →
      News h₀ env.locals h news → Q .next { s with heap := h, toks := tk }) :
    wpAny (model prog w) A (pyIter (.ref r)) (fun it s₂ => LoopAtV prog w A h₀ env x body Q E it s₂) E s :=
  kst_range (σ := Unit) (fun _ => news) (fun _ => []) (fun _ => True) stored (fun pre _ => P pre) () hh hr hs hn F N trivial (List.forall_mem_nil _) hp
    (fun _ pre k t u h tk own e l o _ p f nw => turn pre k t u h tk own e l o p f nw) (fun _ u h tk _ p f nw => done u h tk p f nw)
end
end My
set_option maxRecDepth 100000 in
set_option maxHeartbeats 8000000 in
theorem PySem.Challenge.cw_byterows_s13_next_frame_holds : PySem.Challenge.rw_byterows_s13_next_frame.Holds := by
  k_with "InvEndN" => ((rename News _ _ _ _ => nE'); (try simp only [List.push_toArray] at nE'); k_dflt (refine kst_end ⟨_, _, _, _, _⟩ (by assumption) nE' (by kst_inAny) (by first | (intro p hp; kst_mem) | kst_anyIn) (by rfl) (by kst_facts) (by kst_all) (by kst_same) (by kst_p)))
  k_with "InvEndN" => ((rename News _ _ _ _ => nE'); (try simp only [List.push_toArray] at nE'); k_dflt (refine kst_end ⟨_, _, _, _⟩ (by assumption) nE' (by kst_inAny) (by first | (intro p hp; kst_mem) | kst_anyIn) (by rfl) (by kst_facts) (by kst_all) (by kst_same) (by kst_p)))
  k_with "InvEndN" => ((rename News _ _ _ _ => nE'); (try simp only [List.push_toArray] at nE'); k_dflt (refine kst_end ⟨_, _⟩ (by assumption) nE' (by kst_inAny) (by first | (intro p hp; kst_mem) | kst_anyIn) (by rfl) (by kst_facts) (by kst_all) (by kst_same) (by kst_p)))
  k_with "InvEndN" => ((rename News _ _ _ _ => nE'); (try simp only [List.push_toArray] at nE'); k_dflt (refine kst_end () (by assumption) nE' (by kst_inAny) (by first | (intro p hp; kst_mem) | kst_anyIn) (by rfl) (by kst_facts) (by kst_all) (by kst_same) (by kst_p)))
  k_with "call ref" => k_call_by "shifted" My.sh (fun (s : Int) => 0 ≤ s)
  k_with "tree" => first
    | exact My.sh_odd (by assumption) (by assumption)
    | exact My.sh_even (by assumption) (by assumption)
  k_with "state" => first
    | exact My.in_turn (by assumption)
    | exact My.in_start (by assumption)
    | exact My.a_start (by decide)
    | exact My.mul_start (My.Along.xat (by assumption) _) (My.Along.at (by assumption) _)
    | exact My.mul_one (by assumption) (by assumption) (by omega) (by omega)
    | exact My.mul_none (by assumption) (by assumption) (by omega) (by omega)
    | exact My.l_long (by assumption) (by assumption) (by assumption) (by assumption) (by assumption) (by omega)
    | exact My.l_wrong (by assumption) (by assumption) (by assumption) (by assumption) (by assumption) (by assumption) (by assumption) (by assumption) (by assumption) (by assumption) (by omega) (by omega)
    | exact My.a_turn (by assumption) (by assumption) (by omega) (by assumption) (by assumption)
  k_with "exec Assign cons ListComp" => (k_here; k_dflt (refine LCg.Assign_ListComp_U (F₀ := by k_asm) (by rfl) (by with_unfolding_all rfl) (by with_unfolding_all rfl) (by decide) (by rfl) (by decide) (by rfl) (by rfl) (by rfl) ?_))
  k_with "pyIter ref" => (k_of "byte" => ((have hb := My.bounds (by assumption)); (rename Fr _ _ _ _ => hFr); (have hm := My.mark1 hFr (by with_unfolding_all rfl)); k_state (fun pre s st => 0 ≤ s ∧ st.length = pre.length + 1 ∧ My.W1 hm pre s st) "state" "states"; (all_goals (try ((have hx := (by first | exact hb.item kMem | exact My.zero_item kMem)); have hx0 := hx.1; have hx1 := hx.2)))))
  k_with "pyIter ref" => (k_of "step" => ((rename (0 ≤ My.zx _ _) => hpz); (have hm := My.mark hpz); k_state_short (fun pre s => 0 ≤ s ∧ My.W hm pre s) "state"))
  k_with "pyIter ref" => (k_of "k" => ((have hb := My.bounds (by assumption)); (have hba := hb.len); (rename Fr _ _ _ _ => hFr); (have hm := My.mark2 hFr (by with_unfolding_all rfl) (by with_unfolding_all rfl)); k_state (fun pre p b => 0 ≤ p ∧ 0 ≤ b ∧ My.W2 hm pre p b) "product" "b"))
  k_with "pyIter ref" => (k_of "k" => ((with_reducible show wpAny _ _ (pyIter (Value.ref _)) (fun it s₂ => LoopAtV _ _ _ _ _ _ _ _ _ it s₂) _ _); k_here; (have hb := My.bounds (by assumption)); (have hlen := hb.len); (have hrow := hb.row); (rename Fr _ _ _ _ => lF'); (rename News _ _ _ _ => lN'); (rename IsRange _ _ _ _ _ _ _ _ => rgX); (with_unfolding_all refine' My.look_range [Str.ofString "length", Str.ofString "behind", Str.ofString "own"] (fun pre => My.V hb pre) (by rfl) rgX (small_one (by omega) (by omega) (by omega) (by omega)) (rangeSize_nat _ _) lF' lN' My.l_start (fun kPre kN kT kU kH kTk kOwn kEq kLt kOff kInv kFr kNews => ?_) (fun kU kH kTk kInv kFr kNews => ?_)); (all_goals (have kMark := kstMark; (try simp only [List.nil_append, List.cons_append] at kNews); (try simp only [List.map_cons, List.map_nil] at kOff); clear lF' lN'; (try (have kB := len_ints_list (by lay_of))); (try k_fold)))))
  w_on; k_headS; (case hw => exact ⟨[.list []], by decide +kernel, by decide +kernel⟩)
  w_strict k_goS
  all_goals
    have hbZ := My.bounds (by assumption)
    have hrZ := hbZ.row
    os_open My.said with a w q e
    obtain ⟨ys, u⟩ := a
    have e2 := os_j_ints (List.cons.inj e).1
    subst e2
    refine os_list (ys := PyMd04.next_frame _) ?_
  · rw [My.l_found (by assumption) (by assumption) hrZ (by assumption) (by assumption) (by assumption) (by assumption) (by assumption) (by assumption) (by assumption) (by omega) (by omega)]; rfl
  · rw [My.l_none' (by assumption)]; rfl
#print axioms PySem.Challenge.cw_byterows_s13_next_frame_holds
