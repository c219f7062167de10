import PyProof.Rows.All
import KE.OsGo
import KE.OsArgs
import KE.BitLaws
import PySem.Challenge.RW_byterows_s12_frame
set_option Elab.async false
namespace My
/-- A whole number as a byte. -/
abbrev u8 (z : Int) : UInt8 := UInt8.ofNat z.toNat
theorem u8_toNat {z : Int} (h0 : 0 ≤ z) (h1 : z ≤ 255) : (u8 z).toNat = z.toNat := by
  show (UInt8.ofNat z.toNat).toNat = z.toNat
  rw [UInt8.toNat_ofNat']
  omega
theorem u8_inj {a b : Int} (ha : 0 ≤ a ∧ a ≤ 255) (hb : 0 ≤ b ∧ b ≤ 255) (e : u8 a = u8 b) : a = b := by
  have := congrArg UInt8.toNat e
  rw [u8_toNat ha.1 ha.2, u8_toNat hb.1 hb.2] at this
  omega
theorem u8_lt {a b : Int} (ha : 0 ≤ a ∧ a ≤ 255) (hb : 0 ≤ b ∧ b ≤ 255) : u8 a < u8 b ↔ a < b := by
  rw [UInt8.lt_iff_toNat_lt, u8_toNat ha.1 ha.2, u8_toNat hb.1 hb.2]
  omega
/-- bytes -/
abbrev Row (xs : List Int) : Prop := ∀ x ∈ xs, (0 : Int) ≤ x ∧ x ≤ 255
theorem Row.tail {x : Int} {xs : List Int} (h : Row (x :: xs)) : Row xs := fun y hy => h y (List.mem_cons_of_mem _ hy)
theorem Row.head {x : Int} {xs : List Int} (h : Row (x :: xs)) : (0 : Int) ≤ x ∧ x ≤ 255 := h x (List.mem_cons_self ..)
theorem Row.drop {xs : List Int} (h : Row xs) (k : Nat) : Row (xs.drop k) := fun y hy => h y (List.mem_of_mem_drop hy)
theorem Row.take {xs : List Int} (h : Row xs) (k : Nat) : Row (xs.take k) := fun y hy => h y (List.mem_of_mem_take hy)
abbrev by_ := Md04Neutral.by_
theorem by_length (xs : List Int) : (by_ xs).length = xs.length := List.length_map ..
theorem by_append (xs ys : List Int) : by_ (xs ++ ys) = by_ xs ++ by_ ys := List.map_append ..
theorem by_drop (xs : List Int) (k : Nat) : by_ (xs.drop k) = (by_ xs).drop k := List.map_drop ..
theorem by_take (xs : List Int) (k : Nat) : by_ (xs.take k) = (by_ xs).take k := List.map_take ..
theorem by_inj : ∀ {a b : List Int}, Row a → Row b → by_ a = by_ b → a = b
  | [], [], _, _, _ => rfl
  | [], _ :: _, _, _, e => by cases e
  | _ :: _, [], _, _, e => by cases e
  | x :: a, y :: b, ha, hb, e => by
    have e' := List.cons.inj e
    rw [u8_inj ha.head hb.head e'.1, by_inj ha.tail hb.tail e'.2]
/-- back again -/
theorem by_back : ∀ {xs : List Int}, Row xs → (by_ xs).map (fun (b : UInt8) => (b.toNat : Int)) = xs
  | [], _ => rfl
  | x :: r, h => by
    show ((u8 x).toNat : Int) :: _ = x :: r
    have e := by_back h.tail
    unfold by_ Md04Neutral.by_ at e
    rw [e, u8_toNat h.head.1 h.head.2]
    congr 1
    have := h.head
    omega
/-! ### exclusive or -/
theorem xor_and (x y : Nat) : (x ^^^ y) + 2 * (x &&& y) = x + y := by
  induction x using Nat.strongRecOn generalizing y with
  | _ x ih =>
    by_cases h0 : x = 0
    · subst h0; simp
    · have h := ih (x / 2) (by omega) (y / 2)
      rw [← Nat.xor_div_two, ← Nat.and_div_two] at h
      have h1 := Nat.xor_mod_two_eq_one (a := x) (b := y)
      have h4 : (x ^^^ y) % 2 < 2 := Nat.mod_lt _ (by decide)
      have h2 := Nat.and_mod_two_eq_one (a := x) (b := y)
      have h3 : (x &&& y) % 2 < 2 := Nat.mod_lt _ (by decide)
      generalize (x ^^^ y) = u at *
      generalize (x &&& y) = v at *
      by_cases hx : x % 2 = 1 <;> by_cases hy : y % 2 = 1
      · have := h2.mpr ⟨hx, hy⟩
        have : ¬ u % 2 = 1 := by rw [h1]; simp [hx, hy]
        omega
      · have : ¬ v % 2 = 1 := fun e => hy (h2.mp e).2
        have : u % 2 = 1 := by rw [h1]; simp [hx, hy]
        omega
      · have : ¬ v % 2 = 1 := fun e => hx (h2.mp e).1
        have : u % 2 = 1 := by rw [h1]; simp [hx, hy]
        omega
      · have : ¬ v % 2 = 1 := fun e => hx (h2.mp e).1
        have : ¬ u % 2 = 1 := by rw [h1]; simp [hx, hy]
        omega
end My
namespace My
section
open Md04
/-! ### steps are linear -/
theorem step_xor (a b : Nat) : step (a ^^^ b) = step a ^^^ step b := by
  unfold step
  rw [Nat.xor_div_two]
  have h := Nat.xor_mod_two_eq_one (a := a) (b := b)
  by_cases ha : a % 2 = 1 <;> by_cases hb : b % 2 = 1
  · have : ¬ (a ^^^ b) % 2 = 1 := by rw [h]; simp [ha, hb]
    rw [if_neg this, if_pos ha, if_pos hb]
    rw [show (a / 2 ^^^ POLY) ^^^ (b / 2 ^^^ POLY) = (a / 2 ^^^ b / 2) ^^^ (POLY ^^^ POLY) by ac_rfl, Nat.xor_self, Nat.xor_zero]
  · have : (a ^^^ b) % 2 = 1 := by rw [h]; simp [ha, hb]
    rw [if_pos this, if_pos ha, if_neg hb]; ac_rfl
  · have : (a ^^^ b) % 2 = 1 := by rw [h]; simp [ha, hb]
    rw [if_pos this, if_neg ha, if_pos hb]; ac_rfl
  · have : ¬ (a ^^^ b) % 2 = 1 := by rw [h]; simp [ha, hb]
    rw [if_neg this, if_neg ha, if_neg hb]
theorem step_lt {c : Nat} (h : c < 2 ^ 32) : step c < 2 ^ 32 := by
  unfold step
  split
  · exact Nat.xor_lt_two_pow (by omega) (by decide)
  · omega
theorem steps_add : ∀ (j k c : Nat), steps (j + k) c = steps k (steps j c)
  | 0, k, c => by rw [Nat.zero_add]; rfl
  | j + 1, k, c => by
    rw [show j + 1 + k = (j + k) + 1 by omega]
    exact steps_add j k (step c)
theorem steps_succ (k c : Nat) : steps (k + 1) c = step (steps k c) := by
  rw [steps_add k 1 c]; rfl
theorem steps_xor : ∀ (k a b : Nat), steps k (a ^^^ b) = steps k a ^^^ steps k b
  | 0, _, _ => rfl
  | k + 1, a, b => by
    show steps k (step (a ^^^ b)) = steps k (step a) ^^^ steps k (step b)
    rw [step_xor, steps_xor k]
theorem steps_lt : ∀ (k : Nat) {c : Nat}, c < 2 ^ 32 → steps k c < 2 ^ 32
  | 0, _, h => h
  | k + 1, _, h => steps_lt k (step_lt h)
theorem steps_zero (k : Nat) : steps k 0 = 0 := by
  have h := steps_xor k 0 0
  rw [Nat.xor_self, Nat.xor_self] at h
  exact h
/-! ### a list of what a linear map makes of each bit -/
theorem mod_succ (c n : Nat) : c % 2 ^ (n + 1) = if c.testBit n = true then (c % 2 ^ n) ^^^ 2 ^ n else c % 2 ^ n := by
  apply Nat.eq_of_testBit_eq
  intro j
  by_cases hc : c.testBit n = true
  · rw [if_pos hc, Nat.testBit_xor, Nat.testBit_mod_two_pow, Nat.testBit_mod_two_pow, Nat.testBit_two_pow]
    by_cases hj : j = n
    · subst hj; simp [hc]
    · have h1 : decide (j < n + 1) = decide (j < n) := by
        rw [decide_eq_decide]; omega
      have h2 : decide (n = j) = false := by simp; omega
      rw [h1, h2, Bool.xor_false]
  · rw [if_neg hc, Nat.testBit_mod_two_pow, Nat.testBit_mod_two_pow]
    by_cases hj : j = n
    · subst hj; simp at hc; simp [hc]
    · have h1 : decide (j < n + 1) = decide (j < n) := by
        rw [decide_eq_decide]; omega
      rw [h1]
theorem of_range (f : Nat → Nat) (hf : ∀ a b, f (a ^^^ b) = f a ^^^ f b) (c : Nat) : ∀ n, Turn.of ((List.range n).map fun i => f (2 ^ i)) c = f (c % 2 ^ n)
  | 0 => by
    have h := hf 0 0
    rw [Nat.xor_self, Nat.xor_self] at h
    show 0 = f (c % 2 ^ 0)
    rw [Nat.pow_zero, Nat.mod_one, h]
  | n + 1 => by
    have ih := of_range f hf c n
    unfold Turn.of at ih ⊢
    rw [List.range_succ, List.map_append, List.zipIdx_append, List.foldl_append, ih, mod_succ]
    simp only [List.map_cons, List.map_nil, List.zipIdx_cons, List.zipIdx_nil, List.foldl_cons, List.foldl_nil, List.length_map, List.length_range, Nat.zero_add]
    split
    · rw [hf]
    · rfl
/-- m tells f of each of 32 bits -/
def Rep (m : Turn) (f : Nat → Nat) : Prop := m = (List.range 32).map fun i => f (2 ^ i)
theorem Rep.of {m : Turn} {f : Nat → Nat} (h : Rep m f) (hf : ∀ a b, f (a ^^^ b) = f a ^^^ f b) {c : Nat} (hc : c < 2 ^ 32) : Turn.of m c = f c := by
  have e := of_range f hf c 32
  rw [show m = (List.range 32).map fun i => f (2 ^ i) from h, e, Nat.mod_eq_of_lt hc]
theorem rep_map {m : Turn} {f g : Nat → Nat} {h : Nat → Nat} (r : Rep m f) (e : ∀ i, i < 32 → g (f (2 ^ i)) = h (2 ^ i)) : Rep (m.map g) h := by
  unfold Rep
  rw [show m = (List.range 32).map fun i => f (2 ^ i) from r, List.map_map]
  apply List.map_congr_left
  intro i hi
  exact e i (List.mem_range.mp hi)
theorem rep_once : Rep once step := rfl
theorem power_rep : ∀ (f n : Nat), n < 2 ^ f → Rep (power f n) (steps n)
  | 0, n, h => by
    have : n = 0 := by simpa using h
    subst this
    rfl
  | f + 1, n, h => by
    unfold power
    by_cases h0 : n = 0
    · rw [if_pos h0]; subst h0; rfl
    · rw [if_neg h0]
      have ih := power_rep f (n / 2) (by rw [Nat.pow_succ] at h; omega)
      have hq : Rep ((power f (n / 2)).map (power f (n / 2)).of) (steps (n / 2 + n / 2)) :=
        rep_map ih fun i hi => by
          rw [ih.of (steps_xor _) (steps_lt _ (Nat.pow_lt_pow_right (by decide) hi)), steps_add]
      show Rep (if n % 2 = 1 then _ else _) (steps n)
      split
      · rename_i ho
        have e : n = n / 2 + n / 2 + 1 := by omega
        have := rep_map (g := once.of) (h := steps n) hq fun i hi => by
          rw [rep_once.of step_xor (steps_lt _ (Nat.pow_lt_pow_right (by decide) hi)), ← steps_succ, ← e]
        exact this
      · rename_i ho
        have e : n / 2 + n / 2 = n := by omega
        rw [e] at hq
        exact hq
theorem join_eq {a : Nat} (b n : Nat) (h : a < 2 ^ 32) : join a b n = steps (8 * n) a ^^^ b := by
  unfold join
  rw [(power_rep (8 * n + 1) (8 * n) (Nat.lt_of_lt_of_le Nat.lt_two_pow_self (Nat.pow_le_pow_right (by decide) (Nat.le_succ _)))).of (steps_xor _) h]
/-! ### the sum -/
theorem feed_append (c : Nat) (x y : Bytes) : feed c (x ++ y) = feed (feed c x) y := by
  unfold feed; rw [List.foldl_append]
theorem feed_cons (c : Nat) (x : UInt8) (y : Bytes) : feed c (x :: y) = feed (steps 8 (c ^^^ x.toNat)) y := rfl
theorem u8_lt32 (x : UInt8) : x.toNat < 2 ^ 32 := Nat.lt_of_lt_of_le x.toNat_lt (by decide)
theorem feed_lt : ∀ (b : Bytes) {c : Nat}, c < 2 ^ 32 → feed c b < 2 ^ 32
  | [], _, h => h
  | x :: r, _, h => feed_lt r (steps_lt 8 (Nat.xor_lt_two_pow h (u8_lt32 x)))
theorem sum_lt {a : Nat} (h : a < 2 ^ 32) (b : Bytes) : sum a b < 2 ^ 32 :=
  Nat.xor_lt_two_pow (feed_lt b (Nat.xor_lt_two_pow h (by decide))) (by decide)
theorem xor_ones_twice (c : Nat) : c ^^^ ONES ^^^ ONES = c := by rw [Nat.xor_assoc, Nat.xor_self, Nat.xor_zero]
theorem sum_append (a : Nat) (x y : Bytes) : sum a (x ++ y) = sum (sum a x) y := by
  unfold sum
  rw [feed_append, xor_ones_twice]
end
end My
open PySem PySem.W PyProof.Rows
namespace My
open PySem PySem.W
theorem w_int {lo hi : Int} {cs : List Codec} {a : Int} {r : Codec.denoteAll cs} (h : Codec.withinAll (.int lo hi :: cs) (a, r) = true) : (lo ≤ a ∧ a ≤ hi) ∧ Codec.withinAll cs r = true := by
  have h1 : (Codec.inInt lo hi a && Codec.withinAll cs r) = true := h
  rw [Bool.and_eq_true] at h1
  have h2 := h1.1
  unfold Codec.inInt at h2
  rw [Bool.and_eq_true, decide_eq_true_eq, decide_eq_true_eq] at h2
  exact ⟨h2, h1.2⟩
theorem w_ints {l m : Nat} {lo hi : Int} {cs : List Codec} {a : List Int} {r : Codec.denoteAll cs} (h : Codec.withinAll (.list l m (.int lo hi) :: cs) (a, r) = true) :
    (l ≤ a.length ∧ a.length ≤ m) ∧ (∀ x ∈ a, lo ≤ x ∧ x ≤ hi) ∧ Codec.withinAll cs r = true := by
  have h1 : (Codec.inList l m (Codec.inInt lo hi) a && Codec.withinAll cs r) = true := h
  rw [Bool.and_eq_true] at h1
  have h2 := h1.1
  unfold Codec.inList at h2
  rw [Bool.and_eq_true, List.all_eq_true] at h2
  have h4 := h2.1
  unfold Codec.inLen Codec.inNat at h4
  rw [Bool.and_eq_true, decide_eq_true_eq, decide_eq_true_eq] at h4
  refine ⟨h4, fun x hx => ?_, h1.2⟩
  have h3 := h2.2 x hx
  unfold Codec.inInt at h3
  rw [Bool.and_eq_true, decide_eq_true_eq, decide_eq_true_eq] at h3
  exact h3
end My
namespace My
open PySem PySem.W PySem.Calls PyProof.Rows
section
variable {prog : Program} {w : World} {A : Around} {E : Value → Shared → Prop} {s : Shared} {x y : Int} {t u : Tok} {Q : Value → Shared → Prop}
theorem step_div (hy : 0 < y) (hs : y ≤ 100000) (h : Q (.int (x / y) s.toks) { s with toks := s.toks + 1 }) :
    wpAny (model prog w) A (binaryOp .FloorDiv (.int x t) (.int y u)) Q E s :=
  PyProof.Rows.floordiv_int (by omega) (by rw [Int.fdiv_eq_ediv_of_nonneg x (Int.le_of_lt hy)]; exact h) (Or.inl (PyProof.noPylong_small (by omega)))
theorem step_mod (hy : 0 < y) (h : Q (.int (x % y) s.toks) { s with toks := s.toks + 1 }) :
    wpAny (model prog w) A (binaryOp .Mod (.int x t) (.int y u)) Q E s :=
  PyProof.Rows.mod_int (by omega) (by rw [Int.fmod_eq_emod_of_nonneg x (Int.le_of_lt hy)]; exact h)
theorem step_shr (hy : 0 ≤ y) (h : Q (.int (x / 2 ^ y.toNat) s.toks) { s with toks := s.toks + 1 }) :
    wpAny (model prog w) A (binaryOp .RShift (.int x t) (.int y u)) Q E s := by
  refine PyProof.Rows.rshift_int (by omega) ?_
  rw [Int.fdiv_eq_ediv_of_nonneg x (Int.le_of_lt (Int.pow_pos (by decide)))]
  exact h
theorem mask1 (x : Int) : Builtin.bitAnd x 1 = x % 2 := kbt_mask x 1
theorem step_and1 (h : Q (.int (x % 2) s.toks) { s with toks := s.toks + 1 }) : wpAny (model prog w) A (binaryOp .BitAnd (.int x t) (.int 1 u)) Q E s := by
  refine PyProof.Rows.and_int ?_
  rw [mask1]
  exact h
theorem mask8 (x : Int) : Builtin.bitAnd x 255 = x % 256 := kbt_mask x 8
theorem step_and255 (h : Q (.int (x % 256) s.toks) { s with toks := s.toks + 1 }) : wpAny (model prog w) A (binaryOp .BitAnd (.int x t) (.int 255 u)) Q E s := by
  refine PyProof.Rows.and_int ?_
  rw [mask8]
  exact h
end
end My
namespace My
open PySem PySem.W PySem.Calls PyProof.Rows
theorem bitXor_nat {x y : Int} (hx : 0 ≤ x) (hy : 0 ≤ y) : Builtin.bitXor x y = ((x.toNat ^^^ y.toNat : Nat) : Int) := by
  rw [PyProof.Rows.bitXor_and, PyProof.Rows.bitAnd_pp hx hy]; have := xor_and x.toNat y.toNat; omega
/-- exclusive or of whole numbers not below 0 -/
def zx (x y : Int) : Int := ((x.toNat ^^^ y.toNat : Nat) : Int)
section
variable {prog : Program} {w : World} {A : Around} {E : Value → Shared → Prop} {s : Shared} {x y : Int} {t u : Tok} {Q : Value → Shared → Prop}
theorem zx_nonneg (x y : Int) : 0 ≤ zx x y := Int.natCast_nonneg _
theorem step_xor2 (hx : 0 ≤ x) (hy : 0 ≤ y) (h : 0 ≤ zx x y → Q (.int (zx x y) s.toks) { s with toks := s.toks + 1 }) :
    wpAny (model prog w) A (binaryOp .BitXor (.int x t) (.int y u)) Q E s := by
  refine PyProof.Rows.xor_int ?_
  rw [bitXor_nat hx hy]
  exact h (zx_nonneg x y)
theorem step_shr1 (h : Q (.int (x / 2) s.toks) { s with toks := s.toks + 1 }) :
    wpAny (model prog w) A (binaryOp .RShift (.int x t) (.int 1 u)) Q E s := by
  refine step_shr (by decide) ?_
  exact h
end
end My
namespace My
theorem said : PySem.Challenge.rw_byterows_s12_frame.wellSaid = true := by decide +kernel
/-- one step -/
def sh (s : Int) : Int := ((Md04.step s.toNat : Nat) : Int)
theorem sh_nonneg (s : Int) : 0 ≤ sh s := Int.natCast_nonneg _
theorem sh_odd {s : Int} (h0 : 0 ≤ s) (h : s % 2 = 1) : zx (s / 2) 2197175160 = sh s := by
  unfold sh zx Md04.step
  rw [if_pos (by omega), show (s / 2).toNat = s.toNat / 2 by omega]
  rfl
theorem sh_even {s : Int} (h0 : 0 ≤ s) (h : ¬ s % 2 = 1) : s / 2 = sh s := by
  unfold sh Md04.step
  rw [if_neg (by omega)]
  omega
/-- eight steps -/
structure In (z₀ : Int) (pre : List Int) (s : Int) : Prop where
  eq : s = ((Md04.steps pre.length z₀.toNat : Nat) : Int)
theorem snoc_len (pre : List Int) (k : Int) : (pre ++ [k]).length = pre.length + 1 := by simp
theorem in_start {z : Int} (h : 0 ≤ z) : 0 ≤ z ∧ In z [] z := ⟨h, ⟨by show z = ((z.toNat : Nat) : Int); omega⟩⟩
theorem in_turn {z₀ s k : Int} {pre : List Int} (T : In z₀ pre s) : 0 ≤ sh s ∧ In z₀ (pre ++ [k]) (sh s) := by
  refine ⟨sh_nonneg _, ⟨?_⟩⟩
  rw [snoc_len, steps_succ]
  have e := T.eq
  generalize Md04.steps pre.length z₀.toNat = n at e ⊢
  subst e
  rfl
structure Mark (z : Int) : Prop where
  z0 : 0 ≤ z
theorem mark {s b : Int} (h : 0 ≤ zx s b) : Mark (zx s b) := ⟨h⟩
abbrev W {z : Int} (_ : Mark z) (pre : List Int) (s : Int) : Prop := In z pre s
theorem in_end {z s : Int} {n : Nat} (T : In z (rangeKs 0 n) s) (hn : n = 8) : s = ((Md04.steps 8 z.toNat : Nat) : Int) := by
  have e := T.eq
  rw [rangeKs_length, hn] at e
  exact e
end My
local macro_rules | `(tactic| walk_at "binaryOp FloorDiv int int") => `(tactic| (k_here; (with_reducible refine' My.step_div ?k1 ?k2 ?_); (case k1 => k_dflt omega); (case k2 => k_dflt omega)))
local macro_rules | `(tactic| walk_at "binaryOp Mod int int") => `(tactic| (k_here; (with_reducible refine' My.step_mod ?k1 ?_); (case k1 => k_dflt omega)))
local macro_rules | `(tactic| walk_at "binaryOp RShift int int") => `(tactic| (k_here; (with_reducible refine' My.step_shr ?k1 ?_); (case k1 => k_dflt omega)))
local macro_rules | `(tactic| walk_at "binaryOp BitAnd int int") => `(tactic| (k_here; (with_reducible show wpAny _ _ (binaryOp Operator.BitAnd (Value.int _ _) (Value.int 1 _)) _ _ _); k_dflt (refine My.step_and1 ?_)))
local macro_rules | `(tactic| walk_at "binaryOp BitAnd int int") => `(tactic| (k_here; (with_reducible show wpAny _ _ (binaryOp Operator.BitAnd (Value.int _ _) (Value.int 255 _)) _ _ _); k_dflt (refine My.step_and255 ?_)))
local macro_rules | `(tactic| walk_at "binaryOp BitXor int int") => `(tactic| (k_here; (with_reducible refine' My.step_xor2 ?k1 ?k2 ?_); (case k1 => k_dflt omega); (case k2 => k_dflt omega); intro _))
local macro_rules | `(tactic| walk_at "binaryOp RShift int int") => `(tactic| (k_here; (with_reducible show wpAny _ _ (binaryOp Operator.RShift (Value.int _ _) (Value.int 1 _)) _ _ _); k_dflt (refine My.step_shr1 ?_)))

namespace My
structure Bounds (c : Int) (xs : List Int) : Prop where
  c0 : 0 ≤ c
  row : Row xs
  len : xs.length ≤ 4096
theorem bounds {b : Int} {xs : List Int} (h : PySem.Challenge.rw_byterows_s12_frame.pre [WData.int b, ofPy (PyData.list (xs.map PyData.int))] = true) : Bounds b xs := by
  obtain ⟨a, w, q, e⟩ := os_pre said h
  obtain ⟨d, ys, u⟩ := a
  have e1 := os_j_int (List.cons.inj e).1
  have e2 := os_j_ints (List.cons.inj (List.cons.inj e).2).1
  subst e1 e2
  obtain ⟨b1, w1⟩ := w_int w
  obtain ⟨b2, b3, _⟩ := w_ints w1
  exact ⟨b1.1, b3, b2.2⟩
/-- a number of 32 bits in four bytes -/
abbrev four (z : Int) : List Int := [z / 2 ^ Int.toNat 24, z / 2 ^ Int.toNat 16 % 256, z / 2 ^ Int.toNat 8 % 256, z % 256]
theorem four_in {z k : Int} (h0 : 0 ≤ z) (h1 : z < 2 ^ 32) (h : k ∈ four z) : 0 ≤ k ∧ k ≤ 255 := by
  have e24 : (2 : Int) ^ Int.toNat 24 = 16777216 := by decide
  have e16 : (2 : Int) ^ Int.toNat 16 = 65536 := by decide
  have e8 : (2 : Int) ^ Int.toNat 8 = 256 := by decide
  simp only [four, e24, e16, e8, List.mem_cons, List.not_mem_nil, or_false] at h
  omega
theorem Bounds.item {c k : Int} {xs : List Int} (B : Bounds c xs) (h : k ∈ four xs.length ++ xs) : 0 ≤ k ∧ k ≤ 255 := by
  rcases List.mem_append.mp h with h | h
  · exact four_in (by omega) (by have := B.len; omega) h
  · exact B.row k h
theorem four_be {n : Nat} (h : n < 2 ^ 32) : (Md04.be32 n).map (fun (b : UInt8) => (b.toNat : Int)) = four n := by
  have e : ∀ m : Nat, m < 256 → ((UInt8.ofNat m).toNat : Int) = m := fun m hm => by
    rw [UInt8.toNat_ofNat']
    omega
  have e24 : (2 : Int) ^ Int.toNat 24 = 16777216 := by decide
  have e16 : (2 : Int) ^ Int.toNat 16 = 65536 := by decide
  have e8 : (2 : Int) ^ Int.toNat 8 = 256 := by decide
  unfold Md04.be32 four
  simp only [List.map_cons, List.map_nil]
  rw [e _ (by omega), e _ (by omega), e _ (by omega), e _ (by omega), e24, e16, e8]
  congr 1
  omega
theorem be_four {n : Nat} (h : n < 2 ^ 32) : by_ (four n) = Md04.be32 n := by
  rw [← four_be h]
  show ((Md04.be32 n).map _).map _ = _
  rw [List.map_map]
  conv => rhs; rw [← List.map_id (Md04.be32 n)]
  apply List.map_congr_left
  intro b _
  show UInt8.ofNat ((b.toNat : Int)).toNat = b
  simp
structure Told (pre : List Int) (s : Int) : Prop where
  eq : s = ((Md04.feed (0 ^^^ Md04.ONES) (by_ pre) : Nat) : Int)
theorem t_start : 0 ≤ zx 0 4294967295 ∧ Told [] (zx 0 4294967295) := ⟨zx_nonneg _ _, ⟨rfl⟩⟩
theorem t_turn {s k s' : Int} {n : Nat} {pre : List Int} (T : Told pre s) (I : In (zx s k) (rangeKs 0 n) s') (hn : n = 8) (h0 : 0 ≤ k) (h1 : k ≤ 255) : 0 ≤ s' ∧ Told (pre ++ [k]) s' := by
  have e1 := in_end I hn
  refine ⟨by omega, ⟨?_⟩⟩
  have e := T.eq
  rw [by_append, feed_append, e1]
  generalize Md04.feed (0 ^^^ Md04.ONES) (by_ pre) = n at e ⊢
  subst e
  show ((Md04.steps 8 (n ^^^ k.toNat) : Nat) : Int) = ((Md04.steps 8 (n ^^^ (u8 k).toNat) : Nat) : Int)
  rw [u8_toNat h0 h1]
theorem due (c : Int) (xs : List Int) : PyMd04.frame c xs = if 2 ^ 32 ≤ xs.length ∨ c.toNat < xs.length + 8 then [0] else ((xs.length + 8 : Nat) : Int) :: (Md04.frame (by_ xs)).map (fun (b : UInt8) => (b.toNat : Int)) := by
  show (let y := (if 2 ^ 32 ≤ (by_ xs).length ∨ c.toNat < (by_ xs).length + 8 then Md04.code 0 else (⟨(((by_ xs).length + 8 : Nat) : Int), Md04.frame (by_ xs), 0⟩ : Md04.Ans)); y.code :: y.out.map fun (b : UInt8) => (b.toNat : Int)) = _
  rw [by_length]
  split
  · rfl
  · rfl
theorem none_due {c : Int} {xs : List Int} (B : Bounds c xs) (h : c < (xs.length : Int) + 8) : PyMd04.frame c xs = [0] := by
  have := B.c0
  rw [due, if_pos (Or.inr (by omega))]
theorem t_end {c s : Int} {xs : List Int} (B : Bounds c xs) (T : Told (four xs.length ++ xs) s) (h : ¬ c < (xs.length : Int) + 8) : PyMd04.frame c xs = [(xs.length : Int) + 8] ++ (four xs.length ++ xs) ++ four (zx s 4294967295) := by
  have h0 := B.c0
  have hl := B.len
  rw [due, if_neg (by omega)]
  unfold Md04.frame
  rw [by_length]
  have e := T.eq
  rw [by_append, be_four (by omega)] at e
  have es : Md04.sum 0 (Md04.be32 xs.length ++ by_ xs) = (zx s 4294967295).toNat := by
    show Md04.feed (0 ^^^ Md04.ONES) (Md04.be32 xs.length ++ by_ xs) ^^^ Md04.ONES = _
    generalize Md04.feed (0 ^^^ Md04.ONES) (Md04.be32 xs.length ++ by_ xs) = n at e ⊢
    subst e
    rfl
  have hz := zx_nonneg s 4294967295
  have hlt : (zx s 4294967295).toNat < 2 ^ 32 := by rw [← es]; exact sum_lt (by decide) _
  rw [es, List.map_append, List.map_append, four_be (by omega), four_be hlt, by_back B.row]
  rw [show ((zx s 4294967295).toNat : Int) = zx s 4294967295 by omega]
  rfl
end My
set_option maxRecDepth 100000 in
set_option maxHeartbeats 8000000 in
theorem PySem.Challenge.cw_byterows_s12_frame_holds : PySem.Challenge.rw_byterows_s12_frame.Holds := by
  k_with "call ref" => k_call_by "shifted" My.sh (fun (s : Int) => 0 ≤ s)
  k_with "tree" => first
    | exact My.sh_odd (by assumption) (by assumption)
    | exact My.sh_even (by assumption) (by assumption)
  k_with "state" => first
    | exact My.in_turn (by assumption)
    | exact My.in_start (by assumption)
    | exact My.t_start
    | exact My.t_turn (by assumption) (by assumption) (by omega) (by assumption) (by assumption)
  k_with "pyIter ref" => (k_of "byte" => ((have hb := My.bounds (by assumption)); k_state (fun pre s => 0 ≤ s ∧ My.Told pre s) "state"; (all_goals (try (have hx := hb.item kMem; have hx0 := hx.1; have hx1 := hx.2)))))
  k_with "pyIter ref" => (k_of "step" => ((rename (0 ≤ My.zx _ _) => hpz); (have hm := My.mark hpz); k_state_short (fun pre s => 0 ≤ s ∧ My.W hm pre s) "state"))
  w_on; k_headS; (case hw => exact ⟨[.int 0, .list []], by decide +kernel, by decide +kernel⟩)
  w_strict k_goS
  all_goals
    have hb := My.bounds (by assumption)
    os_open My.said with a w q e
    obtain ⟨d, ys, u⟩ := a
    have e1 := os_j_int (List.cons.inj e).1
    have e2 := os_j_ints (List.cons.inj (List.cons.inj e).2).1
    subst e1 e2
    refine os_list (ys := PyMd04.frame _ _) ?_
  · rw [My.none_due hb (by assumption)]; rfl
  · rw [My.t_end hb (by assumption) (by assumption)]
#print axioms PySem.Challenge.cw_byterows_s12_frame_holds
