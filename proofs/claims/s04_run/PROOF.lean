import PyProof.Rows.All
import KE.OsGo
import KE.OsArgs
import PySem.Challenge.RW_byterows_s04_run
open PySem PySem.W PyProof.Rows
set_option Elab.async false
namespace My
/-- A whole number as a byte. -/
abbrev u8 (z : Int) : UInt8 := UInt8.ofNat z.toNat
theorem first_at {f : UInt8 → Bool} : ∀ (xs : List Int) (n : Nat), (∀ i : Nat, i < n → f (u8 (xs.getD i 0)) = false) → n ≤ xs.length →
    (n = xs.length ∨ f (u8 (xs.getD n 0)) = true) → Md04.first f (Md04Neutral.by_ xs) = n
  | [], n, _, hn, _ => by
    have : n = 0 := by simpa using hn
    subst this; rfl
  | x :: r, 0, _, _, he => by
    have hx : f (u8 x) = true := by
      rcases he with h | h
      · simp at h
      · simpa using h
    have : (!f (UInt8.ofNat x.toNat)) = false := by rw [show f (UInt8.ofNat x.toNat) = true from hx]; rfl
    simp [Md04.first, Md04Neutral.by_, this]
  | x :: r, n + 1, h, hn, he => by
    have hx : f (u8 x) = false := by simpa using h 0 (Nat.succ_pos n)
    have h1 : (!f (UInt8.ofNat x.toNat)) = true := by rw [show f (UInt8.ofNat x.toNat) = false from hx]; rfl
    have ih := first_at (f := f) r n (fun i hi => by simpa using h (i + 1) (by omega)) (by simpa using hn)
      (by rcases he with h | h
          · left; simpa using h
          · right; simpa using h)
    simp only [Md04.first, Md04Neutral.by_] at ih
    simp [Md04.first, Md04Neutral.by_, h1, ih]
theorem u8_toNat {z : Int} (h0 : 0 ≤ z) (h1 : z ≤ 255) : (u8 z).toNat = z.toNat := by
  show (UInt8.ofNat z.toNat).toNat = z.toNat
  rw [UInt8.toNat_ofNat']
  omega
theorem u8_eq {a b : Int} (ha : 0 ≤ a) (ha1 : a ≤ 255) (hb : 0 ≤ b) (hb1 : b ≤ 255) : (u8 a == u8 b) = decide (a = b) := by
  by_cases h : a = b
  · subst h; simp
  · have : u8 a ≠ u8 b := fun e => by
      have := congrArg UInt8.toNat e
      rw [u8_toNat ha ha1, u8_toNat hb hb1] at this
      omega
    simp [this, h]
theorem item_in {xs : List Int} {lo hi : Int} (h : ∀ x ∈ xs, lo ≤ x ∧ x ≤ hi) {i : Nat} (hi' : i < xs.length) : lo ≤ xs.getD i 0 ∧ xs.getD i 0 ≤ hi := by
  have e : xs.getD i 0 = xs[i] := by simp [List.getD, hi']
  rw [e]
  exact h _ (List.getElem_mem hi')
end My
namespace My
open PySem PySem.W
theorem w_int {lo hi : Int} {cs : List Codec} {a : Int} {r : Codec.denoteAll cs} (h : Codec.withinAll (.int lo hi :: cs) (a, r) = true) : (lo ≤ a ∧ a ≤ hi) ∧ Codec.withinAll cs r = true := by
  have h1 : (Codec.inInt lo hi a && Codec.withinAll cs r) = true := h
  rw [Bool.and_eq_true] at h1
  have h2 := h1.1
  unfold Codec.inInt at h2
  rw [Bool.and_eq_true, decide_eq_true_eq, decide_eq_true_eq] at h2
  exact ⟨h2, h1.2⟩
theorem w_ints {l m : Nat} {lo hi : Int} {cs : List Codec} {a : List Int} {r : Codec.denoteAll cs} (h : Codec.withinAll (.list l m (.int lo hi) :: cs) (a, r) = true) :
    (l ≤ a.length ∧ a.length ≤ m) ∧ (∀ x ∈ a, lo ≤ x ∧ x ≤ hi) ∧ Codec.withinAll cs r = true := by
  have h1 : (Codec.inList l m (Codec.inInt lo hi) a && Codec.withinAll cs r) = true := h
  rw [Bool.and_eq_true] at h1
  have h2 := h1.1
  unfold Codec.inList at h2
  rw [Bool.and_eq_true, List.all_eq_true] at h2
  have h4 := h2.1
  unfold Codec.inLen Codec.inNat at h4
  rw [Bool.and_eq_true, decide_eq_true_eq, decide_eq_true_eq] at h4
  refine ⟨h4, fun x hx => ?_, h1.2⟩
  have h3 := h2.2 x hx
  unfold Codec.inInt at h3
  rw [Bool.and_eq_true, decide_eq_true_eq, decide_eq_true_eq] at h3
  exact h3
end My
namespace My
theorem said : PySem.Challenge.rw_byterows_s04_run.wellSaid = true := by decide +kernel
structure Bounds (ss xs : List Int) : Prop where
  len : ss.length = 32
  set : ∀ x ∈ ss, (0 : Int) ≤ x ∧ x ≤ 255
  row : ∀ x ∈ xs, (0 : Int) ≤ x ∧ x ≤ 255
theorem bounds {ss xs : List Int} (h : PySem.Challenge.rw_byterows_s04_run.pre [ofPy (PyData.list (ss.map PyData.int)), ofPy (PyData.list (xs.map PyData.int))] = true) : Bounds ss xs := by
  obtain ⟨a, w, q, e⟩ := os_pre said h
  obtain ⟨d, ys, u⟩ := a
  have e1 := os_j_ints (List.cons.inj e).1
  have e2 := os_j_ints (List.cons.inj (List.cons.inj e).2).1
  subst e1 e2
  obtain ⟨b1, b2, w1⟩ := w_ints w
  obtain ⟨_, b3, _⟩ := w_ints w1
  exact ⟨by omega, b2, b3⟩
end My
namespace My
/-- byte c's bit of the set, as the program takes it -/
abbrev bitOf (ss : List Int) (c : Int) : Int := ss.getD (c / 8).toNat 0 / 2 ^ (c % 8).toNat % 2
theorem by_getD (ss : List Int) (i : Nat) : (Md04Neutral.by_ ss).getD i 0 = u8 (ss.getD i 0) := by
  unfold Md04Neutral.by_
  rw [List.getD_eq_getElem?_getD, List.getD_eq_getElem?_getD, List.getElem?_map]
  cases ss[i]? <;> rfl
theorem bit_iff {ss : List Int} {c : Int} (hs : ∀ x ∈ ss, (0 : Int) ≤ x ∧ x ≤ 255) (hc0 : 0 ≤ c) (hc1 : c ≤ 255) :
    Md04.inSet (Md04Neutral.by_ ss) (u8 c) = decide (bitOf ss c = 1) := by
  have hb : (0 : Int) ≤ ss.getD (c / 8).toNat 0 ∧ ss.getD (c / 8).toNat 0 ≤ 255 := by
    by_cases h : (c / 8).toNat < ss.length
    · exact item_in hs h
    · have : ss.getD (c / 8).toNat 0 = 0 := by
        rw [List.getD_eq_getElem?_getD, List.getElem?_eq_none (by omega)]; rfl
      rw [this]; decide
  obtain ⟨b, eb⟩ : ∃ b : Nat, ss.getD (c / 8).toNat 0 = (b : Int) := ⟨(ss.getD (c / 8).toNat 0).toNat, by omega⟩
  obtain ⟨n, en⟩ : ∃ n : Nat, c = (n : Int) := ⟨c.toNat, by omega⟩
  have e1 : (c / 8).toNat = n / 8 := by omega
  have e2 : (c % 8).toNat = n % 8 := by omega
  unfold Md04.inSet bitOf
  rw [u8_toNat hc0 hc1, show c.toNat = n by omega, by_getD, ← e1, u8_toNat hb.1 hb.2, eb, e2, Int.toNat_natCast, Nat.testBit_eq_decide_div_mod_eq]
  have e3 : ((b : Int) / 2 ^ (n % 8) % 2) = ((b / 2 ^ (n % 8) % 2 : Nat) : Int) := by
    rw [Int.natCast_emod, Int.natCast_ediv, Int.natCast_pow]; rfl
  rw [e3]
  congr 1
  apply propext
  omega
structure Told (ss xs : List Int) (pre : List Int) : Prop where
  no : ∀ i : Nat, i < pre.length → bitOf ss (xs.getD i 0) = 1
theorem start {ss xs : List Int} : Told ss xs [] := ⟨fun _ h => absurd h (Nat.not_lt_zero _)⟩
abbrev W {ss xs : List Int} (_ : Bounds ss xs) (pre : List Int) : Prop := Told ss xs pre
theorem turn {ss xs pre : List Int} {k : Int} (T : Told ss xs pre) (hk : k = 0 + (pre.length : Int)) (h : bitOf ss (xs.getD k.toNat 0) = 1) : Told ss xs (pre ++ [k]) := by
  refine ⟨fun i hi => ?_⟩
  have l : (pre ++ [k]).length = pre.length + 1 := by simp
  by_cases h1 : i < pre.length
  · exact T.no i h1
  · have : i = k.toNat := by omega
    rw [this]; exact h
theorem found {ss xs pre : List Int} {k : Int} (B : Bounds ss xs) (T : Told ss xs pre) (hk : k = 0 + (pre.length : Int)) (hl : (pre.length : Int) < (xs.length : Int)) (h : bitOf ss (xs.getD k.toNat 0) ≠ 1) :
    [k] = PyMd04.run ss xs := by
  have e : Md04.first (fun x => !Md04.inSet (Md04Neutral.by_ ss) x) (Md04Neutral.by_ xs) = pre.length := by
    refine first_at xs _ (fun i hi => ?_) (by omega) (Or.inr ?_)
    · have b := item_in B.row (i := i) (by omega)
      show (!Md04.inSet (Md04Neutral.by_ ss) (u8 (xs.getD i 0))) = false
      rw [bit_iff B.set b.1 b.2, decide_eq_true (T.no i hi)]; rfl
    · have e2 : k.toNat = pre.length := by omega
      rw [← e2]
      have b := item_in B.row (i := k.toNat) (by omega)
      show (!Md04.inSet (Md04Neutral.by_ ss) (u8 (xs.getD k.toNat 0))) = true
      rw [bit_iff B.set b.1 b.2, decide_eq_false h]; rfl
  show [k] = [((Md04.first (fun x => !Md04.inSet (Md04Neutral.by_ ss) x) (Md04Neutral.by_ xs) : Nat) : Int)]
  rw [e, hk, Int.zero_add]
theorem none_ {ss xs : List Int} {m : Nat} (B : Bounds ss xs) (T : Told ss xs (rangeKs 0 m)) (hm : m = xs.length) : [(xs.length : Int)] = PyMd04.run ss xs := by
  have e : Md04.first (fun x => !Md04.inSet (Md04Neutral.by_ ss) x) (Md04Neutral.by_ xs) = xs.length := by
    refine first_at xs _ (fun i hi => ?_) (Nat.le_refl _) (Or.inl rfl)
    have b := item_in B.row (i := i) (by omega)
    show (!Md04.inSet (Md04Neutral.by_ ss) (u8 (xs.getD i 0))) = false
    rw [bit_iff B.set b.1 b.2, decide_eq_true (T.no i (by rw [rangeKs_length, hm]; exact hi))]; rfl
  show _ = [((Md04.first (fun x => !Md04.inSet (Md04Neutral.by_ ss) x) (Md04Neutral.by_ xs) : Nat) : Int)]
  rw [e]
end My
namespace My
open PySem PySem.W PySem.Calls PyProof.Rows
section
variable {prog : Program} {w : World} {A : Around} {E : Value → Shared → Prop} {s : Shared} {x y : Int} {t u : Tok} {Q : Value → Shared → Prop}
theorem step_div (hy : 0 < y) (hs : y ≤ 100000) (h : Q (.int (x / y) s.toks) { s with toks := s.toks + 1 }) :
    wpAny (model prog w) A (binaryOp .FloorDiv (.int x t) (.int y u)) Q E s :=
  PyProof.Rows.floordiv_int (by omega) (by rw [Int.fdiv_eq_ediv_of_nonneg x (Int.le_of_lt hy)]; exact h) (Or.inl (PyProof.noPylong_small (by omega)))
theorem step_mod (hy : 0 < y) (h : Q (.int (x % y) s.toks) { s with toks := s.toks + 1 }) :
    wpAny (model prog w) A (binaryOp .Mod (.int x t) (.int y u)) Q E s :=
  PyProof.Rows.mod_int (by omega) (by rw [Int.fmod_eq_emod_of_nonneg x (Int.le_of_lt hy)]; exact h)
theorem step_shr (hy : 0 ≤ y) (h : Q (.int (x / 2 ^ y.toNat) s.toks) { s with toks := s.toks + 1 }) :
    wpAny (model prog w) A (binaryOp .RShift (.int x t) (.int y u)) Q E s := by
  refine PyProof.Rows.rshift_int (by omega) ?_
  rw [Int.fdiv_eq_ediv_of_nonneg x (Int.le_of_lt (Int.pow_pos (by decide)))]
  exact h
theorem mask1 (x : Int) : Builtin.bitAnd x 1 = x % 2 := kbt_mask x 1
theorem step_and1 (h : Q (.int (x % 2) s.toks) { s with toks := s.toks + 1 }) : wpAny (model prog w) A (binaryOp .BitAnd (.int x t) (.int 1 u)) Q E s := by
  refine PyProof.Rows.and_int ?_
  rw [mask1]
  exact h
end
end My
local macro_rules | `(tactic| walk_at "binaryOp FloorDiv int int") => `(tactic| (k_here; (with_reducible refine' My.step_div ?k1 ?k2 ?_); (case k1 => k_dflt omega); (case k2 => k_dflt omega)))
local macro_rules | `(tactic| walk_at "binaryOp Mod int int") => `(tactic| (k_here; (with_reducible refine' My.step_mod ?k1 ?_); (case k1 => k_dflt omega)))
local macro_rules | `(tactic| walk_at "binaryOp RShift int int") => `(tactic| (k_here; (with_reducible refine' My.step_shr ?k1 ?_); (case k1 => k_dflt omega)))
local macro_rules | `(tactic| walk_at "binaryOp BitAnd int int") => `(tactic| (k_here; (with_reducible show wpAny _ _ (binaryOp Operator.BitAnd (Value.int _ _) (Value.int 1 _)) _ _ _); k_dflt (refine My.step_and1 ?_)))
local macro_rules | `(tactic| walk_at "subscriptTail") => `(tactic| (k_here; (with_reducible show wpAny _ _ (subscriptTail _ _ (Value.ref _) (Value.int _ _)) _ _ _); (with_unfolding_all refine' item_list_ints ?k1 ?k2 ?k3 ?k4 ?k5 ?_; (case k1 => first | is_list | exact Fr.lst (by assumption) (by first | assumption | exact Fr.lst (by assumption) (by assumption))); (case k2 => l_ints)); (case k3 => k_dflt omega); (case k4 => k_dflt omega); (case k5 => k_dflt omega); k_whole; intro _))
set_option maxRecDepth 100000 in
set_option maxHeartbeats 8000000 in
theorem PySem.Challenge.cw_byterows_s04_run_holds : PySem.Challenge.rw_byterows_s04_run.Holds := by
  k_with "state" => first
    | exact My.start
    | exact My.turn (by assumption) (by assumption) (by assumption)
  k_with "pyIter ref" => (
    (with_reducible show wpAny _ _ (pyIter (Value.ref _)) (fun it s₂ => LoopAtV _ _ _ _ _ _ _ _ _ it s₂) _ _); k_here;
    (have hb := My.bounds (by assumption));
    (rename PyProof.Rows.Fr _ _ _ _ => lF'); (rename PyProof.Rows.News _ _ _ _ => lN'); (rename IsRange _ _ _ _ _ _ _ _ => rgX);
    (with_unfolding_all refine' kst_range (σ := Unit) (fun _ => []) (fun _ => []) (fun _ => True) [] (fun pre _ => My.W hb pre) () (by rfl) rgX (by first | exact small_one (by omega) (by omega) (by omega) (by omega) | exact small_one (by l_bnd) (by l_bnd) (by l_bnd) (by l_bnd) | decide) (by first | exact rangeSize_nat _ _ | rfl) lF' lN' True.intro (List.forall_mem_nil _) My.start (fun kC kPre kN kT kU kH kTk kOwn kEq kLt kOff kFacts kInv kFr kNews => ?_) (fun kC kU kH kTk kFacts kInv kFr kNews => ?_));
    (all_goals (have kMark := kstMark; (try dsimp only [kstB] at kFr); (try simp only [List.nil_append] at kNews); (try dsimp only at kOff); (try simp only [List.map_nil] at kOff); clear lF' lN'; (try (have kB := len_ints_list (by lay_of))); have hl := hb.len; (try (have hx := My.item_in hb.row (i := kN.toNat) (by omega); have hx0 := hx.1; have hx1 := hx.2)); (try k_fold))))
  w_on; k_headS; (case hw => exact ⟨[.list (List.replicate 32 (.int 0)), .list []], by decide +kernel, by decide +kernel⟩)
  w_strict k_goS
  all_goals
    have B := hb
    os_open My.said with a w q e
    obtain ⟨d, ys, u⟩ := a
    have e1 := os_j_ints (List.cons.inj e).1
    have e2 := os_j_ints (List.cons.inj (List.cons.inj e).2).1
    subst e1 e2
    refine os_list (ys := PyMd04.run _ _) ?_
  · rw [← My.found B kInv kEq (by omega) (by assumption)]; rfl
  · rw [← My.none_ B kInv (by omega)]; rfl
#print axioms PySem.Challenge.cw_byterows_s04_run_holds
