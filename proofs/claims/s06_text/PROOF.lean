import PyProof.Rows.All
import KE.OsGo
import KE.OsArgs
import PySem.Challenge.RW_byterows_s06_text
open PySem PySem.W
set_option Elab.async false
namespace My
/-- A whole number as a byte. -/
abbrev u8 (z : Int) : UInt8 := UInt8.ofNat z.toNat
theorem first_at {f : UInt8 → Bool} : ∀ (xs : List Int) (n : Nat), (∀ i : Nat, i < n → f (u8 (xs.getD i 0)) = false) → n ≤ xs.length →
    (n = xs.length ∨ f (u8 (xs.getD n 0)) = true) → Md04.first f (Md04Neutral.by_ xs) = n
  | [], n, _, hn, _ => by
    have : n = 0 := by simpa using hn
    subst this; rfl
  | x :: r, 0, _, _, he => by
    have hx : f (u8 x) = true := by
      rcases he with h | h
      · simp at h
      · simpa using h
    have : (!f (UInt8.ofNat x.toNat)) = false := by rw [show f (UInt8.ofNat x.toNat) = true from hx]; rfl
    simp [Md04.first, Md04Neutral.by_, List.takeWhile_cons, this]
  | x :: r, n + 1, h, hn, he => by
    have hx : f (u8 x) = false := by simpa using h 0 (Nat.succ_pos n)
    have h1 : (!f (UInt8.ofNat x.toNat)) = true := by rw [show f (UInt8.ofNat x.toNat) = false from hx]; rfl
    have ih := first_at (f := f) r n (fun i hi => by simpa using h (i + 1) (by omega)) (by simpa using hn)
      (by rcases he with h | h
          · left; simpa using h
          · right; simpa using h)
    simp only [Md04.first, Md04Neutral.by_] at ih
    simp [Md04.first, Md04Neutral.by_, List.takeWhile_cons, h1, ih]
theorem u8_toNat {z : Int} (h0 : 0 ≤ z) (h1 : z ≤ 255) : (u8 z).toNat = z.toNat := by
  show (UInt8.ofNat z.toNat).toNat = z.toNat
  rw [UInt8.toNat_ofNat']
  omega
theorem u8_eq {a b : Int} (ha : 0 ≤ a) (ha1 : a ≤ 255) (hb : 0 ≤ b) (hb1 : b ≤ 255) : (u8 a == u8 b) = decide (a = b) := by
  by_cases h : a = b
  · subst h; simp
  · have : u8 a ≠ u8 b := fun e => by
      have := congrArg UInt8.toNat e
      rw [u8_toNat ha ha1, u8_toNat hb hb1] at this
      omega
    simp [this, h]
theorem item_in {xs : List Int} {lo hi : Int} (h : ∀ x ∈ xs, lo ≤ x ∧ x ≤ hi) {i : Nat} (hi' : i < xs.length) : lo ≤ xs.getD i 0 ∧ xs.getD i 0 ≤ hi := by
  have e : xs.getD i 0 = xs[i] := by simp [List.getD, hi']
  rw [e]
  exact h _ (List.getElem_mem hi')
end My
namespace My
open PySem PySem.W
theorem w_int {lo hi : Int} {cs : List Codec} {a : Int} {r : Codec.denoteAll cs} (h : Codec.withinAll (.int lo hi :: cs) (a, r) = true) : (lo ≤ a ∧ a ≤ hi) ∧ Codec.withinAll cs r = true := by
  have h1 : (Codec.inInt lo hi a && Codec.withinAll cs r) = true := h
  rw [Bool.and_eq_true] at h1
  have h2 := h1.1
  unfold Codec.inInt at h2
  rw [Bool.and_eq_true, decide_eq_true_eq, decide_eq_true_eq] at h2
  exact ⟨h2, h1.2⟩
theorem w_ints {l m : Nat} {lo hi : Int} {cs : List Codec} {a : List Int} {r : Codec.denoteAll cs} (h : Codec.withinAll (.list l m (.int lo hi) :: cs) (a, r) = true) :
    (l ≤ a.length ∧ a.length ≤ m) ∧ (∀ x ∈ a, lo ≤ x ∧ x ≤ hi) ∧ Codec.withinAll cs r = true := by
  have h1 : (Codec.inList l m (Codec.inInt lo hi) a && Codec.withinAll cs r) = true := h
  rw [Bool.and_eq_true] at h1
  have h2 := h1.1
  unfold Codec.inList at h2
  rw [Bool.and_eq_true, List.all_eq_true] at h2
  have h4 := h2.1
  unfold Codec.inLen Codec.inNat at h4
  rw [Bool.and_eq_true, decide_eq_true_eq, decide_eq_true_eq] at h4
  refine ⟨h4, fun x hx => ?_, h1.2⟩
  have h3 := h2.2 x hx
  unfold Codec.inInt at h3
  rw [Bool.and_eq_true, decide_eq_true_eq, decide_eq_true_eq] at h3
  exact h3
end My
namespace My
theorem said : PySem.Challenge.rw_byterows_s06_text.wellSaid = true := by decide +kernel
structure Told (xs : List Int) (c : Int) (pre : List Int) : Prop where
  no : ∀ i : Nat, i < pre.length → xs.getD i 0 ≠ c
theorem start {xs : List Int} {c : Int} : Told xs c [] := ⟨fun _ h => absurd h (Nat.not_lt_zero _)⟩
theorem turn {xs pre : List Int} {c k : Int} (T : Told xs c pre) (hk : k = 0 + (pre.length : Int)) (h : ¬ xs.getD k.toNat 0 = c) : Told xs c (pre ++ [k]) := by
  refine ⟨fun i hi => ?_⟩
  have l : (pre ++ [k]).length = pre.length + 1 := by simp
  by_cases h1 : i < pre.length
  · exact T.no i h1
  · have : i = k.toNat := by omega
    rw [this]; exact h
theorem found {xs pre : List Int} {c k : Int} (T : Told xs c pre) (hk : k = 0 + (pre.length : Int)) (hl : (pre.length : Int) < (xs.length : Int)) (h : xs.getD k.toNat 0 = c)
    (hc : 0 ≤ c ∧ c ≤ 255) (hx : ∀ x ∈ xs, (0 : Int) ≤ x ∧ x ≤ 255) : [k] = PyMd04.find c xs := by
  have e : Md04.first (fun x => x == u8 c) (Md04Neutral.by_ xs) = pre.length := by
    refine first_at xs _ (fun i hi => ?_) (by omega) (Or.inr ?_)
    · have b := item_in hx (i := i) (by omega)
      rw [u8_eq b.1 b.2 hc.1 hc.2]
      exact decide_eq_false (T.no i hi)
    · have e2 : k.toNat = pre.length := by omega
      rw [← e2, h]
      exact beq_self_eq_true _
  show [k] = [((Md04.first (fun x => x == u8 c) (Md04Neutral.by_ xs) : Nat) : Int)]
  rw [e, hk, Int.zero_add]
theorem none_ {xs : List Int} {c : Int} {m : Nat} (T : Told xs c (rangeKs 0 m)) (hm : m = xs.length)
    (hc : 0 ≤ c ∧ c ≤ 255) (hx : ∀ x ∈ xs, (0 : Int) ≤ x ∧ x ≤ 255) : [(xs.length : Int)] = PyMd04.find c xs := by
  have e : Md04.first (fun x => x == u8 c) (Md04Neutral.by_ xs) = xs.length := by
    refine first_at xs _ (fun i hi => ?_) (Nat.le_refl _) (Or.inl rfl)
    have b := item_in hx (i := i) (by omega)
    rw [u8_eq b.1 b.2 hc.1 hc.2]
    exact decide_eq_false (T.no i (by rw [rangeKs_length, hm]; exact hi))
  show _ = [((Md04.first (fun x => x == u8 c) (Md04Neutral.by_ xs) : Nat) : Int)]
  rw [e]
end My
set_option maxRecDepth 100000 in
set_option maxHeartbeats 8000000 in
theorem PySem.Challenge.cw_byterows_s06_text_holds : PySem.Challenge.rw_byterows_s06_text.Holds := by
  k_with "state" => first
    | exact My.start
    | exact My.turn (by assumption) (by assumption) (by assumption)
  k_with "pyIter ref" => (rename (List Int) => xs; k_search (fun pre => My.Told xs 0 pre))
  open_ks with [.list []]
  all_goals
    os_open My.said with a w q e
    obtain ⟨ys, u⟩ := a
    have e2 := os_j_ints (List.cons.inj e).1
    subst e2
    obtain ⟨_, b2, _⟩ := My.w_ints w
    refine os_list (ys := PyMd04.text xs) ?_
  · rw [show PyMd04.text xs = PyMd04.find 0 xs from rfl, ← My.found kInv kEq (by omega) (by assumption) (by decide) b2]; rfl
  · rw [show PyMd04.text xs = PyMd04.find 0 xs from rfl, ← My.none_ kInv (by omega) (by decide) b2]; rfl
#print axioms PySem.Challenge.cw_byterows_s06_text_holds
