import PyProof.Rows.All
import KE.OsGo
import KE.OsArgs
import PySem.Challenge.RW_byterows_s05_count
open PySem PySem.W PyProof.Rows
set_option Elab.async false
namespace My
/-- A whole number as a byte. -/
abbrev u8 (z : Int) : UInt8 := UInt8.ofNat z.toNat
theorem u8_toNat {z : Int} (h0 : 0 ≤ z) (h1 : z ≤ 255) : (u8 z).toNat = z.toNat := by
  show (UInt8.ofNat z.toNat).toNat = z.toNat
  rw [UInt8.toNat_ofNat']
  omega
theorem u8_inj {a b : Int} (ha : 0 ≤ a ∧ a ≤ 255) (hb : 0 ≤ b ∧ b ≤ 255) (e : u8 a = u8 b) : a = b := by
  have := congrArg UInt8.toNat e
  rw [u8_toNat ha.1 ha.2, u8_toNat hb.1 hb.2] at this
  omega
theorem u8_lt {a b : Int} (ha : 0 ≤ a ∧ a ≤ 255) (hb : 0 ≤ b ∧ b ≤ 255) : u8 a < u8 b ↔ a < b := by
  rw [UInt8.lt_iff_toNat_lt, u8_toNat ha.1 ha.2, u8_toNat hb.1 hb.2]
  omega
/-- bytes -/
abbrev Row (xs : List Int) : Prop := ∀ x ∈ xs, (0 : Int) ≤ x ∧ x ≤ 255
theorem Row.tail {x : Int} {xs : List Int} (h : Row (x :: xs)) : Row xs := fun y hy => h y (List.mem_cons_of_mem _ hy)
theorem Row.head {x : Int} {xs : List Int} (h : Row (x :: xs)) : (0 : Int) ≤ x ∧ x ≤ 255 := h x (List.mem_cons_self ..)
theorem Row.drop {xs : List Int} (h : Row xs) (k : Nat) : Row (xs.drop k) := fun y hy => h y (List.mem_of_mem_drop hy)
theorem Row.take {xs : List Int} (h : Row xs) (k : Nat) : Row (xs.take k) := fun y hy => h y (List.mem_of_mem_take hy)
abbrev by_ := Md04Neutral.by_
theorem by_length (xs : List Int) : (by_ xs).length = xs.length := List.length_map ..
theorem by_append (xs ys : List Int) : by_ (xs ++ ys) = by_ xs ++ by_ ys := List.map_append ..
theorem by_drop (xs : List Int) (k : Nat) : by_ (xs.drop k) = (by_ xs).drop k := List.map_drop ..
theorem by_take (xs : List Int) (k : Nat) : by_ (xs.take k) = (by_ xs).take k := List.map_take ..
theorem by_inj : ∀ {a b : List Int}, Row a → Row b → by_ a = by_ b → a = b
  | [], [], _, _, _ => rfl
  | [], _ :: _, _, _, e => by cases e
  | _ :: _, [], _, _, e => by cases e
  | x :: a, y :: b, ha, hb, e => by
    have e' := List.cons.inj e
    rw [u8_inj ha.head hb.head e'.1, by_inj ha.tail hb.tail e'.2]
/-- back again -/
theorem by_back : ∀ {xs : List Int}, Row xs → (by_ xs).map (fun (b : UInt8) => (b.toNat : Int)) = xs
  | [], _ => rfl
  | x :: r, h => by
    show ((u8 x).toNat : Int) :: _ = x :: r
    have e := by_back h.tail
    unfold by_ Md04Neutral.by_ at e
    rw [e, u8_toNat h.head.1 h.head.2]
    congr 1
    have := h.head
    omega
/-! ### count -/
theorem count_by {c : Int} (hc : 0 ≤ c ∧ c ≤ 255) : ∀ {xs : List Int}, Row xs → (by_ xs).count (u8 c) = xs.count c
  | [], _ => rfl
  | x :: r, h => by
    show (u8 x :: by_ r).count (u8 c) = (x :: r).count c
    rw [List.count_cons, List.count_cons, count_by hc h.tail]
    by_cases e : x = c
    · subst e; simp
    · have : u8 x ≠ u8 c := fun e2 => e (u8_inj h.head hc e2)
      simp [e, this]
end My
namespace My
open PySem PySem.W
theorem w_int {lo hi : Int} {cs : List Codec} {a : Int} {r : Codec.denoteAll cs} (h : Codec.withinAll (.int lo hi :: cs) (a, r) = true) : (lo ≤ a ∧ a ≤ hi) ∧ Codec.withinAll cs r = true := by
  have h1 : (Codec.inInt lo hi a && Codec.withinAll cs r) = true := h
  rw [Bool.and_eq_true] at h1
  have h2 := h1.1
  unfold Codec.inInt at h2
  rw [Bool.and_eq_true, decide_eq_true_eq, decide_eq_true_eq] at h2
  exact ⟨h2, h1.2⟩
theorem w_ints {l m : Nat} {lo hi : Int} {cs : List Codec} {a : List Int} {r : Codec.denoteAll cs} (h : Codec.withinAll (.list l m (.int lo hi) :: cs) (a, r) = true) :
    (l ≤ a.length ∧ a.length ≤ m) ∧ (∀ x ∈ a, lo ≤ x ∧ x ≤ hi) ∧ Codec.withinAll cs r = true := by
  have h1 : (Codec.inList l m (Codec.inInt lo hi) a && Codec.withinAll cs r) = true := h
  rw [Bool.and_eq_true] at h1
  have h2 := h1.1
  unfold Codec.inList at h2
  rw [Bool.and_eq_true, List.all_eq_true] at h2
  have h4 := h2.1
  unfold Codec.inLen Codec.inNat at h4
  rw [Bool.and_eq_true, decide_eq_true_eq, decide_eq_true_eq] at h4
  refine ⟨h4, fun x hx => ?_, h1.2⟩
  have h3 := h2.2 x hx
  unfold Codec.inInt at h3
  rw [Bool.and_eq_true, decide_eq_true_eq, decide_eq_true_eq] at h3
  exact h3
end My
namespace My
theorem said : PySem.Challenge.rw_byterows_s05_count.wellSaid = true := by decide +kernel
structure Told (c : Int) (pre : List Int) (n : Int) : Prop where
  eq : n = (pre.count c : Int)
theorem start {c : Int} : Told c [] 0 := ⟨rfl⟩
theorem yes {c k n : Int} {pre : List Int} (T : Told c pre n) (h : k = c) : Told c (pre ++ [k]) (n + 1) := by
  refine ⟨?_⟩
  subst h
  rw [List.count_append, T.eq]
  simp
theorem no {c k n : Int} {pre : List Int} (T : Told c pre n) (h : ¬ k = c) : Told c (pre ++ [k]) n := by
  refine ⟨?_⟩
  rw [List.count_append, T.eq]
  have : List.count c [k] = 0 := by simp [List.count_cons, h]
  omega
theorem all_ {c n : Int} {xs : List Int} (T : Told c xs n) (hc : 0 ≤ c ∧ c ≤ 255) (hx : Row xs) : [n] = PyMd04.count c xs := by
  show [n] = [(((by_ xs).count (u8 c) : Nat) : Int)]
  rw [count_by hc hx, T.eq]
end My
set_option maxRecDepth 100000 in
set_option maxHeartbeats 8000000 in
theorem PySem.Challenge.cw_byterows_s05_count_holds : PySem.Challenge.rw_byterows_s05_count.Holds := by
  k_with "state" => first
    | exact My.start
    | exact My.yes (by assumption) (by assumption)
    | exact My.no (by assumption) (by assumption)
  k_with "pyIter ref" => k_state_given ["c"] (fun c pre n => My.Told c pre n) "found"
  w_on; k_headS; (case hw => exact ⟨[.int 0, .list []], by decide +kernel, by decide +kernel⟩)
  w_strict k_goS
  all_goals
    os_open My.said with a w q e
    obtain ⟨d, ys, u⟩ := a
    have e1 := os_j_int (List.cons.inj e).1
    have e2 := os_j_ints (List.cons.inj (List.cons.inj e).2).1
    subst e1 e2
    obtain ⟨b1, w1⟩ := My.w_int w
    obtain ⟨_, b2, _⟩ := My.w_ints w1
    refine os_list (ys := PyMd04.count _ _) ?_
  · rw [← My.all_ kInv b1 b2]; rfl
#print axioms PySem.Challenge.cw_byterows_s05_count_holds
