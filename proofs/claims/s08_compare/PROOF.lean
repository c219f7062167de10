import PyProof.Rows.All
import KE.OsGo
import KE.OsArgs
import PySem.Challenge.RW_byterows_s08_compare
open PySem PySem.W PyProof.Rows
set_option Elab.async false
namespace My
/-- A whole number as a byte. -/
abbrev u8 (z : Int) : UInt8 := UInt8.ofNat z.toNat
theorem u8_toNat {z : Int} (h0 : 0 ≤ z) (h1 : z ≤ 255) : (u8 z).toNat = z.toNat := by
  show (UInt8.ofNat z.toNat).toNat = z.toNat
  rw [UInt8.toNat_ofNat']
  omega
theorem u8_inj {a b : Int} (ha : 0 ≤ a ∧ a ≤ 255) (hb : 0 ≤ b ∧ b ≤ 255) (e : u8 a = u8 b) : a = b := by
  have := congrArg UInt8.toNat e
  rw [u8_toNat ha.1 ha.2, u8_toNat hb.1 hb.2] at this
  omega
theorem u8_lt {a b : Int} (ha : 0 ≤ a ∧ a ≤ 255) (hb : 0 ≤ b ∧ b ≤ 255) : u8 a < u8 b ↔ a < b := by
  rw [UInt8.lt_iff_toNat_lt, u8_toNat ha.1 ha.2, u8_toNat hb.1 hb.2]
  omega
/-- bytes -/
abbrev Row (xs : List Int) : Prop := ∀ x ∈ xs, (0 : Int) ≤ x ∧ x ≤ 255
theorem Row.tail {x : Int} {xs : List Int} (h : Row (x :: xs)) : Row xs := fun y hy => h y (List.mem_cons_of_mem _ hy)
theorem Row.head {x : Int} {xs : List Int} (h : Row (x :: xs)) : (0 : Int) ≤ x ∧ x ≤ 255 := h x (List.mem_cons_self ..)
theorem Row.drop {xs : List Int} (h : Row xs) (k : Nat) : Row (xs.drop k) := fun y hy => h y (List.mem_of_mem_drop hy)
theorem Row.take {xs : List Int} (h : Row xs) (k : Nat) : Row (xs.take k) := fun y hy => h y (List.mem_of_mem_take hy)
abbrev by_ := Md04Neutral.by_
theorem by_length (xs : List Int) : (by_ xs).length = xs.length := List.length_map ..
theorem by_append (xs ys : List Int) : by_ (xs ++ ys) = by_ xs ++ by_ ys := List.map_append ..
theorem by_drop (xs : List Int) (k : Nat) : by_ (xs.drop k) = (by_ xs).drop k := List.map_drop ..
theorem by_take (xs : List Int) (k : Nat) : by_ (xs.take k) = (by_ xs).take k := List.map_take ..
theorem by_inj : ∀ {a b : List Int}, Row a → Row b → by_ a = by_ b → a = b
  | [], [], _, _, _ => rfl
  | [], _ :: _, _, _, e => by cases e
  | _ :: _, [], _, _, e => by cases e
  | x :: a, y :: b, ha, hb, e => by
    have e' := List.cons.inj e
    rw [u8_inj ha.head hb.head e'.1, by_inj ha.tail hb.tail e'.2]
/-- back again -/
theorem by_back : ∀ {xs : List Int}, Row xs → (by_ xs).map (fun (b : UInt8) => (b.toNat : Int)) = xs
  | [], _ => rfl
  | x :: r, h => by
    show ((u8 x).toNat : Int) :: _ = x :: r
    have e := by_back h.tail
    unfold by_ Md04Neutral.by_ at e
    rw [e, u8_toNat h.head.1 h.head.2]
    congr 1
    have := h.head
    omega
/-! ### count -/
theorem count_by {c : Int} (hc : 0 ≤ c ∧ c ≤ 255) : ∀ {xs : List Int}, Row xs → (by_ xs).count (u8 c) = xs.count c
  | [], _ => rfl
  | x :: r, h => by
    show (u8 x :: by_ r).count (u8 c) = (x :: r).count c
    rw [List.count_cons, List.count_cons, count_by hc h.tail]
    by_cases e : x = c
    · subst e; simp
    · have : u8 x ≠ u8 c := fun e2 => e (u8_inj h.head hc e2)
      simp [e, this]
/-! ### compare -/
def cmp : List Int → List Int → Int
  | [], [] => 0
  | [], _ :: _ => -1
  | _ :: _, [] => 1
  | x :: a, y :: b => if x < y then -1 else if y < x then 1 else cmp a b
theorem cmp_by : ∀ {a b : List Int}, Row a → Row b → Md04.compare_ (by_ a) (by_ b) = cmp a b
  | [], [], _, _ => rfl
  | [], _ :: _, _, _ => rfl
  | _ :: _, [], _, _ => rfl
  | x :: a, y :: b, ha, hb => by
    show (if u8 x < u8 y then _ else if u8 y < u8 x then _ else Md04.compare_ (by_ a) (by_ b)) = if x < y then _ else if y < x then _ else cmp a b
    rw [cmp_by ha.tail hb.tail]
    simp only [u8_lt ha.head hb.head, u8_lt hb.head ha.head]
theorem cmp_drop : ∀ (a b : List Int) (k : Nat), k ≤ a.length → k ≤ b.length → (∀ j : Nat, j < k → a.getD j 0 = b.getD j 0) → cmp a b = cmp (a.drop k) (b.drop k)
  | a, b, 0, _, _, _ => rfl
  | [], _, k + 1, h, _, _ => by simp at h
  | _ :: _, [], k + 1, _, h, _ => by simp at h
  | x :: a, y :: b, k + 1, h1, h2, h => by
    have e : x = y := by simpa using h 0 (Nat.succ_pos k)
    subst e
    show (if x < x then _ else if x < x then _ else cmp a b) = cmp (a.drop k) (b.drop k)
    rw [if_neg (Int.lt_irrefl x), if_neg (Int.lt_irrefl x)]
    exact cmp_drop a b k (by simpa using h1) (by simpa using h2) (fun j hj => by simpa using h (j + 1) (by omega))
theorem drop_cons {a : List Int} {k : Nat} (h : k < a.length) : a.drop k = a.getD k 0 :: a.drop (k + 1) := by
  rw [List.drop_eq_getElem_cons h]
  congr 1
  simp [List.getD, h]
/-- the first place where they differ -/
theorem cmp_at {a b : List Int} {k : Nat} (h1 : k < a.length) (h2 : k < b.length) (h : ∀ j : Nat, j < k → a.getD j 0 = b.getD j 0) (hne : a.getD k 0 ≠ b.getD k 0) :
    cmp a b = if a.getD k 0 < b.getD k 0 then -1 else 1 := by
  rw [cmp_drop a b k (by omega) (by omega) h, drop_cons h1, drop_cons h2]
  show (if _ < _ then _ else if _ < _ then _ else _) = _
  split
  · rfl
  · rw [if_pos (by omega)]
/-- one is the other's beginning -/
theorem cmp_end {a b : List Int} {k : Nat} (h1 : k ≤ a.length) (h2 : k ≤ b.length) (h : ∀ j : Nat, j < k → a.getD j 0 = b.getD j 0) (hk : k = a.length ∨ k = b.length) :
    cmp a b = if a.length < b.length then -1 else if b.length < a.length then 1 else 0 := by
  rw [cmp_drop a b k h1 h2 h]
  rcases hk with e | e
  · subst e
    rw [List.drop_of_length_le (Nat.le_refl _)]
    by_cases hl : a.length < b.length
    · rw [if_pos hl, drop_cons hl]; rfl
    · rw [if_neg hl, if_neg (by omega), List.drop_of_length_le (by omega)]; rfl
  · subst e
    rw [List.drop_of_length_le (i := b.length) (l := b) (Nat.le_refl _)]
    by_cases hl : b.length < a.length
    · rw [if_neg (by omega), if_pos hl, drop_cons hl]; rfl
    · rw [if_neg (by omega), if_neg hl, List.drop_of_length_le (by omega)]; rfl
end My
namespace My
open PySem PySem.W
theorem w_int {lo hi : Int} {cs : List Codec} {a : Int} {r : Codec.denoteAll cs} (h : Codec.withinAll (.int lo hi :: cs) (a, r) = true) : (lo ≤ a ∧ a ≤ hi) ∧ Codec.withinAll cs r = true := by
  have h1 : (Codec.inInt lo hi a && Codec.withinAll cs r) = true := h
  rw [Bool.and_eq_true] at h1
  have h2 := h1.1
  unfold Codec.inInt at h2
  rw [Bool.and_eq_true, decide_eq_true_eq, decide_eq_true_eq] at h2
  exact ⟨h2, h1.2⟩
theorem w_ints {l m : Nat} {lo hi : Int} {cs : List Codec} {a : List Int} {r : Codec.denoteAll cs} (h : Codec.withinAll (.list l m (.int lo hi) :: cs) (a, r) = true) :
    (l ≤ a.length ∧ a.length ≤ m) ∧ (∀ x ∈ a, lo ≤ x ∧ x ≤ hi) ∧ Codec.withinAll cs r = true := by
  have h1 : (Codec.inList l m (Codec.inInt lo hi) a && Codec.withinAll cs r) = true := h
  rw [Bool.and_eq_true] at h1
  have h2 := h1.1
  unfold Codec.inList at h2
  rw [Bool.and_eq_true, List.all_eq_true] at h2
  have h4 := h2.1
  unfold Codec.inLen Codec.inNat at h4
  rw [Bool.and_eq_true, decide_eq_true_eq, decide_eq_true_eq] at h4
  refine ⟨h4, fun x hx => ?_, h1.2⟩
  have h3 := h2.2 x hx
  unfold Codec.inInt at h3
  rw [Bool.and_eq_true, decide_eq_true_eq, decide_eq_true_eq] at h3
  exact h3
end My
namespace My
theorem item_in {xs : List Int} {lo hi : Int} (h : ∀ x ∈ xs, lo ≤ x ∧ x ≤ hi) {i : Nat} (hi' : i < xs.length) : lo ≤ xs.getD i 0 ∧ xs.getD i 0 ≤ hi := by
  have e : xs.getD i 0 = xs[i] := by simp [List.getD, hi']
  rw [e]
  exact h _ (List.getElem_mem hi')
end My
namespace My
theorem said : PySem.Challenge.rw_byterows_s08_compare.wellSaid = true := by decide +kernel
structure Bounds (qs xs : List Int) : Prop where
  q : Row qs
  row : Row xs
theorem bounds {qs xs : List Int} (h : PySem.Challenge.rw_byterows_s08_compare.pre [ofPy (PyData.list (qs.map PyData.int)), ofPy (PyData.list (xs.map PyData.int))] = true) : Bounds qs xs := by
  obtain ⟨a, w, q, e⟩ := os_pre said h
  obtain ⟨d, ys, u⟩ := a
  have e1 := os_j_ints (List.cons.inj e).1
  have e2 := os_j_ints (List.cons.inj (List.cons.inj e).2).1
  subst e1 e2
  obtain ⟨b1, b2, w1⟩ := w_ints w
  obtain ⟨_, b3, _⟩ := w_ints w1
  exact ⟨b2, b3⟩
structure Told (qs xs : List Int) (pre : List Int) : Prop where
  no : ∀ i : Nat, i < pre.length → xs.getD i 0 = qs.getD i 0
theorem start {ss xs : List Int} : Told ss xs [] := ⟨fun _ h => absurd h (Nat.not_lt_zero _)⟩
abbrev W {ss xs : List Int} (_ : Bounds ss xs) (pre : List Int) : Prop := Told ss xs pre
theorem turn {ss xs pre : List Int} {k : Int} (T : Told ss xs pre) (hk : k = 0 + (pre.length : Int)) (h : ¬ xs.getD k.toNat 0 < ss.getD k.toNat 0) (h' : ¬ ss.getD k.toNat 0 < xs.getD k.toNat 0) : Told ss xs (pre ++ [k]) := by
  refine ⟨fun i hi => ?_⟩
  have l : (pre ++ [k]).length = pre.length + 1 := by simp
  by_cases h1 : i < pre.length
  · exact T.no i h1
  · have : i = k.toNat := by omega
    rw [this]; omega
theorem lenq {qs xs : List Int} {vs : List Value} (_ : Bounds qs xs) (h : IntsAre vs qs) : vs.length = qs.length := IntsAre.length h
theorem sizeq {qs xs : List Int} {vs : List Value} (_ : Bounds qs xs) (h : IntsAre vs qs) : vs.toArray.size = qs.length := by rw [List.size_toArray]; exact IntsAre.length h
theorem sizep {qs xs : List Int} {vs : List Value} (_ : Bounds qs xs) (h : IntsAre vs xs) : vs.toArray.size = xs.length := by rw [List.size_toArray]; exact IntsAre.length h
theorem both {qs xs : List Int} {n a b : Nat} (_ : Bounds qs xs) (h : n < ((if (a : Int) < (b : Int) then (a : Int) else (b : Int)) - 0).toNat) : n < a ∧ n < b := by
  split at h <;> omega
theorem least {qs xs : List Int} {a b : Nat} (_ : Bounds qs xs) (ea : a = xs.length) (eb : b = qs.length) : ((if (a : Int) < (b : Int) then (a : Int) else (b : Int)) - 0).toNat = min qs.length xs.length := by
  split <;> omega
theorem due {qs xs : List Int} (B : Bounds qs xs) : PyMd04.compare qs xs = [cmp xs qs] := by
  show [Md04.compare_ (by_ xs) (by_ qs)] = _
  rw [cmp_by B.row B.q]
theorem less {qs xs pre : List Int} {k : Int} (B : Bounds qs xs) (T : Told qs xs pre) (hk : k = 0 + (pre.length : Int)) (h1 : (pre.length : Int) < xs.length) (h2 : (pre.length : Int) < qs.length)
    (h : xs.getD k.toNat 0 < qs.getD k.toNat 0) : PyMd04.compare qs xs = [-1] := by
  have e : k.toNat = pre.length := by omega
  rw [due B, cmp_at (k := k.toNat) (by omega) (by omega) (fun j hj => T.no j (by omega)) (by omega), if_pos h]
theorem more {qs xs pre : List Int} {k : Int} (B : Bounds qs xs) (T : Told qs xs pre) (hk : k = 0 + (pre.length : Int)) (h1 : (pre.length : Int) < xs.length) (h2 : (pre.length : Int) < qs.length)
    (h : qs.getD k.toNat 0 < xs.getD k.toNat 0) : PyMd04.compare qs xs = [1] := by
  have e : k.toNat = pre.length := by omega
  rw [due B, cmp_at (k := k.toNat) (by omega) (by omega) (fun j hj => T.no j (by omega)) (by omega), if_neg (by omega)]
theorem rest {qs xs : List Int} {m : Nat} (B : Bounds qs xs) (T : Told qs xs (rangeKs 0 m)) (hm : m = min qs.length xs.length) :
    PyMd04.compare qs xs = [if xs.length < qs.length then -1 else if qs.length < xs.length then 1 else 0] := by
  rw [due B, cmp_end (k := m) (by omega) (by omega) (fun j hj => T.no j (by rw [rangeKs_length]; exact hj)) (by omega)]
end My
set_option maxRecDepth 100000 in
set_option maxHeartbeats 8000000 in
theorem PySem.Challenge.cw_byterows_s08_compare_holds : PySem.Challenge.rw_byterows_s08_compare.Holds := by
  k_with "state" => first
    | exact My.start
    | exact My.turn (by assumption) (by assumption) (by assumption) (by assumption)
  k_with "pyIter ref" => (
    (with_reducible show wpAny _ _ (pyIter (Value.ref _)) (fun it s₂ => LoopAtV _ _ _ _ _ _ _ _ _ it s₂) _ _); k_here;
    (have hb := My.bounds (by assumption)); (have hlq := My.lenq hb (by assumption)); (have hlz := My.sizeq hb (by assumption)); (have hlp := My.sizep hb (by assumption));
    (rename PyProof.Rows.Fr _ _ _ _ => lF'); (rename PyProof.Rows.News _ _ _ _ => lN'); (rename IsRange _ _ _ _ _ _ _ _ => rgX);
    (with_unfolding_all refine' kst_range (σ := Unit) (fun _ => []) (fun _ => []) (fun _ => True) [] (fun pre _ => My.W hb pre) () (by rfl) rgX (by first | exact small_one (by omega) (by omega) (by omega) (by omega) | exact small_one (by l_bnd) (by l_bnd) (by l_bnd) (by l_bnd) | decide) (by first | exact rangeSize_nat _ _ | rfl) lF' lN' True.intro (List.forall_mem_nil _) My.start (fun kC kPre kN kT kU kH kTk kOwn kEq kLt kOff kFacts kInv kFr kNews => ?_) (fun kC kU kH kTk kFacts kInv kFr kNews => ?_));
    (all_goals (have kMark := kstMark; (try dsimp only [kstB] at kFr); (try simp only [List.nil_append] at kNews); (try dsimp only at kOff); (try simp only [List.map_nil] at kOff); clear lF' lN'; (try (have kB := len_ints_list (by lay_of))); (try (have hk2 := My.both hb kLt; have hk3 := hk2.1; have hk4 := hk2.2)); (try k_fold))))
  w_on; k_headS; (case hw => exact ⟨[.list [], .list []], by decide +kernel, by decide +kernel⟩)
  w_strict k_goS
  all_goals
    have B := hb
    os_open My.said with a w q e
    obtain ⟨d, ys, u⟩ := a
    have e1 := os_j_ints (List.cons.inj e).1
    have e2 := os_j_ints (List.cons.inj (List.cons.inj e).2).1
    subst e1 e2
    refine os_list (ys := PyMd04.compare _ _) ?_
  · rw [My.less B kInv kEq (by omega) (by omega) (by assumption)]; rfl
  · rw [My.more B kInv kEq (by omega) (by omega) (by assumption)]; rfl
  · rw [My.rest B kInv (My.least B (by omega) (by omega)), if_pos (by omega)]; rfl
  · rw [My.rest B kInv (My.least B (by omega) (by omega)), if_neg (by omega), if_pos (by omega)]; rfl
  · rw [My.rest B kInv (My.least B (by omega) (by omega)), if_neg (by omega), if_neg (by omega)]; rfl
#print axioms PySem.Challenge.cw_byterows_s08_compare_holds
