import PyProof.Rows.All
import KE.OsGo
import KE.OsArgs
import PySem.Challenge.RW_byterows_s07_place
open PySem PySem.W PyProof.Rows
set_option Elab.async false
namespace My
/-- A whole number as a byte. -/
abbrev u8 (z : Int) : UInt8 := UInt8.ofNat z.toNat
theorem u8_toNat {z : Int} (h0 : 0 ≤ z) (h1 : z ≤ 255) : (u8 z).toNat = z.toNat := by
  show (UInt8.ofNat z.toNat).toNat = z.toNat
  rw [UInt8.toNat_ofNat']
  omega
theorem u8_inj {a b : Int} (ha : 0 ≤ a ∧ a ≤ 255) (hb : 0 ≤ b ∧ b ≤ 255) (e : u8 a = u8 b) : a = b := by
  have := congrArg UInt8.toNat e
  rw [u8_toNat ha.1 ha.2, u8_toNat hb.1 hb.2] at this
  omega
theorem u8_lt {a b : Int} (ha : 0 ≤ a ∧ a ≤ 255) (hb : 0 ≤ b ∧ b ≤ 255) : u8 a < u8 b ↔ a < b := by
  rw [UInt8.lt_iff_toNat_lt, u8_toNat ha.1 ha.2, u8_toNat hb.1 hb.2]
  omega
/-- bytes -/
abbrev Row (xs : List Int) : Prop := ∀ x ∈ xs, (0 : Int) ≤ x ∧ x ≤ 255
theorem Row.tail {x : Int} {xs : List Int} (h : Row (x :: xs)) : Row xs := fun y hy => h y (List.mem_cons_of_mem _ hy)
theorem Row.head {x : Int} {xs : List Int} (h : Row (x :: xs)) : (0 : Int) ≤ x ∧ x ≤ 255 := h x (List.mem_cons_self ..)
theorem Row.drop {xs : List Int} (h : Row xs) (k : Nat) : Row (xs.drop k) := fun y hy => h y (List.mem_of_mem_drop hy)
theorem Row.take {xs : List Int} (h : Row xs) (k : Nat) : Row (xs.take k) := fun y hy => h y (List.mem_of_mem_take hy)
abbrev by_ := Md04Neutral.by_
theorem by_length (xs : List Int) : (by_ xs).length = xs.length := List.length_map ..
theorem by_append (xs ys : List Int) : by_ (xs ++ ys) = by_ xs ++ by_ ys := List.map_append ..
theorem by_drop (xs : List Int) (k : Nat) : by_ (xs.drop k) = (by_ xs).drop k := List.map_drop ..
theorem by_take (xs : List Int) (k : Nat) : by_ (xs.take k) = (by_ xs).take k := List.map_take ..
theorem by_inj : ∀ {a b : List Int}, Row a → Row b → by_ a = by_ b → a = b
  | [], [], _, _, _ => rfl
  | [], _ :: _, _, _, e => by cases e
  | _ :: _, [], _, _, e => by cases e
  | x :: a, y :: b, ha, hb, e => by
    have e' := List.cons.inj e
    rw [u8_inj ha.head hb.head e'.1, by_inj ha.tail hb.tail e'.2]
/-- back again -/
theorem by_back : ∀ {xs : List Int}, Row xs → (by_ xs).map (fun (b : UInt8) => (b.toNat : Int)) = xs
  | [], _ => rfl
  | x :: r, h => by
    show ((u8 x).toNat : Int) :: _ = x :: r
    have e := by_back h.tail
    unfold by_ Md04Neutral.by_ at e
    rw [e, u8_toNat h.head.1 h.head.2]
    congr 1
    have := h.head
    omega
/-! ### place -/
/-- q stands at i among p's -/
def Stands (q p : List Int) (i : Nat) : Prop := i + q.length ≤ p.length ∧ ∀ j : Nat, j < q.length → p.getD (i + j) 0 = q.getD j 0
theorem take_drop_iff {q p : List Int} {i : Nat} : (p.drop i).take q.length = q ↔ Stands q p i ∨ (q = []) := by
  constructor
  · intro e
    by_cases hq : q = []
    · exact Or.inr hq
    · left
      have hl := congrArg List.length e
      rw [List.length_take, List.length_drop] at hl
      have hpos : 0 < q.length := List.length_pos_iff.mpr hq
      refine ⟨by omega, fun j hj => ?_⟩
      have e2 : ((p.drop i).take q.length).getD j 0 = q.getD j 0 := by rw [e]
      rw [← e2]
      simp [List.getD, hj]
  · rintro (⟨h1, h2⟩ | rfl)
    · apply List.ext_getElem
      · rw [List.length_take, List.length_drop]; omega
      · intro j h3 h4
        have := h2 j h4
        rw [List.getElem_take, List.getElem_drop]
        simp only [List.getD_eq_getElem?_getD] at this
        rw [List.getElem?_eq_getElem (by omega), List.getElem?_eq_getElem h4] at this
        simpa using this
    · simp
theorem stands_by {q p : List Int} (hq : Row q) (hp : Row p) (i : Nat) : (Md04.stands (by_ q) (by_ p) i = true) ↔ (Stands q p i ∨ q = []) := by
  unfold Md04.stands
  rw [beq_iff_eq, by_length, ← by_drop, ← by_take, ← take_drop_iff]
  constructor
  · intro e
    exact by_inj ((hp.drop i).take _) hq e
  · intro e
    rw [e]
theorem find_first {f : Nat → Bool} : ∀ (n k : Nat), k < n → f k = true → (∀ i, i < k → f i = false) → (List.range n).find? f = some k := by
  intro n k hk hf h
  rw [List.find?_eq_some_iff_getElem]
  refine ⟨hf, k, by simpa using hk, by simp, fun j hj => by simp [h j hj]⟩
theorem find_none {f : Nat → Bool} {n : Nat} (h : ∀ i, i < n → f i = false) : (List.range n).find? f = none := by
  rw [List.find?_eq_none]
  intro x hx
  simp [h x (List.mem_range.mp hx)]
theorem place_nil (p : List Int) : Md04.place (by_ []) (by_ p) = 0 := by
  unfold Md04.place
  rw [find_first _ 0 (Nat.succ_pos _) (by simp [Md04.stands, by_, Md04Neutral.by_]) (fun i hi => absurd hi (Nat.not_lt_zero _))]
  rfl
theorem place_at {q p : List Int} (hq : Row q) (hp : Row p) (hne : q ≠ []) {k : Nat} (h : Stands q p k) (hn : ∀ i : Nat, i < k → ¬ Stands q p i) : Md04.place (by_ q) (by_ p) = k := by
  unfold Md04.place
  rw [find_first _ k (by rw [by_length]; have := h.1; omega) ((stands_by hq hp k).mpr (Or.inl h)) (fun i hi => ?_)]
  · rfl
  · rw [Bool.eq_false_iff]
    intro e
    rcases (stands_by hq hp i).mp e with e | e
    · exact hn i hi e
    · exact hne e
theorem place_none {q p : List Int} (hq : Row q) (hp : Row p) (hne : q ≠ []) (hn : ∀ i : Nat, i + q.length ≤ p.length → ¬ Stands q p i) : Md04.place (by_ q) (by_ p) = p.length := by
  unfold Md04.place
  rw [find_none (fun i hi => ?_)]
  · exact by_length p
  · rw [Bool.eq_false_iff]
    intro e
    rcases (stands_by hq hp i).mp e with e | e
    · exact hn i e.1 e
    · exact hne e
end My
namespace My
open PySem PySem.W
theorem w_int {lo hi : Int} {cs : List Codec} {a : Int} {r : Codec.denoteAll cs} (h : Codec.withinAll (.int lo hi :: cs) (a, r) = true) : (lo ≤ a ∧ a ≤ hi) ∧ Codec.withinAll cs r = true := by
  have h1 : (Codec.inInt lo hi a && Codec.withinAll cs r) = true := h
  rw [Bool.and_eq_true] at h1
  have h2 := h1.1
  unfold Codec.inInt at h2
  rw [Bool.and_eq_true, decide_eq_true_eq, decide_eq_true_eq] at h2
  exact ⟨h2, h1.2⟩
theorem w_ints {l m : Nat} {lo hi : Int} {cs : List Codec} {a : List Int} {r : Codec.denoteAll cs} (h : Codec.withinAll (.list l m (.int lo hi) :: cs) (a, r) = true) :
    (l ≤ a.length ∧ a.length ≤ m) ∧ (∀ x ∈ a, lo ≤ x ∧ x ≤ hi) ∧ Codec.withinAll cs r = true := by
  have h1 : (Codec.inList l m (Codec.inInt lo hi) a && Codec.withinAll cs r) = true := h
  rw [Bool.and_eq_true] at h1
  have h2 := h1.1
  unfold Codec.inList at h2
  rw [Bool.and_eq_true, List.all_eq_true] at h2
  have h4 := h2.1
  unfold Codec.inLen Codec.inNat at h4
  rw [Bool.and_eq_true, decide_eq_true_eq, decide_eq_true_eq] at h4
  refine ⟨h4, fun x hx => ?_, h1.2⟩
  have h3 := h2.2 x hx
  unfold Codec.inInt at h3
  rw [Bool.and_eq_true, decide_eq_true_eq, decide_eq_true_eq] at h3
  exact h3
end My
namespace My
theorem item_in {xs : List Int} {lo hi : Int} (h : ∀ x ∈ xs, lo ≤ x ∧ x ≤ hi) {i : Nat} (hi' : i < xs.length) : lo ≤ xs.getD i 0 ∧ xs.getD i 0 ≤ hi := by
  have e : xs.getD i 0 = xs[i] := by simp [List.getD, hi']
  rw [e]
  exact h _ (List.getElem_mem hi')
end My
namespace My
theorem said : PySem.Challenge.rw_byterows_s07_place.wellSaid = true := by decide +kernel
structure Bounds (qs xs : List Int) : Prop where
  q : Row qs
  row : Row xs
  ql : qs.length ≤ 4096
  rl : xs.length ≤ 4096
theorem bounds {qs xs : List Int} (h : PySem.Challenge.rw_byterows_s07_place.pre [ofPy (PyData.list (qs.map PyData.int)), ofPy (PyData.list (xs.map PyData.int))] = true) : Bounds qs xs := by
  obtain ⟨a, w, q, e⟩ := os_pre said h
  obtain ⟨d, ys, u⟩ := a
  have e1 := os_j_ints (List.cons.inj e).1
  have e2 := os_j_ints (List.cons.inj (List.cons.inj e).2).1
  subst e1 e2
  obtain ⟨b1, b2, w1⟩ := w_ints w
  obtain ⟨b4, b3, _⟩ := w_ints w1
  exact ⟨b2, b3, b1.2, b4.2⟩
structure Told (qs xs : List Int) (pre : List Int) : Prop where
  no : ∀ i : Nat, i < pre.length → ¬ Stands qs xs i
theorem start {ss xs : List Int} : Told ss xs [] := ⟨fun _ h => absurd h (Nat.not_lt_zero _)⟩
abbrev W {ss xs : List Int} (_ : Bounds ss xs) (pre : List Int) : Prop := Told ss xs pre
theorem lenq {qs xs : List Int} {vs : List Value} (_ : Bounds qs xs) (h : IntsAre vs qs) : vs.length = qs.length := IntsAre.length h
theorem sizeq {qs xs : List Int} {vs : List Value} (_ : Bounds qs xs) (h : IntsAre vs qs) : vs.toArray.size = qs.length := by rw [List.size_toArray]; exact IntsAre.length h
theorem sizep {qs xs : List Int} {vs : List Value} (_ : Bounds qs xs) (h : IntsAre vs xs) : vs.toArray.size = xs.length := by rw [List.size_toArray]; exact IntsAre.length h
/-- the part of p that is compared -/
abbrev cut (qs xs : List Int) (k : Int) : List Int := List.take (min (k + (qs.length : Int)).toNat xs.length - k.toNat) (List.drop k.toNat xs)
theorem cut_eq {qs xs : List Int} {k : Int} {n : Nat} (hk : k = 0 + (n : Int)) (hl : (n : Int) + qs.length ≤ xs.length) : cut qs xs k = (xs.drop n).take qs.length := by
  have e : k.toNat = n := by omega
  have e2 : min (k + (qs.length : Int)).toNat xs.length - k.toNat = qs.length := by omega
  unfold cut
  rw [e2, e]
theorem stands_nil (xs : List Int) {i : Nat} (h : i ≤ xs.length) : Stands [] xs i := ⟨by simpa using h, fun j hj => absurd hj (Nat.not_lt_zero _)⟩
theorem turn {qs xs pre : List Int} {k : Int} (T : Told qs xs pre) (hk : k = 0 + (pre.length : Int)) (h : ¬ cut qs xs k = qs) (hl : (pre.length : Int) + qs.length ≤ xs.length) : Told qs xs (pre ++ [k]) := by
  refine ⟨fun i hi S => ?_⟩
  have l : (pre ++ [k]).length = pre.length + 1 := by simp
  by_cases h1 : i < pre.length
  · exact T.no i h1 S
  · have : i = pre.length := by omega
    subst this
    rw [cut_eq hk hl] at h
    exact h (take_drop_iff.mpr (Or.inl S))
theorem due {qs xs : List Int} : PyMd04.place qs xs = [((Md04.place (by_ qs) (by_ xs) : Nat) : Int)] := rfl
theorem found {qs xs pre : List Int} {k : Int} (B : Bounds qs xs) (T : Told qs xs pre) (hk : k = 0 + (pre.length : Int)) (h : cut qs xs k = qs) (hl : (pre.length : Int) + qs.length ≤ xs.length) : PyMd04.place qs xs = [k] := by
  rw [cut_eq hk hl] at h
  rw [due]
  by_cases hq : qs = []
  · subst hq
    have : pre.length = 0 := by
      rcases Nat.eq_zero_or_pos pre.length with e | e
      · exact e
      · exact absurd (stands_nil xs (Nat.zero_le _)) (T.no 0 e)
    rw [place_nil]
    congr 1
    omega
  · have S : Stands qs xs pre.length := (take_drop_iff.mp h).resolve_right hq
    rw [place_at B.q B.row hq S T.no]
    congr 1
    omega
theorem none_ {qs xs : List Int} {m : Nat} (B : Bounds qs xs) (T : Told qs xs (rangeKs 0 m)) (hm : m = ((xs.length : Int) - (qs.length : Int) + 1).toNat) : PyMd04.place qs xs = [(xs.length : Int)] := by
  rw [due]
  have l : (rangeKs 0 m).length = m := rangeKs_length ..
  by_cases hq : qs = []
  · subst hq
    exact absurd (stands_nil xs (Nat.zero_le _)) (T.no 0 (by rw [l, hm]; simp))
  · rw [place_none B.q B.row hq (fun i hi => T.no i (by omega))]
end My
set_option maxRecDepth 100000 in
set_option maxHeartbeats 8000000 in
theorem PySem.Challenge.cw_byterows_s07_place_holds : PySem.Challenge.rw_byterows_s07_place.Holds := by
  k_with "state" => first
    | exact My.start
    | exact My.turn (by assumption) (by assumption) (by assumption) (by omega)
  k_with "pyIter ref" => ( (with_reducible show wpAny _ _ (pyIter (Value.ref _)) (fun it s₂ => LoopAtV _ _ _ _ _ _ _ _ _ it s₂) _ _); k_here; (have hb := My.bounds (by assumption)); (have hlq := My.lenq hb (by assumption)); (have hlz := My.sizeq hb (by assumption)); (have hlp := My.sizep hb (by assumption)); (have hl1 := hb.ql); (have hl2 := hb.rl); (rename PyProof.Rows.Fr _ _ _ _ => lF'); (rename PyProof.Rows.News _ _ _ _ => lN'); (rename IsRange _ _ _ _ _ _ _ _ => rgX); (with_unfolding_all refine' kst_range (σ := Unit) (fun _ => []) (fun _ => []) (fun _ => True) [] (fun pre _ => My.W hb pre) () (by rfl) rgX (by first | exact small_one (by omega) (by omega) (by omega) (by omega) | exact small_one (by l_bnd) (by l_bnd) (by l_bnd) (by l_bnd) | decide) (by first | exact rangeSize_nat _ _ | rfl) lF' lN' True.intro (List.forall_mem_nil _) My.start (fun kC kPre kN kT kU kH kTk kOwn kEq kLt kOff kFacts kInv kFr kNews => ?_) (fun kC kU kH kTk kFacts kInv kFr kNews => ?_)); (all_goals (have kMark := kstMark; (try dsimp only [kstB] at kFr); (try simp only [List.nil_append] at kNews); (try dsimp only at kOff); (try simp only [List.map_nil] at kOff); clear lF' lN'; (try (have kB := len_ints_list (by lay_of))); (try k_fold))))
  w_on; k_headS; (case hw => exact ⟨[.list [], .list []], by decide +kernel, by decide +kernel⟩)
  w_strict k_goS
  all_goals
    have B := hb
    os_open My.said with a w q e
    obtain ⟨d, ys, u⟩ := a
    have e1 := os_j_ints (List.cons.inj e).1
    have e2 := os_j_ints (List.cons.inj (List.cons.inj e).2).1
    subst e1 e2
    refine os_list (ys := PyMd04.place _ _) ?_
  · rw [My.found B kInv kEq (by assumption) (by omega)]; rfl
  · rw [My.none_ B kInv (by omega)]; rfl
#print axioms PySem.Challenge.cw_byterows_s07_place_holds
