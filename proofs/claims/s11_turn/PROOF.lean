import PyProof.Rows.All
import KE.OsGo
import KE.OsArgs
import PySem.Challenge.RW_byterows_s11_turn
set_option Elab.async false
namespace My
/-- A whole number as a byte. -/
abbrev u8 (z : Int) : UInt8 := UInt8.ofNat z.toNat
theorem u8_toNat {z : Int} (h0 : 0 ≤ z) (h1 : z ≤ 255) : (u8 z).toNat = z.toNat := by
  show (UInt8.ofNat z.toNat).toNat = z.toNat
  rw [UInt8.toNat_ofNat']
  omega
theorem u8_inj {a b : Int} (ha : 0 ≤ a ∧ a ≤ 255) (hb : 0 ≤ b ∧ b ≤ 255) (e : u8 a = u8 b) : a = b := by
  have := congrArg UInt8.toNat e
  rw [u8_toNat ha.1 ha.2, u8_toNat hb.1 hb.2] at this
  omega
theorem u8_lt {a b : Int} (ha : 0 ≤ a ∧ a ≤ 255) (hb : 0 ≤ b ∧ b ≤ 255) : u8 a < u8 b ↔ a < b := by
  rw [UInt8.lt_iff_toNat_lt, u8_toNat ha.1 ha.2, u8_toNat hb.1 hb.2]
  omega
/-- bytes -/
abbrev Row (xs : List Int) : Prop := ∀ x ∈ xs, (0 : Int) ≤ x ∧ x ≤ 255
theorem Row.tail {x : Int} {xs : List Int} (h : Row (x :: xs)) : Row xs := fun y hy => h y (List.mem_cons_of_mem _ hy)
theorem Row.head {x : Int} {xs : List Int} (h : Row (x :: xs)) : (0 : Int) ≤ x ∧ x ≤ 255 := h x (List.mem_cons_self ..)
theorem Row.drop {xs : List Int} (h : Row xs) (k : Nat) : Row (xs.drop k) := fun y hy => h y (List.mem_of_mem_drop hy)
theorem Row.take {xs : List Int} (h : Row xs) (k : Nat) : Row (xs.take k) := fun y hy => h y (List.mem_of_mem_take hy)
abbrev by_ := Md04Neutral.by_
theorem by_length (xs : List Int) : (by_ xs).length = xs.length := List.length_map ..
theorem by_append (xs ys : List Int) : by_ (xs ++ ys) = by_ xs ++ by_ ys := List.map_append ..
theorem by_drop (xs : List Int) (k : Nat) : by_ (xs.drop k) = (by_ xs).drop k := List.map_drop ..
theorem by_take (xs : List Int) (k : Nat) : by_ (xs.take k) = (by_ xs).take k := List.map_take ..
theorem by_inj : ∀ {a b : List Int}, Row a → Row b → by_ a = by_ b → a = b
  | [], [], _, _, _ => rfl
  | [], _ :: _, _, _, e => by cases e
  | _ :: _, [], _, _, e => by cases e
  | x :: a, y :: b, ha, hb, e => by
    have e' := List.cons.inj e
    rw [u8_inj ha.head hb.head e'.1, by_inj ha.tail hb.tail e'.2]
/-- back again -/
theorem by_back : ∀ {xs : List Int}, Row xs → (by_ xs).map (fun (b : UInt8) => (b.toNat : Int)) = xs
  | [], _ => rfl
  | x :: r, h => by
    show ((u8 x).toNat : Int) :: _ = x :: r
    have e := by_back h.tail
    unfold by_ Md04Neutral.by_ at e
    rw [e, u8_toNat h.head.1 h.head.2]
    congr 1
    have := h.head
    omega
/-! ### turn -/
def turned (w : Nat) : Nat → List Int → List Int
  | 0, _ => []
  | k + 1, b => (b.take w).reverse ++ turned w k (b.drop w)
theorem turned_by (w : Nat) : ∀ (k : Nat) {xs : List Int}, Row xs → (Md04.turned w k (by_ xs)).map (fun (b : UInt8) => (b.toNat : Int)) = turned w k xs
  | 0, _, _ => rfl
  | k + 1, xs, h => by
    show (((by_ xs).take w).reverse ++ Md04.turned w k ((by_ xs).drop w)).map _ = (xs.take w).reverse ++ turned w k (xs.drop w)
    rw [List.map_append, ← by_take, ← by_drop, turned_by w k (h.drop w), List.map_reverse, by_back (h.take w)]
theorem turned_snoc (w : Nat) : ∀ (k : Nat) (xs : List Int), turned w (k + 1) xs = turned w k xs ++ ((xs.drop (w * k)).take w).reverse
  | 0, xs => by simp [turned]
  | k + 1, xs => by
    show (xs.take w).reverse ++ turned w (k + 1) (xs.drop w) = ((xs.take w).reverse ++ turned w k (xs.drop w)) ++ _
    rw [turned_snoc w k, List.append_assoc, List.drop_drop, show w + w * k = w * (k + 1) by rw [Nat.mul_succ]; omega]
end My
open PySem PySem.W PyProof.Rows
namespace My
open PySem PySem.W
theorem w_int {lo hi : Int} {cs : List Codec} {a : Int} {r : Codec.denoteAll cs} (h : Codec.withinAll (.int lo hi :: cs) (a, r) = true) : (lo ≤ a ∧ a ≤ hi) ∧ Codec.withinAll cs r = true := by
  have h1 : (Codec.inInt lo hi a && Codec.withinAll cs r) = true := h
  rw [Bool.and_eq_true] at h1
  have h2 := h1.1
  unfold Codec.inInt at h2
  rw [Bool.and_eq_true, decide_eq_true_eq, decide_eq_true_eq] at h2
  exact ⟨h2, h1.2⟩
theorem w_ints {l m : Nat} {lo hi : Int} {cs : List Codec} {a : List Int} {r : Codec.denoteAll cs} (h : Codec.withinAll (.list l m (.int lo hi) :: cs) (a, r) = true) :
    (l ≤ a.length ∧ a.length ≤ m) ∧ (∀ x ∈ a, lo ≤ x ∧ x ≤ hi) ∧ Codec.withinAll cs r = true := by
  have h1 : (Codec.inList l m (Codec.inInt lo hi) a && Codec.withinAll cs r) = true := h
  rw [Bool.and_eq_true] at h1
  have h2 := h1.1
  unfold Codec.inList at h2
  rw [Bool.and_eq_true, List.all_eq_true] at h2
  have h4 := h2.1
  unfold Codec.inLen Codec.inNat at h4
  rw [Bool.and_eq_true, decide_eq_true_eq, decide_eq_true_eq] at h4
  refine ⟨h4, fun x hx => ?_, h1.2⟩
  have h3 := h2.2 x hx
  unfold Codec.inInt at h3
  rw [Bool.and_eq_true, decide_eq_true_eq, decide_eq_true_eq] at h3
  exact h3
end My
namespace My
open PySem PySem.W PySem.Calls PyProof.Rows
section
variable {prog : Program} {w : World} {A : Around} {E : Value → Shared → Prop} {s : Shared} {x y : Int} {t u : Tok} {Q : Value → Shared → Prop}
theorem step_div (hy : 0 < y) (hs : y ≤ 100000) (h : Q (.int (x / y) s.toks) { s with toks := s.toks + 1 }) :
    wpAny (model prog w) A (binaryOp .FloorDiv (.int x t) (.int y u)) Q E s :=
  PyProof.Rows.floordiv_int (by omega) (by rw [Int.fdiv_eq_ediv_of_nonneg x (Int.le_of_lt hy)]; exact h) (Or.inl (PyProof.noPylong_small (by omega)))
theorem step_mod (hy : 0 < y) (h : Q (.int (x % y) s.toks) { s with toks := s.toks + 1 }) :
    wpAny (model prog w) A (binaryOp .Mod (.int x t) (.int y u)) Q E s :=
  PyProof.Rows.mod_int (by omega) (by rw [Int.fmod_eq_emod_of_nonneg x (Int.le_of_lt hy)]; exact h)
end
end My
namespace My
open PySem PySem.W PySem.Calls PyProof.Rows PyProof.V PySem.Spec
theorem said : PySem.Challenge.rw_byterows_s11_turn.wellSaid = true := by decide +kernel
/-! ### a range from 0 by steps -/
def stepKs (c : Int) (n : Nat) : List Int := (List.range n).map fun (i : Nat) => (i : Int) * c
theorem stepKs_length (c : Int) (n : Nat) : (stepKs c n).length = n := by simp [stepKs]
theorem size_steps {b c : Int} (hc : 0 < c) (hb : 0 ≤ b) (hm : b % c = 0) : Builtin.Range.rangeSize 0 b c = ((b / c).toNat : Int) := by
  unfold Builtin.Range.rangeSize
  rw [if_pos hc]
  have hd := Int.mul_ediv_add_emod b c
  have h0 : 0 ≤ b / c := Int.ediv_nonneg hb (Int.le_of_lt hc)
  rw [hm, Int.add_zero] at hd
  generalize b / c = q at hd h0 ⊢
  split
  · have e : (b - 0 - 1) / c = q - 1 := by
      rw [show b - 0 - 1 = (c - 1) + c * (q - 1) by rw [Int.mul_sub, hd]; omega, Int.add_mul_ediv_left _ _ (by omega), Int.ediv_eq_zero_of_lt (by omega) (by omega)]
      omega
    rw [e]
    omega
  · rename_i hn
    have hb0 : b = 0 := by omega
    subst hb0
    have : q = 0 := by
      rcases Int.mul_eq_zero.mp hd with h | h
      · omega
      · exact h
    subst this
    rfl
theorem small_steps {b c : Int} (hc : 0 < c) (hc' : c ≤ 8) (hb : 0 ≤ b) (hb' : b ≤ 5000) (hm : b % c = 0) : Builtin.Range.small 0 b c = true := by
  have h2 : b / c ≤ b := Int.ediv_le_self _ hb
  have h3 : 0 ≤ b / c := Int.ediv_nonneg hb (Int.le_of_lt hc)
  unfold Builtin.Range.small
  rw [size_steps hc hb hm, if_pos hc]
  unfold Builtin.Range.rangeFitsLong
  simp only [Bool.and_eq_true, Bool.or_eq_true, decide_eq_true_eq]
  omega
section
variable {prog : Program} {w : World} {A : Around} {E : Value → Shared → Prop} {s : Shared} {env : Env} {h₀ : Heap} {x : Str} {body : List Stmt} {Q : Flow → Shared → Prop}
theorem grow_steps {r l : Addr} {b c : Int} {t1 t2 t3 : Tok} {n nn : Nat} {vs : List Value} {ns : List Int} {rest : List (Addr × Obj)} {m₀ : Str → Option Value} (stored : List Str) (P : List Int → List Int → Prop)
    (hh : A.handled = none) (hr : IsRange s.heap r 0 b c t1 t2 t3) (hs : Builtin.Range.small 0 b c = true)
    (hn : Builtin.Range.rangeSize 0 b c = (n : Int)) (F : Fr h₀ env.locals s.heap m₀)
    (N : News h₀ env.locals s.heap ((l, listOf vs.toArray nn) :: rest)) (hi : IntsAre vs ns) (hp : P [] ns)
    (turn : ∀ (vs' : List Value) (ns' : List Int) (nn' : Nat) (pre : List Int) (k : Int) t (u : Str → Option Value) h tk own,
      k = (pre.length : Int) * c → pre.length < n → OwnOff own (l :: rest.map (·.1)) → IntsAre vs' ns' → P pre ns' →
      Fr h₀ env.locals h (fun y => if y = x then some (.int k t) else if stored.contains y then u y else m₀ y) →
      News h₀ env.locals h ((l, listOf vs'.toArray nn') :: (rest ++ own)) →
      wpAny (model prog w) A (execs body env)
        (InvPostN h₀ env.locals (KstS (σ := List Value × List Int × Nat) (fun c => (l, listOf c.1.toArray c.2.2) :: rest) (fun _ => []) (fun c => IntsAre c.1 c.2.1) x stored m₀ (fun pre c => P pre c.2.1) (pre ++ [k])) own (l :: rest.map (·.1)) { s with heap := h, toks := tk } Q) E
        { s with heap := h, toks := tk })
    (done : ∀ (vs' : List Value) (ns' : List Int) (nn' : Nat) (u : Str → Option Value) h tk, IntsAre vs' ns' → P (stepKs c n) ns' →
      Fr h₀ env.locals h (fun y => if y = x then u y else if stored.contains y then u y else m₀ y) →
      News h₀ env.locals h ((l, listOf vs'.toArray nn') :: rest) → Q .next { s with heap := h, toks := tk }) :
    wpAny (model prog w) A (pyIter (.ref r)) (fun it s₂ => LoopAtV prog w A h₀ env x body Q E it s₂) E s := by
  refine wpAny_pyIter_range hr hs ?_
  have W := (Walks.range (prog := prog) (w := w) (A := A) hh s.heap.objs.size 0 c n).bound
  have off : ∀ p ∈ (l, listOf vs.toArray nn) :: rest, p.1 ∉ [s.heap.objs.size] := fun p hp hI =>
    Nat.lt_irrefl _ ((List.mem_singleton.mp hI) ▸ Heap.lt_size (N p hp).1)
  refine loop_invN (fun i => (KstS (σ := List Value × List Int × Nat) (fun c => (l, listOf c.1.toArray c.2.2) :: rest) (fun _ => []) (fun c => IntsAre c.1 c.2.1) x stored m₀ (fun pre c => P pre c.2.1) ((stepKs c n).take i))) W
    (fun hm => Nat.lt_irrefl _ ((List.mem_singleton.mp hm) ▸ F.ns.lt))
    (fun b hb => by rw [List.mem_singleton.mp hb]; exact next_is_new F) off off
    (by show IsRangeIter _ _ _ _ _
        rw [hn]; simpa using Heap.get?_push_size _ rfl)
    (F.push _) (fun p hp => ⟨Heap.get?_push_of_some _ (N p hp).1, (N p hp).2⟩)
    ⟨(vs, ns, nn), rfl, hi, List.forall_mem_nil _, fun _ _ _ _ => rfl, by simpa using hp⟩ ?_ ?_
  · rintro i v m₁ nx h tk own hlt ⟨_, t, rfl⟩ _ hoff ⟨⟨vs', ns', nn'⟩, rfl, hf', h1, h2, hp'⟩ F₁ N₁
    have e1 : (0 : Int) + (i : Int) * c = (i : Int) * c := Int.zero_add _
    rw [e1] at F₁
    have hk' : (stepKs c n)[i]? = some ((i : Int) * c) := by simp [stepKs, hlt]
    have e2 : (stepKs c n).take (i + 1) = (stepKs c n).take i ++ [(i : Int) * c] := by simp [List.take_add_one, hk']
    have e3 : ((stepKs c n).take i).length = i := by rw [List.length_take, stepKs_length]; omega
    rw [e2]
    exact turn vs' ns' nn' _ _ t m₁ h tk own (by rw [e3]) (by rw [e3]; exact hlt) hoff hf' hp' (kst_fr h1 h2 F₁) N₁
  · rintro m₁ nx h tk ⟨⟨vs', ns', nn'⟩, rfl, hf', h1, h2, hp'⟩ F₁ N₁
    rw [List.take_of_length_le (Nat.le_of_eq (stepKs_length _ _))] at hp'
    exact done vs' ns' nn' m₁ h tk hf' hp' (kst_frOut h1 h2 F₁) N₁
end
/-! ### the words -/
structure Bounds (w : Int) (xs : List Int) : Prop where
  row : Row xs
  len : xs.length ≤ 4096
theorem bounds {w : Int} {xs : List Int} (h : PySem.Challenge.rw_byterows_s11_turn.pre [WData.int w, ofPy (PyData.list (xs.map PyData.int))] = true) : Bounds w xs := by
  obtain ⟨a, w, q, e⟩ := os_pre said h
  obtain ⟨d, ys, u⟩ := a
  have e1 := os_j_int (List.cons.inj e).1
  have e2 := os_j_ints (List.cons.inj (List.cons.inj e).2).1
  subst e1 e2
  obtain ⟨b1, w1⟩ := w_int w
  obtain ⟨b2, b3, _⟩ := w_ints w1
  exact ⟨b3, b2.2⟩
theorem three {w : Int} (h : ([2, 4, 8].any fun x => x == w) = true) : w = 2 ∨ w = 4 ∨ w = 8 := by
  simp at h
  omega
theorem rest0 {n : Nat} {w : Int} (hw : w = 2 ∨ w = 4 ∨ w = 8) (h : (n : Int).fmod w = 0) : (n : Int) % w = 0 := by
  rw [Int.fmod_eq_emod_of_nonneg _ (by omega)] at h
  exact h
/-- between two groups -/
structure Out (w : Int) (xs : List Int) (pre : List Int) (ans : List Int) : Prop where
  ws : w = 2 ∨ w = 4 ∨ w = 8
  md : (xs.length : Int) % w = 0
  eq : ans = 0 :: turned w.toNat pre.length xs
/-- within a group -/
structure In (xs ans₀ : List Int) (pre : List Int) (ans : List Int) : Prop where
  eq : ans = ans₀ ++ pre.map fun (k : Int) => xs.getD k.toNat 0
abbrev V {w : Int} {xs : List Int} (_ : Bounds w xs) (pre ans : List Int) : Prop := ans.length ≤ 4097 ∧ Out w xs pre ans
abbrev W {w : Int} {xs pre₀ ans₀ : List Int} (_ : Out w xs pre₀ ans₀) (pre ans : List Int) : Prop := In xs ans₀ pre ans
theorem o_start {w : Int} {xs : List Int} (hw : w = 2 ∨ w = 4 ∨ w = 8) (hm : (xs.length : Int) % w = 0) : [(0 : Int)].length ≤ 4097 ∧ Out w xs [] [0] := ⟨by decide, ⟨hw, hm, rfl⟩⟩
theorem fits {w : Int} {xs : List Int} {i : Nat} (hw : w = 2 ∨ w = 4 ∨ w = 8) (hm : (xs.length : Int) % w = 0) (hi : i < ((xs.length : Int) / w).toNat) : 0 ≤ (i : Int) * w ∧ (i : Int) * w + w ≤ xs.length := by
  rcases hw with rfl | rfl | rfl <;> omega
theorem i_start {xs ans : List Int} (h : ans.length ≤ 4097) : ans.length ≤ 4097 + ([] : List Int).length ∧ In xs ans [] ans := ⟨h, ⟨by simp⟩⟩
theorem i_turn {xs ans₀ pre ans : List Int} {k : Int} (T : In xs ans₀ pre ans) (h : ans.length ≤ 4097 + pre.length) : (ans ++ [xs.getD k.toNat 0]).length ≤ 4097 + (pre ++ [k]).length ∧ In xs ans₀ (pre ++ [k]) (ans ++ [xs.getD k.toNat 0]) := by
  refine ⟨by simp only [List.length_append, List.length_cons, List.length_nil]; omega, ⟨?_⟩⟩
  rw [T.eq, List.map_append, List.append_assoc]
  rfl
theorem downs {xs : List Int} {a : Int} {n : Nat} (ha : 0 ≤ a) (hf : a + n ≤ xs.length) : (downKs (a + n - 1) n).map (fun (k : Int) => xs.getD k.toNat 0) = ((xs.drop a.toNat).take n).reverse := by
  unfold downKs
  apply List.ext_getElem
  · simp; omega
  · intro i h1 h2
    simp only [List.length_map, List.length_range] at h1
    rw [List.getElem_map, List.getElem_map, List.getElem_range, List.getElem_reverse, List.getElem_take, List.getElem_drop]
    simp only [List.length_take, List.length_drop]
    have e : (a + (n : Int) - 1 - (i : Int)).toNat = a.toNat + (min n (xs.length - a.toNat) - 1 - i) := by omega
    rw [e, List.getD_eq_getElem?_getD, List.getElem?_eq_getElem (by omega)]
    rfl
theorem turned_length (w : Nat) : ∀ (k : Nat) (xs : List Int), w * k ≤ xs.length → (turned w k xs).length = w * k
  | 0, _, _ => rfl
  | k + 1, xs, h => by
    rw [Nat.mul_succ] at h
    unfold turned
    rw [List.length_append, List.length_reverse, List.length_take, turned_length w k _ (by rw [List.length_drop]; omega), Nat.mul_succ]
    omega
theorem o_turn {w : Int} {xs pre ans₀ ans : List Int} {k : Int} {m : Nat} (T : Out w xs pre ans₀) (I : In xs ans₀ (downKs (k + w - 1) m) ans) (hl : xs.length ≤ 4096) (hk : k = (pre.length : Int) * w) (h0 : 0 ≤ k) (h1 : k + w ≤ xs.length) (hm : (m : Int) = w) :
    ans.length ≤ 4097 ∧ Out w xs (pre ++ [k]) ans := by
  have hw : 0 < w := by have := T.ws; omega
  subst hm
  have e : ans = 0 :: turned m (pre.length + 1) xs := by
    rw [I.eq, downs h0 h1, T.eq, turned_snoc, List.cons_append, Int.toNat_natCast]
    rw [show k.toNat = m * pre.length by rw [hk, Nat.mul_comm]; omega]
  have hl2 : m * (pre.length + 1) ≤ xs.length := by
    rw [Nat.mul_succ, Nat.mul_comm]
    omega
  refine ⟨?_, ⟨T.ws, T.md, ?_⟩⟩
  · rw [e, List.length_cons, turned_length _ _ _ hl2]
    omega
  · rw [e, List.length_append]
    rfl
theorem o_end {w : Int} {xs ans : List Int} {n : Nat} (T : Out w xs (stepKs w n) ans) (hr : Row xs) (hn : n = ((xs.length : Int) / w).toNat) : PyMd04.turn w xs = ans := by
  have e := T.eq
  rw [stepKs_length] at e
  have hw : 0 < w := by have := T.ws; omega
  show (let y := (if (w = 2 ∨ w = 4 ∨ w = 8) ∧ (by_ xs).length % w.toNat = 0 then (⟨0, Md04.turned w.toNat ((by_ xs).length / w.toNat) (by_ xs), 0⟩ : Md04.Ans) else Md04.code (-1)); y.code :: y.out.map fun (b : UInt8) => (b.toNat : Int)) = ans
  have hmd : xs.length % w.toNat = 0 := by
    have := T.md
    rw [show w = (w.toNat : Int) by omega] at this
    omega
  rw [by_length, if_pos ⟨T.ws, hmd⟩]
  show 0 :: (Md04.turned w.toNat (xs.length / w.toNat) (by_ xs)).map (fun (b : UInt8) => (b.toNat : Int)) = ans
  rw [turned_by _ _ hr, e, hn]
  congr 2
  have : (xs.length : Int) / w = ((xs.length / w.toNat : Nat) : Int) := by
    conv => lhs; rw [show w = (w.toNat : Int) by omega]
    rfl
  rw [this]
  rfl
theorem not_due {w : Int} {xs : List Int} (h : ¬ ((w = 2 ∨ w = 4 ∨ w = 8) ∧ (xs.length : Int) % w = 0)) : PyMd04.turn w xs = [-1] := by
  show (let y := (if (w = 2 ∨ w = 4 ∨ w = 8) ∧ (by_ xs).length % w.toNat = 0 then (⟨0, Md04.turned w.toNat ((by_ xs).length / w.toNat) (by_ xs), 0⟩ : Md04.Ans) else Md04.code (-1)); y.code :: y.out.map fun (b : UInt8) => (b.toNat : Int)) = [-1]
  rw [by_length, if_neg]
  · rfl
  · rintro ⟨h1, h2⟩
    refine h ⟨h1, ?_⟩
    rw [show w = (w.toNat : Int) by omega]
    omega
theorem not_mod {w : Int} {xs : List Int} (h : ([2, 4, 8].any fun x => x == w) = true) (h' : (xs.length : Int).fmod w ≠ 0) : PyMd04.turn w xs = [-1] :=
  not_due fun e => h' (by rw [Int.fmod_eq_emod_of_nonneg _ (by omega)]; exact e.2)
theorem not_three {w : Int} {xs : List Int} (h : ([2, 4, 8].any fun x => x == w) = false) : PyMd04.turn w xs = [-1] :=
  not_due fun e => by
    rcases e.1 with rfl | rfl | rfl <;> simp at h
end My
local macro_rules | `(tactic| walk_at "binaryOp Mod int int") => `(tactic| (k_here; (with_reducible refine' My.step_mod ?k1 ?_); (case k1 => k_dflt omega)))
set_option maxRecDepth 100000 in
set_option maxHeartbeats 8000000 in
theorem PySem.Challenge.cw_byterows_s11_turn_holds : PySem.Challenge.rw_byterows_s11_turn.Holds := by
  k_with "state" => first
    | exact My.i_start (by assumption)
    | exact My.i_turn (by assumption) (by assumption)
    | exact My.o_turn (by assumption) (by assumption) (by assumption) (by assumption) (by assumption) (by assumption) (by omega)
  k_with "pyIter ref" => (k_of "k" => ((rename (My.Out _ _ _ _) => hm); k_state (fun pre ans => ans.length ≤ 4097 + pre.length ∧ My.W hm pre ans) "answer"))
  k_with "pyIter ref" => (k_of "start" => ((with_reducible show wpAny _ _ (pyIter (Value.ref _)) (fun it s₂ => LoopAtV _ _ _ _ _ _ _ _ _ it s₂) _ _); k_here; (have hb := My.bounds (by assumption)); (have hlen := hb.len); (have hw := My.three (by assumption)); (have hmd := My.rest0 hw (by assumption)); (rename Fr _ _ _ _ => lF'); (rename News _ _ _ _ => lN'); (rename IsRange _ _ _ _ _ _ _ _ => rgX); (with_unfolding_all refine' My.grow_steps [Str.ofString "k"] (fun pre ans => My.V hb pre ans) (by rfl) rgX (My.small_steps (by omega) (by omega) (by omega) (by omega) hmd) (My.size_steps (by omega) (by omega) hmd) lF' lN' ?kis (My.o_start hw hmd) (fun kVs kNs kNn kPre kN kT kU kH kTk kOwn kEq kLt kOff kFacts kInv kFr kNews => ?_) (fun kVs kNs kNn kU kH kTk kFacts kInv kFr kNews => ?_)); (case kis => l_ints); (all_goals (have kMark := kstMark; (obtain ⟨kIn1, kIn2⟩ := kInv); (have kLen := IntsAre.length kFacts); (try (have kFit := My.fits hw hmd kLt; rw [← kEq] at kFit; obtain ⟨kFit1, kFit2⟩ := kFit)); (try simp only [List.nil_append, List.cons_append] at kNews); (try simp only [List.map_cons, List.map_nil] at kOff); clear lF' lN'; (try (have kB := len_ints_list (by lay_of))); (try k_fold)))))
  w_on; k_headS; (case hw => exact ⟨[.int 0, .list []], by decide +kernel, by decide +kernel⟩)
  w_strict k_goS
  all_goals
    os_open My.said with a w q e
    obtain ⟨d, ys, u⟩ := a
    have e1 := os_j_int (List.cons.inj e).1
    have e2 := os_j_ints (List.cons.inj (List.cons.inj e).2).1
    subst e1 e2
    refine os_list (ys := PyMd04.turn _ _) ?_
  · rw [My.not_mod (by assumption) (by assumption)]; rfl
  · rw [My.o_end (by assumption) (My.w_ints (My.w_int w).2).2.1 rfl]
  · rw [My.not_three (by assumption)]; rfl
#print axioms PySem.Challenge.cw_byterows_s11_turn_holds
