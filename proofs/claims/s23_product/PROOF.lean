import PyProof.Rows.All
import Wide.All
import OpenK.AllK
import Wide.FinOn
import Open.SpecLaws
import KE.OsGo
import HandS.Base
import HandS.Call
import HandS.List
import HandS.Ends
import HandS.Spec
import HandS.Words
import HandS.WordsList
import HandS.Comp
import HandS.WideBits
import PySem.Challenge.RW_sixteenwordsdesk_s23_product
set_option Elab.async false
set_option linter.all false
set_option maxRecDepth 100000
set_option maxHeartbeats 1000000
/-! ### words of my own: naturals as Python ints, rows as lists of naturals -/
namespace My
open PySem PySem.Spec PyProof.Rows L2
abbrev nI (n : Nat) : V := V.int (n : Int)
def nv (l : List Nat) : List V := l.map nI
theorem nv_length (l : List Nat) : (nv l).length = l.length := List.length_map ..
theorem nv_append (a b : List Nat) : nv (a ++ b) = nv a ++ nv b := List.map_append ..
theorem nv_get {l : List Nat} {i n : Nat} (h : l[i]? = some n) : (nv l)[i]? = some (nI n) := by
  unfold nv; rw [List.getElem?_map, h]; rfl
theorem at_nv {l : List Nat} {i n : Nat} (h : l[i]? = some n) : atI (nv l) ((i : Nat) : Int) = some (nI n) := atI_nat (nv_get h)
theorem get_D {l : List Nat} {i : Nat} (h : i < l.length) : l[i]? = some (l.getD i 0) := by
  rw [List.getD_eq_getElem?_getD, List.getElem?_eq_getElem h]; rfl
theorem same_upd {H : Hp} {p : Addr} {o : HO} (h : H p = none) : Same H (upd H p o) := fun b x e => by
  rw [upd_ne (ne_of_none e h)]
  exact e
theorem same_refl (H : Hp) : Same H H := fun _ _ e => e
/-- what was there before p was made stands behind a store at p -/
theorem same_put {H H' : Hp} {p : Addr} {o : HO} (h : H p = none) (s : Same H H') : Same H (upd H' p o) := fun b x e => by
  rw [upd_ne (ne_of_none e h)]
  exact s b x e
theorem ne_made {H H' : Hp} {p q : Addr} {o : HO} (h : H p = some o) (s : Same H H') (hq : H' q = none) : q ≠ p := fun e => by
  subst e
  rw [s _ _ h] at hq
  cases hq
theorem sizeSmall {n : Nat} (h : n ≤ 100000) : n < sizeLine := Nat.lt_of_le_of_lt h (by decide)
section
variable {X : Cx}
theorem pow_castI (k : Nat) : ((2 ^ k : Nat) : Int) = (2 : Int) ^ k := PySem.W.kbt_cast k
theorem on_shr : OpR X (binaryOp .RShift) (fun x y H Q => ∃ n k : Nat, x = nI n ∧ y = nI k ∧ Q (nI (n >>> k)) H) := by
  intro pins s σ H x y v u Q I rx ry h
  obtain ⟨n, k, rfl, rfl, q⟩ := h
  refine op_shrN pins s σ H _ _ v u Q I rx ry ⟨_, k, rfl, rfl, ?_⟩
  rw [Nat.shiftRight_eq_div_pow] at q
  have e : ((n / 2 ^ k : Nat) : Int) = (n : Int) / 2 ^ k := by rw [Int.natCast_ediv, pow_castI]
  rw [← e]
  exact q
theorem on_shl : OpR X (binaryOp .LShift) (fun x y H Q => ∃ n k b : Nat, x = nI n ∧ y = nI k ∧ (n < 2 ^ b ∧ b + k ≤ 134217728) ∧ Q (nI (n <<< k)) H) := by
  intro pins s σ H x y v u Q I rx ry h
  obtain ⟨n, k, b, rfl, rfl, ⟨hb, hk⟩, q⟩ := h
  refine op_shlN pins s σ H _ _ v u Q I rx ry ⟨_, k, rfl, rfl, shl_ok (n := b) (by simpa using hb) hk, ?_⟩
  rw [Nat.shiftLeft_eq] at q
  have e : ((n * 2 ^ k : Nat) : Int) = (n : Int) * 2 ^ k := by rw [Int.natCast_mul, pow_castI]
  rw [← e]
  exact q
theorem on_and : OpR X (binaryOp .BitAnd) (fun x y H Q => ∃ n m : Nat, x = nI n ∧ y = nI m ∧ Q (nI (n &&& m)) H) := by
  intro pins s σ H x y v u Q I rx ry h
  obtain ⟨n, m, rfl, rfl, q⟩ := h
  refine op_and pins s σ H _ _ v u Q I rx ry ⟨_, _, rfl, rfl, ?_⟩
  show Q (V.int (Builtin.bitAnd (n : Int) (m : Int))) H
  rw [bitAnd_pp (Int.natCast_nonneg _) (Int.natCast_nonneg _), Int.toNat_natCast, Int.toNat_natCast]
  exact q
theorem on_or : OpR X (binaryOp .BitOr) (fun x y H Q => ∃ n m : Nat, x = nI n ∧ y = nI m ∧ Q (nI (n ||| m)) H) := by
  intro pins s σ H x y v u Q I rx ry h
  obtain ⟨n, m, rfl, rfl, q⟩ := h
  refine op_or pins s σ H _ _ v u Q I rx ry ⟨_, _, rfl, rfl, ?_⟩
  show Q (V.int (Builtin.bitOr (n : Int) (m : Int))) H
  rw [bitOr_nn (Int.natCast_nonneg _) (Int.natCast_nonneg _), Int.toNat_natCast, Int.toNat_natCast]
  exact q
theorem on_add : OpR X (binaryOp .Add) (fun x y H Q => ∃ n m : Nat, x = nI n ∧ y = nI m ∧ Q (nI (n + m)) H) := op_addN
theorem on_sub : OpR X (binaryOp .Sub) (fun x y H Q => ∃ n m : Nat, x = nI n ∧ y = nI m ∧ m ≤ n ∧ Q (nI (n - m)) H) := op_subN
theorem on_mul : OpR X (binaryOp .Mult) (fun x y H Q => ∃ n m : Nat, x = nI n ∧ y = nI m ∧ n ≤ 4294967296 ∧ Q (nI (n * m)) H) := op_mulN
theorem on_fdiv : OpR X (binaryOp .FloorDiv) (fun x y H Q => ∃ n m : Nat, x = nI n ∧ y = nI m ∧ (1 ≤ m ∧ m < 1073741824) ∧ Q (nI (n / m)) H) := op_fdivNN
theorem on_mod : OpR X (binaryOp .Mod) (fun x y H Q => ∃ n m : Nat, x = nI n ∧ y = nI m ∧ 1 ≤ m ∧ Q (nI (n % m)) H) := by
  intro pins s σ H x y v u Q I rx ry h
  obtain ⟨n, m, rfl, rfl, c, q⟩ := h
  refine op_mod pins s σ H _ _ v u Q I rx ry ⟨_, _, rfl, rfl, show (0 : Int) < (m : Int) by omega, ?_⟩
  have e : ((n % m : Nat) : Int) = (n : Int) % (m : Int) := Int.natCast_emod ..
  show Q (V.int ((n : Int) % (m : Int))) H
  rw [← e]
  exact q
theorem on_eq : OpR X (compareOp .Eq) (fun x y H Q => ∃ n m : Nat, x = nI n ∧ y = nI m ∧ Q (.bl (decide (n = m))) H) := by
  intro pins s σ H x y v u Q I rx ry h
  obtain ⟨n, m, rfl, rfl, q⟩ := h
  refine op_eq pins s σ H _ _ v u Q I rx ry ⟨rfl, ?_⟩
  have e : decide (nI n = nI m) = decide (n = m) := by
    by_cases h : n = m
    · rw [h]; simp
    · rw [decide_eq_false h, decide_eq_false]
      intro z
      injection z with z
      exact h (by omega)
  rw [e]
  exact q
theorem oi_eq : OpR X (compareOp .Eq) (fun x y H Q => ∃ i j : Int, x = .int i ∧ y = .int j ∧ Q (.bl (decide (i = j))) H) := by
  intro pins s σ H x y v u Q I rx ry h
  obtain ⟨n, m, rfl, rfl, q⟩ := h
  refine op_eq pins s σ H _ _ v u Q I rx ry ⟨rfl, ?_⟩
  have e : decide (V.int n = V.int m) = decide (n = m) := by
    by_cases h : n = m
    · rw [h]; simp
    · rw [decide_eq_false h, decide_eq_false]
      intro z
      injection z with z
      exact h z
  rw [e]
  exact q
theorem oi_ne : OpR X (compareOp .NotEq) (fun x y H Q => ∃ i j : Int, x = .int i ∧ y = .int j ∧ Q (.bl (!decide (i = j))) H) := by
  intro pins s σ H x y v u Q I rx ry h
  obtain ⟨n, m, rfl, rfl, q⟩ := h
  refine op_ne pins s σ H _ _ v u Q I rx ry ⟨rfl, ?_⟩
  have e : decide (V.int n = V.int m) = decide (n = m) := by
    by_cases h : n = m
    · rw [h]; simp
    · rw [decide_eq_false h, decide_eq_false]
      intro z
      injection z with z
      exact h z
  have e2 : decide (V.int n ≠ V.int m) = !decide (n = m) := by rw [← e, decide_not]
  first
    | (rw [e2]; exact q)
    | (rw [e]; exact q)
end
abbrev EN : XK := fun _ _ _ => False
/-- what a call finds: the def stands at f, bound by its name -/
structure DefAt (K : PySem.W.Frag) (mg : Str → Option Value) (nm : Str) (st : Stmt) (ps : List Str) (f : Addr) (fd : FuncData) : Prop where
  F : Fun K nm nm st f fd
  b : Binds K fd ps []
  g : mg nm = some (.ref f)
theorem tYes_of {σ : L2.St} {H : Hp} {Q : Bool → Hp → Prop} (h : Q true H) : tYes σ H Q := h
theorem ifT {c : Bool} {a b : Prop} (hc : c = true) (h : a) : (if c = true then a else b) := by rw [if_pos hc]; exact h
theorem ifF {c : Bool} {a b : Prop} (hc : ¬ c = true) (h : b) : (if c = true then a else b) := by rw [if_neg hc]; exact h
theorem wipe_in {σ : L2.St} {j : Nat} {v : Option V} : wipe ((wipe σ [j]).set j v) [j] = wipe σ [j] := by
  show ((σ.set j none).set j v).set j none = σ.set j none
  rw [List.set_set, List.set_set]
/-- [e for i in range(n)], the element a value by the place; what stood stands -/
theorem lcMap {te : TE} {j : Nat} {σ : L2.St} {H1 : Hp} {D : Addr} {Qd : Hp → Prop} (f : Nat → V) (n : Nat) (hn : n ≤ 100000) (hD : H1 D = none)
    (hs : ∀ i H, i < n → Same H1 H → ∀ Q : VK, (∀ H', Same H H' → Q (f i) H') → te ((wipe σ [j]).set j (some (nI i))) H Q)
    (hd : ∀ H3, Same H1 H3 → H3 D = some (.lst ((List.range n).map f)) → Qd H3) :
    ∃ W : Nat → Nat → Hp → Prop, (∃ m, W 0 m (upd H1 D (.lst []))) ∧ ∀ i m H, W i m H →
      ((Itr 0 n).stop i H ∧ Qd H) ∨ ((Itr 0 n).go i H ∧ ∃ Nx : Hp → Prop, (∀ H', Nx H' → ∃ m', m' < m ∧ W (i + 1) m' H') ∧ ∀ x H', (Itr 0 n).yld i H x H' → gName j x (wipe σ [j]) H' fun σ2 H2 => wipe σ2 [j] = wipe σ [j] ∧ tYes σ2 H2 fun b H3 =>
        if b = true then te σ2 H3 fun y H4 => ∃ acc, H4 D = some (.lst acc) ∧ acc.length < sizeLine ∧ Nx (upd H4 D (.lst (acc ++ [y]))) else Nx H3) := by
  refine lc_range (fun i H => Same H1 H ∧ H D = some (.lst ((List.range i).map f))) ⟨same_upd hD, upd_same⟩ (fun i H hi ⟨s, e⟩ => ?_) (fun H ⟨s, e⟩ => hd H s e)
  rw [Int.zero_add]
  refine ⟨wipe_in, ?_⟩
  refine tYes_of (ifT rfl ?_)
  refine hs i H hi s _ fun H' s' => ⟨_, s' _ _ e, ?_, ?_, ?_⟩
  · rw [List.length_map, List.length_range]
    exact sizeSmall (by omega)
  · exact same_put hD fun b o z => s' _ _ (s _ _ z)
  · rw [upd_same, List.range_succ, List.map_append]
    rfl
/-- [e for v in xs], xs a list of naturals -/
theorem lcMapL {K : PySem.W.Frag} {a : Addr} {te : TE} {j : Nat} {σ : L2.St} {H1 : Hp} {D : Addr} {Qd : Hp → Prop} (l : List Nat) (f : Nat → V) (hn : l.length ≤ 100000) (hS : SqL K H1 a (nv l)) (hD : H1 D = none)
    (hs : ∀ v H, v ∈ l → Same H1 H → ∀ Q : VK, (∀ H', Same H H' → Q (f v) H') → te ((wipe σ [j]).set j (some (nI v))) H Q)
    (hd : ∀ H3, Same H1 H3 → H3 D = some (.lst (l.map f)) → Qd H3) :
    ∃ W : Nat → Nat → Hp → Prop, (∃ m, W 0 m (upd H1 D (.lst []))) ∧ ∀ i m H, W i m H →
      ((Itl K a).stop i H ∧ Qd H) ∨ ((Itl K a).go i H ∧ ∃ Nx : Hp → Prop, (∀ H', Nx H' → ∃ m', m' < m ∧ W (i + 1) m' H') ∧ ∀ x H', (Itl K a).yld i H x H' → gName j x (wipe σ [j]) H' fun σ2 H2 => wipe σ2 [j] = wipe σ [j] ∧ tYes σ2 H2 fun b H3 =>
        if b = true then te σ2 H3 fun y H4 => ∃ acc, H4 D = some (.lst acc) ∧ acc.length < sizeLine ∧ Nx (upd H4 D (.lst (acc ++ [y]))) else Nx H3) := by
  refine lc_list (xs := nv l) (fun i H => Same H1 H ∧ H D = some (.lst ((l.take i).map f))) ⟨same_upd hD, upd_same⟩ (fun i H _ ⟨s, _⟩ => s.seq hS) (fun i x H hx ⟨s, e⟩ => ?_) (fun H ⟨s, e⟩ => hd H s ?_)
  · obtain ⟨v, hv, rfl⟩ : ∃ v, l[i]? = some v ∧ x = nI v := by
      unfold nv at hx
      rw [List.getElem?_map] at hx
      cases e : l[i]? with
      | none => rw [e] at hx; cases hx
      | some v => rw [e] at hx; exact ⟨v, rfl, (Option.some.inj hx).symm⟩
    refine ⟨wipe_in, ?_⟩
    refine tYes_of (ifT rfl ?_)
    refine hs v H (List.mem_of_getElem? hv) s _ fun H' s' => ⟨_, s' _ _ e, ?_, ?_, ?_⟩
    · rw [List.length_map, List.length_take]
      exact sizeSmall (by omega)
    · exact same_put hD fun b o z => s' _ _ (s _ _ z)
    · rw [upd_same, List.take_add_one, hv, List.map_append]
      rfl
  · rw [nv_length, List.take_length] at e
    exact e
theorem range_get {α : Type} {f : Nat → α} {n i : Nat} (h : i < n) : ((List.range n).map f)[i]? = some (f i) := by
  rw [List.getElem?_map, List.getElem?_range h]
  rfl
theorem map_nI (f : Nat → Nat) (l : List Nat) : l.map (fun i => nI (f i)) = nv (l.map f) := by
  unfold nv
  rw [List.map_map]
  rfl
theorem at_nvr {f : Nat → Nat} {n i : Nat} (h : i < n) : atI (nv ((List.range n).map f)) (i : Int) = some (nI (f i)) := at_nv (range_get h)
/-- [e for i in range(n) if t] -/
theorem lcFil {tt : TT} {te : TE} {j : Nat} {σ : L2.St} {H1 : Hp} {D : Addr} {Qd : Hp → Prop} (f : Nat → V) (p : Nat → Bool) (n : Nat) (hn : n ≤ 100000) (hD : H1 D = none)
    (ht : ∀ i H, i < n → Same H1 H → ∀ Q : Bool → Hp → Prop, (∀ H', Same H H' → Q (p i) H') → tt ((wipe σ [j]).set j (some (nI i))) H Q)
    (hs : ∀ i H, i < n → p i = true → Same H1 H → ∀ Q : VK, (∀ H', Same H H' → Q (f i) H') → te ((wipe σ [j]).set j (some (nI i))) H Q)
    (hd : ∀ H3, Same H1 H3 → H3 D = some (.lst (((List.range n).filter p).map f)) → Qd H3) :
    ∃ W : Nat → Nat → Hp → Prop, (∃ m, W 0 m (upd H1 D (.lst []))) ∧ ∀ i m H, W i m H →
      ((Itr 0 n).stop i H ∧ Qd H) ∨ ((Itr 0 n).go i H ∧ ∃ Nx : Hp → Prop, (∀ H', Nx H' → ∃ m', m' < m ∧ W (i + 1) m' H') ∧ ∀ x H', (Itr 0 n).yld i H x H' → gName j x (wipe σ [j]) H' fun σ2 H2 => wipe σ2 [j] = wipe σ [j] ∧ tt σ2 H2 fun b H3 =>
        if b = true then te σ2 H3 fun y H4 => ∃ acc, H4 D = some (.lst acc) ∧ acc.length < sizeLine ∧ Nx (upd H4 D (.lst (acc ++ [y]))) else Nx H3) := by
  refine lc_range (fun i H => Same H1 H ∧ H D = some (.lst (((List.range i).filter p).map f))) ⟨same_upd hD, upd_same⟩ (fun i H hi ⟨s, e⟩ => ?_) (fun H ⟨s, e⟩ => hd H s e)
  rw [Int.zero_add]
  refine ⟨wipe_in, ?_⟩
  refine ht i H hi s _ fun H' s' => ?_
  have sH : Same H1 H' := fun b o z => s' _ _ (s _ _ z)
  have ef : (List.range (i + 1)).filter p = (List.range i).filter p ++ (if p i = true then [i] else []) := by
    rw [List.range_succ, List.filter_append]
    cases hp : p i <;> simp [hp]
  by_cases hp : p i = true
  · rw [if_pos hp]
    refine hs i H' hi hp sH _ fun H2 s2 => ⟨_, s2 _ _ (s' _ _ e), ?_, ?_, ?_⟩
    · have h1 := List.length_filter_le p (List.range i)
      rw [List.length_range] at h1
      rw [List.length_map]
      exact sizeSmall (by omega)
    · exact same_put hD fun b o z => s2 _ _ (sH _ _ z)
    · rw [upd_same, ef, if_pos hp, List.map_append]
      rfl
  · rw [if_neg hp]
    refine ⟨sH, ?_⟩
    rw [ef, if_neg hp, List.append_nil]
    exact s' _ _ e
end My
/-! ### more operations: lists that may be the caller's own, comparisons, xor -/
namespace My
open PySem PySem.Spec PyProof.Rows L2
section
variable {X : Cx}
def rCatS (K : PySem.W.Frag) : V → V → Hp → VK → Prop := fun x y H Q => ∃ l b xs zs, x = .ref l ∧ y = .ref b ∧ SqL K H l xs ∧ SqL K H b zs ∧ xs.length + zs.length ≤ sizeLine ∧ ∀ p, H p = none → Q (.ref p) (upd H p (.lst (xs ++ zs)))
theorem op_catS : OpR X (binaryOp .Add) (rCatS X.K) := by
  intro pins s σ H x y v u Q I rx ry h
  obtain ⟨l, b, xs, zs, rfl, rfl, hH, hB, hz, q⟩ := h
  cases rx
  cases ry
  obtain ⟨its, r, ⟨⟨cls, dd, data, sl⟩, n, ho, hc, hd0, hd⟩, z⟩ := I.list hH
  obtain ⟨its2, r2, ⟨⟨cls2, dd2, data2, sl2⟩, n2, ho2, hc2, hd02, hd2⟩, z2⟩ := I.list hB
  simp only at hc hd hc2 hd2
  subst hc hd hc2 hd2
  have hl := r.length
  have hl2 := r2.length
  refine concat_meets ⟨_, ho, rfl⟩ ⟨_, ho2, rfl⟩ noFill_list_add seq_list_add PySem.F.slot_list_add PySem.F.entry_list_add (PySem.F.args_list_add_2 _ _) (list_addW l b its.toArray its2.toArray n n2 dd dd2 sl sl2 (by rw [List.size_toArray, List.size_toArray]; omega)) ⟨ho, ho2, ?_⟩
  have ea : its.toArray ++ its2.toArray = (its ++ its2).toArray := by simp
  rw [ea]
  exact ⟨.ref _, _, I.lnew (t' := s.toks) (r.append r2) (by rw [List.length_append]; omega), rfl, q _ I.fresh⟩
theorem on_lt : OpR X (compareOp .Lt) (fun x y H Q => ∃ n m : Nat, x = nI n ∧ y = nI m ∧ Q (.bl (decide (n < m))) H) := by
  intro pins s σ H x y v u Q I rx ry h
  obtain ⟨n, m, rfl, rfl, q⟩ := h
  have e : decide ((n : Int) < (m : Int)) = decide (n < m) := decide_eq_decide.mpr (by omega)
  refine op_lt pins s σ H _ _ v u Q I rx ry ⟨_, _, rfl, rfl, ?_⟩
  show Q (.bl (decide ((n : Int) < (m : Int)))) H
  rw [e]; exact q
theorem on_le : OpR X (compareOp .LtE) (fun x y H Q => ∃ n m : Nat, x = nI n ∧ y = nI m ∧ Q (.bl (decide (n ≤ m))) H) := by
  intro pins s σ H x y v u Q I rx ry h
  obtain ⟨n, m, rfl, rfl, q⟩ := h
  have e : decide ((n : Int) ≤ (m : Int)) = decide (n ≤ m) := decide_eq_decide.mpr (by omega)
  refine op_le pins s σ H _ _ v u Q I rx ry ⟨_, _, rfl, rfl, ?_⟩
  show Q (.bl (decide ((n : Int) ≤ (m : Int)))) H
  rw [e]; exact q
theorem on_gt : OpR X (compareOp .Gt) (fun x y H Q => ∃ n m : Nat, x = nI n ∧ y = nI m ∧ Q (.bl (decide (m < n))) H) := by
  intro pins s σ H x y v u Q I rx ry h
  obtain ⟨n, m, rfl, rfl, q⟩ := h
  have e : decide ((m : Int) < (n : Int)) = decide (m < n) := decide_eq_decide.mpr (by omega)
  refine op_gt pins s σ H _ _ v u Q I rx ry ⟨_, _, rfl, rfl, ?_⟩
  show Q (.bl (decide ((m : Int) < (n : Int)))) H
  rw [e]; exact q
theorem on_ge : OpR X (compareOp .GtE) (fun x y H Q => ∃ n m : Nat, x = nI n ∧ y = nI m ∧ Q (.bl (decide (m ≤ n))) H) := by
  intro pins s σ H x y v u Q I rx ry h
  obtain ⟨n, m, rfl, rfl, q⟩ := h
  have e : decide ((m : Int) ≤ (n : Int)) = decide (m ≤ n) := decide_eq_decide.mpr (by omega)
  refine op_ge pins s σ H _ _ v u Q I rx ry ⟨_, _, rfl, rfl, ?_⟩
  show Q (.bl (decide ((m : Int) ≤ (n : Int)))) H
  rw [e]; exact q
theorem on_ne : OpR X (compareOp .NotEq) (fun x y H Q => ∃ n m : Nat, x = nI n ∧ y = nI m ∧ Q (.bl (!decide (n = m))) H) := by
  intro pins s σ H x y v u Q I rx ry h
  obtain ⟨n, m, rfl, rfl, q⟩ := h
  have e : decide ((n : Int) = (m : Int)) = decide (n = m) := decide_eq_decide.mpr (by omega)
  refine oi_ne pins s σ H _ _ v u Q I rx ry ⟨_, _, rfl, rfl, ?_⟩
  rw [e]; exact q
theorem on_xor : OpR X (binaryOp .BitXor) (fun x y H Q => ∃ n m : Nat, x = nI n ∧ y = nI m ∧ Q (nI (n ^^^ m)) H) := by
  intro pins s σ H x y v u Q I rx ry h
  obtain ⟨n, m, rfl, rfl, q⟩ := h
  refine op_xor pins s σ H _ _ v u Q I rx ry ⟨_, _, rfl, rfl, ?_⟩
  have e : Builtin.bitXor (n : Int) (m : Int) = ((n ^^^ m : Nat) : Int) := by
    rw [bitXor_and, bitAnd_pp (Int.natCast_nonneg _) (Int.natCast_nonneg _), Int.toNat_natCast, Int.toNat_natCast]
    have k : ∀ n m : Nat, (n ^^^ m) + 2 * (n &&& m) = n + m := fun n m => by
      induction n using Nat.strongRecOn generalizing m with
      | _ n ih =>
        by_cases h0 : n = 0
        · subst h0; simp
        · have i1 := ih (n / 2) (by omega) (m / 2)
          have x1 : (n ^^^ m) / 2 = n / 2 ^^^ m / 2 := Nat.xor_div_two
          have a1 : (n &&& m) / 2 = n / 2 &&& m / 2 := Nat.and_div_two
          have x2 : (n ^^^ m) % 2 = (n + m) % 2 := by
            have hh := Nat.xor_mod_two_pow (a := n) (b := m) (n := 1)
            rw [Nat.pow_one] at hh
            rw [hh]
            rcases Nat.mod_two_eq_zero_or_one n with p | p <;> rcases Nat.mod_two_eq_zero_or_one m with p2 | p2 <;> rw [p, p2] <;> simp <;> omega
          have a2 : (n &&& m) % 2 = n % 2 * (m % 2) := by
            have hh := Nat.and_mod_two_pow (a := n) (b := m) (n := 1)
            rw [Nat.pow_one] at hh
            rw [hh]
            rcases Nat.mod_two_eq_zero_or_one n with p | p <;> rcases Nat.mod_two_eq_zero_or_one m with p2 | p2 <;> rw [p, p2] <;> rfl
          rcases Nat.mod_two_eq_zero_or_one n with p | p <;> rcases Nat.mod_two_eq_zero_or_one m with p2 | p2 <;> (rw [p, p2] at a2; omega)
    have := k n m
    omega
  show Q (V.int (Builtin.bitXor (n : Int) (m : Int))) H
  rw [e]; exact q
theorem on_mulW : OpR X (binaryOp .Mult) (fun x y H Q => ∃ n m : Nat, x = nI n ∧ y = nI m ∧ n < 2 ^ 64 ∧ Q (nI (n * m)) H) := by
  intro pins s σ H x y v u Q I rx ry h
  obtain ⟨n, m, rfl, rfl, c, q⟩ := h
  refine op_mul pins s σ H _ _ v u Q I rx ry ⟨_, _, rfl, rfl, .inl ⟨by omega, by omega⟩, ?_⟩
  show Q (V.int ((n : Int) * (m : Int))) H
  rw [← Int.natCast_mul]; exact q
theorem on_fdivW : OpR X (binaryOp .FloorDiv) (fun x y H Q => ∃ n m : Nat, x = nI n ∧ y = nI m ∧ (1 ≤ m ∧ m < 2 ^ 64) ∧ Q (nI (n / m)) H) := by
  intro pins s σ H x y v u Q I rx ry h
  obtain ⟨n, m, rfl, rfl, ⟨c1, c2⟩, q⟩ := h
  refine op_fdivW pins s σ H _ _ v u Q I rx ry ⟨_, _, rfl, rfl, wide_div (b := 64) (by omega) (by rw [Int.natAbs_natCast]; exact c2) (by decide) (by decide), ?_⟩
  show Q (V.int ((n : Int) / (m : Int))) H
  rw [← Int.natCast_ediv]; exact q
end
abbrev rnOr : V → V → Hp → VK → Prop := fun x y H Q => ∃ n m : Nat, x = nI n ∧ y = nI m ∧ Q (nI (n ||| m)) H
abbrev rnAnd : V → V → Hp → VK → Prop := fun x y H Q => ∃ n m : Nat, x = nI n ∧ y = nI m ∧ Q (nI (n &&& m)) H
abbrev rnAdd : V → V → Hp → VK → Prop := fun x y H Q => ∃ n m : Nat, x = nI n ∧ y = nI m ∧ Q (nI (n + m)) H
abbrev rnSub : V → V → Hp → VK → Prop := fun x y H Q => ∃ n m : Nat, x = nI n ∧ y = nI m ∧ m ≤ n ∧ Q (nI (n - m)) H
abbrev rnMul : V → V → Hp → VK → Prop := fun x y H Q => ∃ n m : Nat, x = nI n ∧ y = nI m ∧ n ≤ 4294967296 ∧ Q (nI (n * m)) H
abbrev rnMod : V → V → Hp → VK → Prop := fun x y H Q => ∃ n m : Nat, x = nI n ∧ y = nI m ∧ 1 ≤ m ∧ Q (nI (n % m)) H
abbrev rnShr : V → V → Hp → VK → Prop := fun x y H Q => ∃ n k : Nat, x = nI n ∧ y = nI k ∧ Q (nI (n >>> k)) H
abbrev rnShl : V → V → Hp → VK → Prop := fun x y H Q => ∃ n k b : Nat, x = nI n ∧ y = nI k ∧ (n < 2 ^ b ∧ b + k ≤ 134217728) ∧ Q (nI (n <<< k)) H
theorem cut_mid (l : List Nat) {a b : Nat} (h : a ≤ b) (hb : b ≤ l.length) : cutV (nv l) (some (a : Int)) (some (b : Int)) = nv ((l.drop a).take (b - a)) := by
  unfold cutV
  rw [HT.sIx_nat, HT.sIx_nat, nv_length]
  show ((nv l).drop (min a l.length)).take (min b l.length - min a l.length) = _
  rw [Nat.min_eq_left hb, Nat.min_eq_left (Nat.le_trans h hb)]
  unfold nv
  rw [List.map_take, List.map_drop]
theorem map_range16 {x : List Nat} (h : x.length = 16) (f : Nat → Nat) : x.map f = (List.range 16).map fun i => f (x.getD i 0) := by
  apply List.ext_getElem?
  intro i
  by_cases hi : i < 16
  · rw [range_get hi, List.getElem?_map, get_D (by omega)]
    rfl
  · rw [List.getElem?_eq_none (by simp; omega), List.getElem?_eq_none (by simp; omega)]
end My
/-! ### the request's numbers as naturals -/
namespace My
open PySem PySem.Spec PyProof.Rows L2
open PySem.W (WData Codec)
def zl (x : List Nat) : List Int := x.map fun (k : Nat) => (k : Int)
theorem zl_int (x : List Nat) : (zl x).map V.int = nv x := by unfold zl nv; rw [List.map_map]; rfl
theorem zl_back (x : List Nat) : Sv11Neutral.n (zl x) = x := by
  unfold Sv11Neutral.n zl
  rw [List.map_map]
  conv => rhs; rw [← List.map_id x]
  exact List.map_congr_left fun a _ => Int.toNat_natCast a
theorem nat_of {l : List Int} (h : ∀ z ∈ l, 0 ≤ z) : ∃ x : List Nat, l = zl x := by
  refine ⟨l.map Int.toNat, ?_⟩
  unfold zl
  rw [List.map_map]
  conv => lhs; rw [← List.map_id l]
  exact List.map_congr_left fun a ha => by
    have := h a ha
    show a = ((a.toNat : Nat) : Int)
    omega
theorem word_nat {z : Int} (h : Sv11Neutral.word z = true) : ∃ n : Nat, z = (n : Int) ∧ n < 2 ^ 32 := by
  unfold Sv11Neutral.word at h
  rw [Bool.and_eq_true, decide_eq_true_eq, decide_eq_true_eq] at h
  exact ⟨z.toNat, by omega, by omega⟩
theorem mask_nat {z : Int} (h : Sv11Neutral.mask z = true) : ∃ n : Nat, z = (n : Int) ∧ n < 65536 := by
  unfold Sv11Neutral.mask at h
  rw [Bool.and_eq_true, decide_eq_true_eq, decide_eq_true_eq] at h
  exact ⟨z.toNat, by omega, by omega⟩
theorem words_nat {l : List Int} (h : l.all Sv11Neutral.word = true) : ∃ x : List Nat, l = zl x ∧ ∀ k ∈ x, k < 2 ^ 32 := by
  rw [List.all_eq_true] at h
  obtain ⟨x, rfl⟩ := nat_of fun z hz => by
    obtain ⟨n, e, _⟩ := word_nat (h z hz)
    omega
  refine ⟨x, rfl, fun k hk => ?_⟩
  obtain ⟨n, e, hn⟩ := word_nat (h (k : Int) (List.mem_map.mpr ⟨k, hk, rfl⟩))
  have : k = n := by omega
  omega
theorem row_nat {l : List Int} (h : Sv11Neutral.row l = true) : ∃ x : List Nat, l = zl x ∧ x.length = 16 ∧ ∀ k ∈ x, k < 2 ^ 32 := by
  unfold Sv11Neutral.row at h
  rw [Bool.and_eq_true, decide_eq_true_eq] at h
  obtain ⟨x, rfl, hx⟩ := words_nat h.1
  refine ⟨x, rfl, ?_, hx⟩
  have e := h.2
  unfold zl at e
  rw [List.length_map] at e
  exact e
/-- a row's word as the specification reads it -/
theorem word_eq {x : List Nat} (h : ∀ k ∈ x, k < 2 ^ 32) (i : Nat) : Sv11.word x i = x.getD i 0 := by
  unfold Sv11.word
  apply Nat.mod_eq_of_lt
  rw [List.getD_eq_getElem?_getD]
  cases e : x[i]? with
  | none => show 0 < 2 ^ 32; decide
  | some v => exact h v (List.mem_of_getElem? e)
theorem getD_lt {x : List Nat} (h : ∀ k ∈ x, k < 2 ^ 32) (i : Nat) : x.getD i 0 < 2 ^ 32 := by
  rw [List.getD_eq_getElem?_getD]
  cases e : x[i]? with
  | none => show 0 < 2 ^ 32; decide
  | some v => exact h v (List.mem_of_getElem? e)
theorem words_eq {f g : Nat → Nat} (h : ∀ i, i < 16 → f i = g i ∧ g i < 2 ^ 32) : Sv11.words f = (List.range 16).map g := by
  unfold Sv11.words
  refine List.map_congr_left fun i hi => ?_
  obtain ⟨e, l⟩ := h i (List.mem_range.mp hi)
  rw [e, Nat.mod_eq_of_lt l]
theorem dw_nv {K : PySem.W.Frag} {H : Hp} {p : Addr} {l : List Nat} (h : H p = some (.lst (nv l))) : Dw K H (.ref p) (.list ((zl l).map WData.int)) := by
  rw [← zl_int] at h
  exact .lst (SqL.of h) (dw_ints _)
theorem dw_cons {K : PySem.W.Frag} {H : Hp} {xs : List V} {d : WData} {ds : List WData} (h : DwAll K H xs (d :: ds)) : ∃ v vs, xs = v :: vs ∧ Dw K H v d ∧ DwAll K H vs ds := by
  cases h with
  | cons h1 h2 => exact ⟨_, _, rfl, h1, h2⟩
theorem dw_row {K : PySem.W.Frag} {H : Hp} {v : V} {x : List Nat} (h : Dw K H v (.list ((zl x).map WData.int))) : ∃ a, v = .ref a ∧ SqL K H a (nv x) := by
  cases h with
  | lst hs ha =>
    have e := L2.ints_dw (zl x) _ ha
    subst e
    rw [zl_int] at hs
    exact ⟨_, rfl, hs⟩
end My
/-! ### comprehensions over a list with a test, over range(1, n); answers as ints -/
namespace My
open PySem PySem.Spec PyProof.Rows L2
theorem nv_at {l : List Nat} {i : Nat} {x : V} (hx : (nv l)[i]? = some x) : ∃ v, l[i]? = some v ∧ x = nI v := by
  unfold nv at hx
  rw [List.getElem?_map] at hx
  cases e : l[i]? with
  | none => rw [e] at hx; cases hx
  | some v => rw [e] at hx; exact ⟨v, rfl, (Option.some.inj hx).symm⟩
/-- [e for v in xs if t], xs a list of naturals -/
theorem lcFilL {K : PySem.W.Frag} {a : Addr} {tt : TT} {te : TE} {j : Nat} {σ : L2.St} {H1 : Hp} {D : Addr} {Qd : Hp → Prop} (l : List Nat) (f : Nat → V) (p : Nat → Bool) (hn : l.length ≤ 100000) (hS : SqL K H1 a (nv l)) (hD : H1 D = none)
    (ht : ∀ v H, v ∈ l → Same H1 H → ∀ Q : Bool → Hp → Prop, (∀ H', Same H H' → Q (p v) H') → tt ((wipe σ [j]).set j (some (nI v))) H Q)
    (hs : ∀ v H, v ∈ l → p v = true → Same H1 H → ∀ Q : VK, (∀ H', Same H H' → Q (f v) H') → te ((wipe σ [j]).set j (some (nI v))) H Q)
    (hd : ∀ H3, Same H1 H3 → H3 D = some (.lst ((l.filter p).map f)) → Qd H3) :
    ∃ W : Nat → Nat → Hp → Prop, (∃ m, W 0 m (upd H1 D (.lst []))) ∧ ∀ i m H, W i m H →
      ((Itl K a).stop i H ∧ Qd H) ∨ ((Itl K a).go i H ∧ ∃ Nx : Hp → Prop, (∀ H', Nx H' → ∃ m', m' < m ∧ W (i + 1) m' H') ∧ ∀ x H', (Itl K a).yld i H x H' → gName j x (wipe σ [j]) H' fun σ2 H2 => wipe σ2 [j] = wipe σ [j] ∧ tt σ2 H2 fun b H3 =>
        if b = true then te σ2 H3 fun y H4 => ∃ acc, H4 D = some (.lst acc) ∧ acc.length < sizeLine ∧ Nx (upd H4 D (.lst (acc ++ [y]))) else Nx H3) := by
  refine lc_list (xs := nv l) (fun i H => Same H1 H ∧ H D = some (.lst (((l.take i).filter p).map f))) ⟨same_upd hD, upd_same⟩ (fun i H _ ⟨s, _⟩ => s.seq hS) (fun i x H hx ⟨s, e⟩ => ?_) (fun H ⟨s, e⟩ => hd H s ?_)
  · obtain ⟨v, hv, rfl⟩ := nv_at hx
    refine ⟨wipe_in, ?_⟩
    have hm := List.mem_of_getElem? hv
    refine ht v H hm s _ fun H' s' => ?_
    have sH : Same H1 H' := fun b o z => s' _ _ (s _ _ z)
    have ef : (l.take (i + 1)).filter p = (l.take i).filter p ++ (if p v = true then [v] else []) := by
      rw [List.take_add_one, hv, List.filter_append]
      cases hp : p v <;> simp [hp]
    by_cases hp : p v = true
    · rw [if_pos hp]
      refine hs v H' hm hp sH _ fun H2 s2 => ⟨_, s2 _ _ (s' _ _ e), ?_, ?_, ?_⟩
      · have h1 := List.length_filter_le p (l.take i)
        rw [List.length_take] at h1
        rw [List.length_map]
        exact sizeSmall (by omega)
      · exact same_put hD fun b o z => s2 _ _ (sH _ _ z)
      · rw [upd_same, ef, if_pos hp, List.map_append]
        rfl
    · rw [if_neg hp]
      refine ⟨sH, ?_⟩
      rw [ef, if_neg hp, List.append_nil]
      exact s' _ _ e
  · rw [nv_length, List.take_length] at e
    exact e
/-- [e for i in range(lo, lo + n)] -/
theorem lcMapF {te : TE} {j : Nat} {σ : L2.St} {H1 : Hp} {D : Addr} {Qd : Hp → Prop} (lo : Nat) (f : Nat → V) (n : Nat) (hn : n ≤ 100000) (hD : H1 D = none)
    (hs : ∀ i H, i < n → Same H1 H → ∀ Q : VK, (∀ H', Same H H' → Q (f i) H') → te ((wipe σ [j]).set j (some (nI (lo + i)))) H Q)
    (hd : ∀ H3, Same H1 H3 → H3 D = some (.lst ((List.range n).map f)) → Qd H3) :
    ∃ W : Nat → Nat → Hp → Prop, (∃ m, W 0 m (upd H1 D (.lst []))) ∧ ∀ i m H, W i m H →
      ((Itr (lo : Int) n).stop i H ∧ Qd H) ∨ ((Itr (lo : Int) n).go i H ∧ ∃ Nx : Hp → Prop, (∀ H', Nx H' → ∃ m', m' < m ∧ W (i + 1) m' H') ∧ ∀ x H', (Itr (lo : Int) n).yld i H x H' → gName j x (wipe σ [j]) H' fun σ2 H2 => wipe σ2 [j] = wipe σ [j] ∧ tYes σ2 H2 fun b H3 =>
        if b = true then te σ2 H3 fun y H4 => ∃ acc, H4 D = some (.lst acc) ∧ acc.length < sizeLine ∧ Nx (upd H4 D (.lst (acc ++ [y]))) else Nx H3) := by
  refine lc_range (fun i H => Same H1 H ∧ H D = some (.lst ((List.range i).map f))) ⟨same_upd hD, upd_same⟩ (fun i H hi ⟨s, e⟩ => ?_) (fun H ⟨s, e⟩ => hd H s e)
  rw [show ((lo : Int) + (i : Int)) = ((lo + i : Nat) : Int) from (Int.natCast_add lo i).symm]
  refine ⟨wipe_in, ?_⟩
  refine tYes_of (ifT rfl ?_)
  refine hs i H hi s _ fun H' s' => ⟨_, s' _ _ e, ?_, ?_, ?_⟩
  · rw [List.length_map, List.length_range]
    exact sizeSmall (by omega)
  · exact same_put hD fun b o z => s' _ _ (s _ _ z)
  · rw [upd_same, List.range_succ, List.map_append]
    rfl
/-- an answer of the specification as the list that is given back -/
def ansI (y : Sv11.Ans) : List Int := match y.value with
  | some v => v :: zl y.l
  | none => zl y.l
theorem ix_at {n j : Nat} (h : j < n) : ixN n (j : Int) = some j := by
  unfold ixN
  rw [if_pos (Int.natCast_nonneg j), if_pos (by omega), Int.toNat_natCast]
theorem nv_set (l : List Nat) (j v : Nat) : (nv l).set j (nI v) = nv (l.set j v) := by
  unfold nv
  rw [List.map_set]
theorem take_snoc {l : List Nat} {i : Nat} (h : i < l.length) : l.take (i + 1) = l.take i ++ [l.getD i 0] := by
  rw [List.take_add_one, get_D h]
  rfl
theorem none_back {H H' : Hp} {p : Addr} (s : Same H H') (h : H' p = none) : H p = none := by
  cases e : H p with
  | none => rfl
  | some o => rw [s _ _ e] at h; cases h
theorem rep_nv (k v : Nat) : (List.replicate k [nI v]).flatten = nv (List.replicate k v) := by
  unfold nv
  rw [List.map_replicate, List.flatten_replicate_singleton]
theorem cut_pre (l : List Nat) {b : Nat} (hb : b ≤ l.length) : cutV (nv l) none (some (b : Int)) = nv (l.take b) := by
  unfold cutV
  rw [HT.sIx_none, HT.sIx_nat, nv_length, Nat.min_eq_left hb, Nat.sub_zero, List.drop_zero]
  unfold nv
  rw [List.map_take]
theorem row_no {n : Nat} : Sv11.row n = false ↔ 65536 < n := by
  unfold Sv11.row Sv11.MOST
  rw [decide_eq_false_iff_not]
  omega
end My
/-! ### the request of rows of n -/
namespace My
open PySem PySem.Spec PyProof.Rows L2
open PySem.W (WData Codec)
theorem most_nat {z t : Int} (h : Sv11Neutral.most z t = true) : ∃ n : Nat, z = (n : Int) ∧ n < 2 ^ 32 ∧ (n ≤ 500 ∨ t < (n : Int)) := by
  unfold Sv11Neutral.most at h
  rw [Bool.and_eq_true, decide_eq_true_eq] at h
  obtain ⟨n, rfl, hn⟩ := word_nat h.1
  refine ⟨n, rfl, hn, ?_⟩
  rcases h.2 with h | h
  · exact .inl (by omega)
  · exact .inr h
theorem many_nat {k : Int} {yes : Bool} {l : List Int} (h : Sv11Neutral.many k yes l = true) : ∃ x : List Nat, l = zl x ∧ (∀ k ∈ x, k < 2 ^ 32) ∧ (x.length : Int) = if yes = true then k else 0 := by
  unfold Sv11Neutral.many at h
  rw [Bool.and_eq_true, decide_eq_true_eq] at h
  obtain ⟨x, rfl, hb⟩ := words_nat h.1
  refine ⟨x, rfl, hb, ?_⟩
  have := h.2
  unfold zl at this
  rw [List.length_map] at this
  exact this
theorem dw_iv {K : PySem.W.Frag} {H : Hp} {p : Addr} {l : List Int} (h : H p = some (.lst (l.map V.int))) : Dw K H (.ref p) (.list (l.map WData.int)) := .lst (SqL.of h) (dw_ints _)
theorem whole_int {z : Int} (h : Sv11Neutral.whole32 z = true) : -(2 ^ 31) ≤ z ∧ z < 2 ^ 31 := by
  unfold Sv11Neutral.whole32 at h
  rw [Bool.and_eq_true, decide_eq_true_eq, decide_eq_true_eq] at h
  exact h
end My
/-! ### rows: laid numbers, groups, ascending lists -/
namespace My
theorem laid_snoc (w : Nat) : ∀ (l : List Nat) (x : Nat), Sv11.laid (l ++ [x]) w = Sv11.laid l w + 2 ^ (w * l.length) * x
  | [], x => by
    show x + 2 ^ w * 0 = 0 + 2 ^ (w * 0) * x
    rw [Nat.mul_zero, Nat.mul_zero, Nat.pow_zero]; omega
  | a :: l, x => by
    show a + 2 ^ w * Sv11.laid (l ++ [x]) w = (a + 2 ^ w * Sv11.laid l w) + 2 ^ (w * (l.length + 1)) * x
    rw [laid_snoc w l x, Nat.mul_add, Nat.mul_succ, Nat.add_comm (w * l.length) w, Nat.pow_add, Nat.mul_assoc, Nat.add_assoc]
theorem laid_lt (w : Nat) : ∀ (l : List Nat), (∀ x ∈ l, x < 2 ^ w) → Sv11.laid l w < 2 ^ (w * l.length)
  | [], _ => by show 0 < 2 ^ (w * 0); simp
  | a :: l, h => by
    have ih := laid_lt w l fun x hx => h x (List.mem_cons_of_mem _ hx)
    have ha := h a (List.mem_cons_self ..)
    show a + 2 ^ w * Sv11.laid l w < 2 ^ (w * (l.length + 1))
    rw [Nat.mul_succ, Nat.add_comm (w * l.length) w, Nat.pow_add]
    have : 2 ^ w * (Sv11.laid l w + 1) ≤ 2 ^ w * 2 ^ (w * l.length) := Nat.mul_le_mul_left _ ih
    rw [Nat.mul_add, Nat.mul_one] at this
    omega
theorem laid_or (w : Nat) (l : List Nat) (x : Nat) (h : ∀ y ∈ l, y < 2 ^ w) : Sv11.laid l w ||| (x <<< (w * l.length)) = Sv11.laid (l ++ [x]) w := by
  rw [laid_snoc, Nat.shiftLeft_eq, Nat.mul_comm x, Nat.or_comm, ← Nat.two_pow_add_eq_or_of_lt (laid_lt w l h), Nat.add_comm]
theorem laid_cons (w a : Nat) (l : List Nat) : Sv11.laid (a :: l) w = a + 2 ^ w * Sv11.laid l w := rfl
theorem ofLittles_laid (l : List Nat) : Sv11.ofLittles l = Sv11.laid l 8 := rfl
/-- the field at i of a laid list -/
theorem laid_get (w : Nat) : ∀ (l : List Nat) (i : Nat), (∀ x ∈ l, x < 2 ^ w) → Sv11.laid l w / 2 ^ (w * i) % 2 ^ w = l.getD i 0
  | [], i, _ => by
    show 0 / 2 ^ (w * i) % 2 ^ w = 0
    rw [Nat.zero_div, Nat.zero_mod]
  | a :: l, 0, h => by
    have ha := h a (List.mem_cons_self ..)
    show (a + 2 ^ w * Sv11.laid l w) / 2 ^ (w * 0) % 2 ^ w = a
    rw [Nat.mul_zero, Nat.pow_zero, Nat.div_one, Nat.add_mul_mod_self_left, Nat.mod_eq_of_lt ha]
  | a :: l, i + 1, h => by
    have ha := h a (List.mem_cons_self ..)
    have ih := laid_get w l i fun x hx => h x (List.mem_cons_of_mem _ hx)
    show (a + 2 ^ w * Sv11.laid l w) / 2 ^ (w * (i + 1)) % 2 ^ w = l.getD i 0
    rw [Nat.mul_succ, Nat.add_comm (w * i) w, Nat.pow_add, ← Nat.div_div_eq_div_mul, Nat.add_mul_div_left _ _ (Nat.two_pow_pos w), Nat.div_eq_of_lt ha, Nat.zero_add, ih]
/-- groups: one key more -/
def gAdd (ks vs : List Nat) (g : Nat) : Nat := (((ks.zip vs).filter fun x => x.1 == g).map fun x => x.2).sum
theorem grouped_eq (s ks vs : List Nat) : Sv11.grouped s ks vs = (List.range s.length).map fun g => (s.getD g 0 + gAdd ks vs g) % 2 ^ 32 := rfl
theorem gAdd_snoc {ks vs : List Nat} (h : ks.length = vs.length) (k v g : Nat) : gAdd (ks ++ [k]) (vs ++ [v]) g = gAdd ks vs g + (if k = g then v else 0) := by
  unfold gAdd
  rw [List.zip_append h, List.filter_append, List.map_append, List.sum_append]
  congr 1
  show (List.map (fun x => x.2) (List.filter (fun x => x.1 == g) [(k, v)])).sum = _
  rw [List.filter_cons]
  by_cases e : k = g
  · subst e
    simp
  · rw [if_neg e]
    have : ¬ ((k == g) = true) := by rw [beq_iff_eq]; exact e
    rw [if_neg this]
    rfl
theorem grouped_len (s ks vs : List Nat) : (Sv11.grouped s ks vs).length = s.length := by
  rw [grouped_eq, List.length_map, List.length_range]
theorem grouped_get {s ks vs : List Nat} {g : Nat} (h : g < s.length) : (Sv11.grouped s ks vs)[g]? = some ((s.getD g 0 + gAdd ks vs g) % 2 ^ 32) := by
  rw [grouped_eq, List.getElem?_map, List.getElem?_range h]
  rfl
theorem grouped_nil {s : List Nat} (h : ∀ k ∈ s, k < 2 ^ 32) : Sv11.grouped s [] [] = s := by
  apply List.ext_getElem?
  intro i
  by_cases hi : i < s.length
  · rw [grouped_get hi, List.getElem?_eq_getElem hi]
    have e : s.getD i 0 = s[i] := by
      rw [List.getD_eq_getElem?_getD, List.getElem?_eq_getElem hi]; rfl
    show some ((s.getD i 0 + 0) % 2 ^ 32) = _
    rw [Nat.add_zero, e, Nat.mod_eq_of_lt (h _ (List.getElem_mem hi))]
  · rw [List.getElem?_eq_none (by rw [grouped_len]; omega), List.getElem?_eq_none (by omega)]
/-- a key below: its sum is set -/
theorem grouped_set {s ks vs : List Nat} (h : ks.length = vs.length) {k : Nat} (hk : k < s.length) (v : Nat) :
    Sv11.grouped s (ks ++ [k]) (vs ++ [v]) = (Sv11.grouped s ks vs).set k (((Sv11.grouped s ks vs).getD k 0 + v) % 2 ^ 32) := by
  have hg : (Sv11.grouped s ks vs).getD k 0 = (s.getD k 0 + gAdd ks vs k) % 2 ^ 32 := by
    rw [List.getD_eq_getElem?_getD, grouped_get hk]; rfl
  apply List.ext_getElem?
  intro i
  by_cases hi : i < s.length
  · rw [grouped_get hi, gAdd_snoc h]
    by_cases e : k = i
    · subst e
      rw [List.getElem?_set_self (by rw [grouped_len]; exact hk), hg, if_pos rfl, Nat.mod_add_mod, Nat.add_assoc]
    · rw [if_neg e, List.getElem?_set_ne e, grouped_get hi, Nat.add_zero]
  · rw [List.getElem?_eq_none (by rw [grouped_len]; omega), List.getElem?_eq_none (by rw [List.length_set, grouped_len]; omega)]
/-- a key above: nothing changes -/
theorem grouped_over {s ks vs : List Nat} (h : ks.length = vs.length) {k : Nat} (hk : s.length ≤ k) (v : Nat) : Sv11.grouped s (ks ++ [k]) (vs ++ [v]) = Sv11.grouped s ks vs := by
  rw [grouped_eq, grouped_eq]
  refine List.map_congr_left fun g hg => ?_
  have := List.mem_range.mp hg
  rw [gAdd_snoc h, if_neg (by omega), Nat.add_zero]
/-- ascending: place by place -/
theorem ascends_iff (l : List Nat) : Sv11.ascends l = true ↔ ∀ i, i + 1 < l.length → l.getD i 0 < l.getD (i + 1) 0 := by
  unfold Sv11.ascends
  rw [List.all_eq_true]
  refine ⟨fun h i hi => ?_, fun h x hx => ?_⟩
  · have e : (l.zip (l.drop 1))[i]? = some (l.getD i 0, l.getD (i + 1) 0) := by
      rw [List.getElem?_zip_eq_some]
      refine ⟨?_, ?_⟩
      · show l[i]? = some (l.getD i 0)
        rw [List.getD_eq_getElem?_getD, List.getElem?_eq_getElem (by omega)]; rfl
      · show (l.drop 1)[i]? = some (l.getD (i + 1) 0)
        rw [List.getElem?_drop, Nat.add_comm 1 i, List.getD_eq_getElem?_getD, List.getElem?_eq_getElem hi]; rfl
    exact of_decide_eq_true (h _ (List.mem_of_getElem? e))
  · obtain ⟨i, hi, e⟩ := List.mem_iff_getElem.mp hx
    rw [List.length_zip, List.length_drop] at hi
    rw [List.getElem_zip, List.getElem_drop] at e
    have := h i (by omega)
    rw [List.getD_eq_getElem?_getD, List.getD_eq_getElem?_getD, List.getElem?_eq_getElem (by omega), List.getElem?_eq_getElem (show i + 1 < l.length by omega)] at this
    refine decide_eq_true ?_
    rw [← e]
    have hc : l[1 + i]'(by omega) = l[i + 1]'(by omega) := getElem_congr_idx (Nat.add_comm 1 i)
    show l[i]'(by omega) < l[1 + i]'(by omega)
    rw [hc]
    exact this
end My
/-! ### a product's digits, one row after another -/
namespace My
theorem laid_set (w : Nat) : ∀ (l : List Nat) (k v : Nat), k < l.length → Sv11.laid (l.set k v) w + 2 ^ (w * k) * l.getD k 0 = Sv11.laid l w + 2 ^ (w * k) * v
  | [], k, v, h => absurd h (Nat.not_lt_zero _)
  | a :: l, 0, v, _ => by
    show (v + 2 ^ w * Sv11.laid l w) + 2 ^ (w * 0) * a = (a + 2 ^ w * Sv11.laid l w) + 2 ^ (w * 0) * v
    rw [Nat.mul_zero, Nat.pow_zero, Nat.one_mul, Nat.one_mul]
    omega
  | a :: l, k + 1, v, h => by
    have ih := laid_set w l k v (Nat.lt_of_succ_lt_succ h)
    show (a + 2 ^ w * Sv11.laid (l.set k v) w) + 2 ^ (w * (k + 1)) * l.getD k 0 = (a + 2 ^ w * Sv11.laid l w) + 2 ^ (w * (k + 1)) * v
    rw [Nat.mul_succ, Nat.add_comm (w * k) w, Nat.pow_add, Nat.mul_assoc, Nat.mul_assoc, Nat.add_assoc, Nat.add_assoc, ← Nat.mul_add, ← Nat.mul_add, ih]
theorem laid_zeros (w : Nat) : ∀ k, Sv11.laid (List.replicate k 0) w = 0
  | 0 => rfl
  | k + 1 => by
    show 0 + 2 ^ w * Sv11.laid (List.replicate k 0) w = 0
    rw [laid_zeros w k]
    rfl
theorem getD_set_ne {l : List Nat} {k j v : Nat} (h : k ≠ j) : (l.set k v).getD j 0 = l.getD j 0 := by
  rw [List.getD_eq_getElem?_getD, List.getD_eq_getElem?_getD, List.getElem?_set_ne h]
theorem mem_set_lt {l : List Nat} {k v b : Nat} (h : ∀ x ∈ l, x < b) (hv : v < b) : ∀ x ∈ l.set k v, x < b := fun x hx => by
  rcases List.mem_or_eq_of_mem_set hx with e | e
  · exact h x e
  · rw [e]; exact hv
theorem getD_small {l : List Nat} {b : Nat} (hb : 0 < b) (h : ∀ x ∈ l, x < b) (i : Nat) : l.getD i 0 < b := by
  rw [List.getD_eq_getElem?_getD]
  cases e : l[i]? with
  | none => exact hb
  | some v => exact h v (List.mem_of_getElem? e)
/-- the outer loop at i -/
structure Out (n : Nat) (x y : List Nat) (i : Nat) (R : List Nat) : Prop where
  len : R.length = 2 * n
  dig : ∀ k ∈ R, k < 4503599627370496
  zer : ∀ k, i + n ≤ k → R.getD k 0 = 0
  sum : Sv11.laid R 52 = Sv11.laid (x.take i) 52 * Sv11.laid y 52
/-- the inner loop at j -/
structure Inn (n : Nat) (x y : List Nat) (i j : Nat) (R : List Nat) (c : Nat) : Prop where
  len : R.length = 2 * n
  dig : ∀ k ∈ R, k < 4503599627370496
  zer : ∀ k, i + n ≤ k → R.getD k 0 = 0
  car : c < 4503599627370496
  sum : Sv11.laid R 52 + 2 ^ (52 * (i + j)) * c = Sv11.laid (x.take i) 52 * Sv11.laid y 52 + 2 ^ (52 * i) * (x.getD i 0 * Sv11.laid (y.take j) 52)
theorem out_start (n : Nat) (x y : List Nat) : Out n x y 0 (List.replicate (2 * n) 0) := by
  refine ⟨List.length_replicate .., fun k hk => ?_, fun k _ => ?_, ?_⟩
  · rw [List.eq_of_mem_replicate hk]; decide
  · rw [List.getD_eq_getElem?_getD, List.getElem?_replicate]
    split <;> rfl
  · rw [laid_zeros]
    show 0 = 0 * _
    rw [Nat.zero_mul]
theorem inn_start {n : Nat} {x y : List Nat} {i : Nat} {R : List Nat} (o : Out n x y i R) : Inn n x y i 0 R 0 := by
  refine ⟨o.len, o.dig, o.zer, by decide, ?_⟩
  rw [o.sum, Nat.mul_zero]
  show _ = _ + 2 ^ (52 * i) * (x.getD i 0 * 0)
  rw [Nat.mul_zero, Nat.mul_zero]
theorem dig_step {Y X P r t c m L Q a lb D bj : Nat} (hS : Y + P * r = X + P * (t % 4503599627370496)) (ht : t = r + m + c) (hm : m = a * bj) (hI : X + P * c = L + Q * (a * lb)) (hP : P = Q * D) :
    Y + P * 4503599627370496 * (t / 4503599627370496) = L + Q * (a * (lb + D * bj)) := by
  have e1 : P * t = P * r + P * m + P * c := by rw [ht, Nat.mul_add, Nat.mul_add]
  have e2 : P * (t % 4503599627370496) + P * 4503599627370496 * (t / 4503599627370496) = P * t := by rw [Nat.mul_assoc, ← Nat.mul_add, Nat.mod_add_div]
  have e3 : Q * (a * (lb + D * bj)) = Q * (a * lb) + P * m := by
    rw [Nat.mul_add, Nat.mul_add, hP, hm]
    congr 1
    ac_rfl
  rw [e3]
  generalize P * (t % 4503599627370496) = u1 at *
  generalize P * 4503599627370496 * (t / 4503599627370496) = u2 at *
  generalize P * t = u3 at *
  generalize P * r = u4 at *
  generalize P * m = u5 at *
  generalize P * c = u6 at *
  generalize Q * (a * lb) = u7 at *
  omega
theorem inn_step {n : Nat} {x y : List Nat} {i j : Nat} {R : List Nat} {c : Nat} (hx : ∀ k ∈ x, k < 4503599627370496) (hy : ∀ k ∈ y, k < 4503599627370496) (ly : y.length = n) (hi : i < n) (hj : j < n) (o : Inn n x y i j R c) :
    Inn n x y i (j + 1) (R.set (i + j) ((R.getD (i + j) 0 + x.getD i 0 * y.getD j 0 + c) % 4503599627370496)) ((R.getD (i + j) 0 + x.getD i 0 * y.getD j 0 + c) / 4503599627370496) := by
  obtain ⟨len, dig, zer, car, sum⟩ := o
  have h1 := getD_small (by decide) hx i
  have h2 := getD_small (by decide) hy j
  have h3 := getD_small (by decide) dig (i + j)
  have h4 : x.getD i 0 * y.getD j 0 ≤ 4503599627370495 * 4503599627370495 := Nat.mul_le_mul (by omega) (by omega)
  refine ⟨by rw [List.length_set]; exact len, mem_set_lt dig (Nat.mod_lt _ (by decide)), fun k hk => ?_, ?_, ?_⟩
  · rw [getD_set_ne (by omega)]
    exact zer k hk
  · refine Nat.div_lt_of_lt_mul ?_
    omega
  · have hS := laid_set 52 R (i + j) ((R.getD (i + j) 0 + x.getD i 0 * y.getD j 0 + c) % 4503599627370496) (by omega)
    have tk : y.take (j + 1) = y.take j ++ [y.getD j 0] := by
      rw [List.take_add_one, List.getD_eq_getElem?_getD, List.getElem?_eq_getElem (show j < y.length by omega)]
      rfl
    have hp1 : 2 ^ (52 * (i + j)) = 2 ^ (52 * i) * 2 ^ (52 * j) := by rw [Nat.mul_add, Nat.pow_add]
    have hp2 : 2 ^ (52 * (i + (j + 1))) = 2 ^ (52 * (i + j)) * 4503599627370496 := by
      rw [show 52 * (i + (j + 1)) = 52 * (i + j) + 52 by omega, Nat.pow_add]
    have hl : (y.take j).length = j := by rw [List.length_take]; omega
    rw [tk, laid_snoc, hl, hp2]
    exact dig_step hS rfl rfl sum hp1
theorem inn_end {n : Nat} {x y : List Nat} {i : Nat} {R : List Nat} {c : Nat} (lx : x.length = n) (ly : y.length = n) (hi : i < n) (o : Inn n x y i n R c) : Out n x y (i + 1) (R.set (i + n) c) := by
  obtain ⟨len, dig, zer, car, sum⟩ := o
  refine ⟨by rw [List.length_set]; exact len, mem_set_lt dig car, fun k hk => ?_, ?_⟩
  · rw [getD_set_ne (by omega)]
    exact zer k (by omega)
  · have hS := laid_set 52 R (i + n) c (by omega)
    rw [zer (i + n) (Nat.le_refl _), Nat.mul_zero, Nat.add_zero] at hS
    have tk : x.take (i + 1) = x.take i ++ [x.getD i 0] := by
      rw [List.take_add_one, List.getD_eq_getElem?_getD, List.getElem?_eq_getElem (show i < x.length by omega)]
      rfl
    have hl : (x.take i).length = i := by rw [List.length_take]; omega
    rw [hS, sum, tk, laid_snoc, hl, List.take_of_length_le (show y.length ≤ n by omega), Nat.add_mul, Nat.mul_assoc]
def prodM (n : Nat) (x y : List Nat) : List Nat := (List.range (2 * n)).map fun i => Sv11.number x * Sv11.number y / 2 ^ (52 * i) % 2 ^ 52
theorem out_end {n : Nat} {x y R : List Nat} (lx : x.length = n) (o : Out n x y n R) : R = prodM n x y := by
  obtain ⟨len, dig, zer, sum⟩ := o
  rw [List.take_of_length_le (show x.length ≤ n by omega)] at sum
  apply List.ext_getElem?
  intro i
  unfold prodM
  by_cases hi : i < 2 * n
  · rw [List.getElem?_map, List.getElem?_range hi]
    have h := laid_get 52 R i dig
    rw [sum] at h
    show R[i]? = some (Sv11.laid x 52 * Sv11.laid y 52 / 2 ^ (52 * i) % 2 ^ 52)
    rw [h, List.getD_eq_getElem?_getD, List.getElem?_eq_getElem (show i < R.length by omega)]
    rfl
  · rw [List.getElem?_eq_none (by omega), List.getElem?_eq_none (by simp; omega)]
end My
namespace My
open PySem PySem.Spec PyProof.Rows L2
def topS (i : Nat) : Stmt := PySem.Challenge.pw_sixteenwordsdesk_s23_product.main.body.getD i (.Pass ⟨0, 0, 0, 0⟩)
abbrev s_are_digits : Stmt := topS 3
abbrev s_product_digits : Stmt := topS 4
abbrev s_product : Stmt := topS 5
structure Txt (K : PySem.W.Frag) (mg : Str → Option Value) : Prop where
  c_MOST_DIGITS : ∃ t, mg "MOST_DIGITS" = some (.int 64 t)
  c_DIGIT_LIMIT : ∃ t, mg "DIGIT_LIMIT" = some (.int 4503599627370496 t)
  n_all : mg "all" = none
  n_range : mg "range" = none
section
variable {P : Program} {w : World} {K : PySem.W.Frag} {mg : Str → Option Value} {base : Heap}
/-! ### are_digits -/
theorem sc_are_digits : FnScope ["numbers", "number"] ["numbers"] (defScope s_are_digits) := ⟨rfl, rfl, rfl, by decide +kernel, rfl, by decide +kernel, by decide +kernel⟩
def digB (l : List Nat) : Bool := l.all fun v => decide (v < 4503599627370496)
def sp_are_digits (K : PySem.W.Frag) : Sp := fun vs H Q _ => ∃ (a : Addr) (l : List Nat), vs = [.ref a] ∧ SqL K H a (nv l) ∧ l.length ≤ 64 ∧ ∀ H', Same H H' → Q (.bl (digB l)) H'
theorem ok_are_digits {f : Addr} {fd : FuncData} (T : Txt K mg) (F : Fun K "are_digits" "are_digits" s_are_digits f fd) : FnOk P w K mg base CX0 1 f fd ["numbers"] (sp_are_digits K) := by
  obtain ⟨tD, hD⟩ := T.c_DIGIT_LIMIT
  refine F.ok sc_are_digits (fun vs H Q E h => ?_) (fun cdv A outer s H vs Q E hr h => ?_)
  · obtain ⟨a, l, rfl, _⟩ := h
    rfl
  · obtain ⟨a, l, rfl, hS, hl, q⟩ := h
    refine ⟨_, pss_one (ps_ret (pe_callB (cr_all rfl) (by rfl) T.n_all (by decide +kernel) (pa_cons (pe_lc (own := [("number", 1)]) (g := gName 1) (tt := tYes) (by rfl) sc_are_digits.nd
          (pi_list (pv 0))
          (blkOk_by (own := [("number", 1)]) (N := ["numbers", "number"]) (sc := defScope s_are_digits) (by decide +kernel))
          (fun _ _ _ _ _ => pg_name (i := 1) sc_are_digits.nd rfl (Or.inl rfl)) (fun _ _ _ _ _ => pts_nil)
          (fun _ _ _ _ _ => pe_cmpR on_lt (pv 1) (pe_glob (v := nI 4503599627370496) (by rfl) hD ⟨_, rfl⟩) (nomark _))) pa_nil))), ?_⟩
    refine ⟨.ref a, rfl, a, rfl, ⟨_, hS⟩, fun D hD => ?_⟩
    refine lcMapL l (fun v => V.bl (decide (v < 4503599627370496))) (by omega) hS hD ?_ ?_
    · intro v H' hv sm Q' hq
      exact ⟨_, rfl, v, 4503599627370496, rfl, rfl, hq _ (same_refl _)⟩
    · intro H3 s3 e3
      refine ⟨D, l.map fun v => decide (v < 4503599627370496), rfl, SqL.of ?_, ?_⟩
      · rw [e3, List.map_map]
        rfl
      · rw [List.all_map]
        exact q H3 s3
/-! ### product_digits -/
theorem sc_product_digits : FnScope ["n", "a", "b", "answer", "i", "carry", "j", "total"] ["n", "a", "b"] (defScope s_product_digits) := ⟨rfl, rfl, rfl, by decide +kernel, rfl, by decide +kernel, by decide +kernel⟩
def sp_product_digits (K : PySem.W.Frag) : Sp := fun vs H Q _ => ∃ (n : Nat) (a b : Addr) (x y : List Nat), vs = [nI n, .ref a, .ref b] ∧ SqL K H a (nv x) ∧ SqL K H b (nv y) ∧ (x.length = n ∧ y.length = n ∧ n ≤ 64) ∧
  ((∀ k ∈ x, k < 4503599627370496) ∧ (∀ k ∈ y, k < 4503599627370496)) ∧ ∀ H' p, Same H H' → H p = none → H' p = some (.lst (nv (prodM n x y))) → Q (.ref p) H'
theorem ok_product_digits {f : Addr} {fd : FuncData} (T : Txt K mg) (F : Fun K "product_digits" "product_digits" s_product_digits f fd) : FnOk P w K mg base CX0 1 f fd ["n", "a", "b"] (sp_product_digits K) := by
  obtain ⟨tD, hD⟩ := T.c_DIGIT_LIMIT
  refine F.ok sc_product_digits (fun vs H Q E h => ?_) (fun cdv A outer s H vs Q E hr h => ?_)
  · obtain ⟨n, a, b, x, y, rfl, _⟩ := h
    rfl
  · obtain ⟨n, a, b, x, y, rfl, hA, hB, ⟨lx, ly, hn⟩, ⟨bx, by'⟩, q⟩ := h
    refine ⟨_, pss_cons (ps_set (i := 3) sc_product_digits.nd rfl (.inl rfl) (pe_op op_rep (pe_lst (pa_cons pe_int pa_nil)) (pe_op on_mul pe_int (pv 0))))
      (pss_cons (ps_for PassesOwn.never rfl (pi_range1 (by rfl) T.n_range (pa_cons (pv 0) pa_nil)) (pg_name (i := 4) sc_product_digits.nd rfl (Or.inl rfl))
        (pss_cons (ps_set (i := 5) sc_product_digits.nd rfl (.inl rfl) pe_int)
        (pss_cons (ps_for PassesOwn.never rfl (pi_range1 (by rfl) T.n_range (pa_cons (pv 0) pa_nil)) (pg_name (i := 6) sc_product_digits.nd rfl (Or.inl rfl))
          (pss_cons (ps_set (i := 7) sc_product_digits.nd rfl (.inl rfl) (pe_op on_add (pe_op on_add (pe_ix ix_list (pv 3) (pe_op on_add (pv 4) (pv 6)) (fun _ _ => rfl)) (pe_op on_mulW (pe_ix ix_list (pv 1) (pv 4) (fun _ _ => rfl)) (pe_ix ix_list (pv 2) (pv 6) (fun _ _ => rfl)))) (pv 5)))
          (pss_cons (ps_asg (pe_op on_mod (pv 7) (pe_glob (v := nI 4503599627370496) (by rfl) hD ⟨_, rfl⟩)) (pg_sub (pv 3) (pe_op on_add (pv 4) (pv 6)) set_list))
          (pss_one (ps_set (i := 5) sc_product_digits.nd rfl (.inl rfl) (pe_op on_fdivW (pv 7) (pe_glob (v := nI 4503599627370496) (by rfl) hD ⟨_, rfl⟩)))))))
        (pss_one (ps_asg (pv 5) (pg_sub (pv 3) (pe_op on_add (pv 4) (pv 0)) set_list))))))
      (pss_one (ps_ret (pv 3)))), ?_⟩
    refine ⟨by show 1 ≤ sizeLine; decide, fun p0 h0 => ?_⟩
    refine ⟨_, rfl, 2, n, rfl, rfl, by decide, p0, ((2 * n : Nat) : Int), [nI 0], rfl, rfl, upd_same, by omega, by omega, ?_, fun D hD' => ?_⟩
    · rw [Int.toNat_natCast]
      show 1 * (2 * n) ≤ sizeLine
      exact Nat.le_of_lt (sizeSmall (by omega))
    rw [Int.toNat_natCast, rep_nv]
    have s0 : Same H (upd H p0 (.lst [nI 0])) := same_upd h0
    have hA0 := s0.seq hA
    have hB0 := s0.seq hB
    have hDn : H D = none := none_back s0 hD'
    have s0 : Same H (upd H p0 (HO.lst [nI 0])) := s0
    refine ⟨_, rfl, (n : Int), rfl, by omega, by omega, ?_⟩
    refine for_range (lo := 0) (n := n) (fun i σ H' => ∃ y4 y5 y6 y7 R, σ = [some (nI n), some (.ref a), some (.ref b), some (.ref D), y4, y5, y6, y7] ∧ Same H H' ∧ H' D = some (.lst (nv R)) ∧ Out n x y i R)
      ⟨none, none, none, none, _, rfl, same_put hDn s0, upd_same, out_start n x y⟩ (fun i σ H' hi hP => ?_) (fun σ H' hP => ?_)
    · obtain ⟨y4, y5, y6, y7, R, rfl, sm, eD, ou⟩ := hP
      rw [Int.zero_add]
      refine ⟨_, rfl, (n : Int), rfl, by omega, by omega, ?_⟩
      refine for_range (lo := 0) (n := n) (fun j σ H' => ∃ c y6 y7 R, σ = [some (nI n), some (.ref a), some (.ref b), some (.ref D), some (nI i), some (nI c), y6, y7] ∧ Same H H' ∧ H' D = some (.lst (nv R)) ∧ Inn n x y i j R c)
        ⟨0, y6, y7, R, rfl, sm, eD, inn_start ou⟩ (fun j σ H' hj hP => ?_) (fun σ H' hP => ?_)
      · obtain ⟨c, y6, y7, R, rfl, sm, eD, inn⟩ := hP
        rw [Int.zero_add]
        have hlen : i + j < R.length := by rw [inn.len]; omega
        refine ⟨.ref D, rfl, _, rfl, _, rfl, i, j, rfl, rfl, D, nv R, _, nI (R.getD (i + j) 0), rfl, rfl, SqL.of eD, at_nv (get_D hlen), ?_⟩
        refine ⟨.ref a, rfl, _, rfl, a, nv x, _, nI (x.getD i 0), rfl, rfl, sm.seq hA, at_nv (get_D (by omega)), ?_⟩
        refine ⟨.ref b, rfl, _, rfl, b, nv y, _, nI (y.getD j 0), rfl, rfl, sm.seq hB, at_nv (get_D (by omega)), ?_⟩
        refine ⟨x.getD i 0, y.getD j 0, rfl, rfl, Nat.lt_trans (getD_small (by decide) bx i) (by decide), ?_⟩
        refine ⟨_, _, rfl, rfl, _, rfl, _, _, rfl, rfl, ?_⟩
        refine ⟨_, rfl, R.getD (i + j) 0 + x.getD i 0 * y.getD j 0 + c, 4503599627370496, rfl, rfl, by decide, ?_⟩
        refine ⟨.ref D, rfl, _, rfl, _, rfl, i, j, rfl, rfl, D, nv R, _, i + j, rfl, rfl, eD, ix_at (by rw [nv_length]; exact hlen), ?_⟩
        refine ⟨_, rfl, R.getD (i + j) 0 + x.getD i 0 * y.getD j 0 + c, 4503599627370496, rfl, rfl, ⟨by decide, by decide⟩, ?_⟩
        refine ⟨_, some (nI j), some (nI (R.getD (i + j) 0 + x.getD i 0 * y.getD j 0 + c)), _, rfl, same_put hDn sm, ?_, inn_step bx by' ly hi hj inn⟩
        rw [upd_same, nv_set]
      · obtain ⟨c, y6, y7, R, rfl, sm, eD, inn⟩ := hP
        refine ⟨_, rfl, .ref D, rfl, _, rfl, _, rfl, i, n, rfl, rfl, D, nv R, _, i + n, rfl, rfl, eD, ix_at (by rw [nv_length, inn.len]; omega), ?_⟩
        refine ⟨some (nI i), some (nI c), y6, y7, _, rfl, same_put hDn sm, ?_, inn_end lx ly hi inn⟩
        rw [upd_same, nv_set]
    · obtain ⟨y4, y5, y6, y7, R, rfl, sm, eD, ou⟩ := hP
      rw [out_end lx ou] at eD
      exact ⟨.ref D, rfl, q H' D sm hDn eD⟩
/-! ### product -/
theorem sc_product : FnScope ["n", "a", "b"] ["n", "a", "b"] (defScope s_product) := ⟨rfl, rfl, rfl, by decide +kernel, rfl, by decide +kernel, by decide +kernel⟩
def productM (n : Nat) (x y : List Nat) : List Int := if 64 < n then [-1] else if digB x = false ∨ digB y = false then [-2] else 0 :: zl (prodM n x y)
def sp_product (K : PySem.W.Frag) : Sp := fun vs H Q _ => ∃ (n : Nat) (a b : Addr) (x y : List Nat), vs = [nI n, .ref a, .ref b] ∧ SqL K H a (nv x) ∧ SqL K H b (nv y) ∧ (n ≤ 64 → x.length = n ∧ y.length = n) ∧ ∀ H' p, H' p = some (.lst ((productM n x y).map V.int)) → Q (.ref p) H'
theorem dig_all {l : List Nat} (h : ¬ digB l = false) : ∀ k ∈ l, k < 4503599627370496 := by
  rw [Bool.not_eq_false] at h
  unfold digB at h
  rw [List.all_eq_true] at h
  exact fun k hk => of_decide_eq_true (h k hk)
theorem ok_product {f fA fP : Addr} {fd fdA fdP : FuncData} (T : Txt K mg) (F : Fun K "product" "product" s_product f fd) (DA : DefAt K mg "are_digits" s_are_digits ["numbers"] fA fdA) (DP : DefAt K mg "product_digits" s_product_digits ["n", "a", "b"] fP fdP) :
    FnOk P w K mg base CX0 2 f fd ["n", "a", "b"] (sp_product K) := by
  have GA : FnOk P w K mg base CX0 1 fA fdA ["numbers"] (sp_are_digits K) := ok_are_digits T DA.F
  have GP : FnOk P w K mg base CX0 1 fP fdP ["n", "a", "b"] (sp_product_digits K) := ok_product_digits T DP.F
  obtain ⟨tM, hM⟩ := T.c_MOST_DIGITS
  refine F.ok sc_product (fun vs H Q E h => ?_) (fun cdv A outer s H vs Q E hr h => ?_)
  · obtain ⟨n, a, b, x, y, rfl, _⟩ := h
    rfl
  · obtain ⟨n, a, b, x, y, rfl, hA, hB, hl, q⟩ := h
    refine ⟨_, pss_cons (ps_if (pt_cmpR on_gt (pv 0) (pe_glob (v := nI 64) (by rfl) hM ⟨_, rfl⟩) (nomark _)) (pss_one (ps_ret (pe_lst (pa_cons (pe_un un_neg pe_int) pa_nil)))) pss_nil)
      (pss_cons (ps_if (PW.pt (pw_or (pt_not (pt_val (pe_call (E := EN) GA hr (by rfl) DA.g DA.F.kp DA.b .nil pass0 (pa_cons (pv 1) pa_nil)))) (pw_or1 (pt_not (pt_val (pe_call (E := EN) GA hr (by rfl) DA.g DA.F.kp DA.b .nil pass0 (pa_cons (pv 2) pa_nil)))))))
        (pss_one (ps_ret (pe_lst (pa_cons (pe_un un_neg pe_int) pa_nil)))) pss_nil)
      (pss_one (ps_ret (pe_op op_cat (pe_lst (pa_cons pe_int pa_nil)) (pe_call (E := EN) GP hr (by rfl) DP.g DP.F.kp DP.b .nil pass0 (pa_cons (pv 0) (pa_cons (pv 1) (pa_cons (pv 2) pa_nil)))))))), ?_⟩
    unfold productM at q
    refine ⟨_, rfl, n, 64, rfl, rfl, _, rfl, ?_⟩
    by_cases h1 : 64 < n
    · refine ifT (decide_eq_true h1) ?_
      rw [if_pos h1] at q
      exact ⟨1, rfl, by show 1 ≤ sizeLine; decide, fun p np => q _ p upd_same⟩
    refine ifF (by rw [decide_eq_false h1]; decide) ?_
    rw [if_neg h1] at q
    obtain ⟨lx, ly⟩ := hl (by omega)
    refine ⟨.ref a, rfl, a, x, rfl, hA, by omega, fun H1 s1 => ⟨_, rfl, ?_⟩⟩
    by_cases ax : digB x = false
    · refine ifT (by rw [ax]; rfl) (ifT rfl ?_)
      rw [if_pos (.inl ax)] at q
      exact ⟨2, rfl, by show 1 ≤ sizeLine; decide, fun p np => q _ p upd_same⟩
    refine ifF (by intro z; rw [Bool.not_eq_true'] at z; exact ax z) ?_
    refine ⟨.ref b, rfl, b, y, rfl, s1.seq hB, by omega, fun H2 s2 => ⟨_, rfl, ?_⟩⟩
    by_cases ay : digB y = false
    · refine ifT (by rw [ay]; rfl) ?_
      rw [if_pos (.inr ay)] at q
      exact ⟨2, rfl, by show 1 ≤ sizeLine; decide, fun p np => q _ p upd_same⟩
    refine ifF (by intro z; rw [Bool.not_eq_true'] at z; exact ay z) ?_
    rw [if_neg (fun z => z.elim ax ay), List.map_cons, zl_int] at q
    have s12 := s1.trans s2
    refine ⟨by show 1 ≤ sizeLine; decide, fun p np => ?_⟩
    refine ⟨_, rfl, .ref a, rfl, .ref b, rfl, n, a, b, x, y, rfl, (same_upd np).seq (s12.seq hA), (same_upd np).seq (s12.seq hB), ⟨lx, ly, by omega⟩, ⟨dig_all ax, dig_all ay⟩, fun H3 p3 s3 n3 e3 => ?_⟩
    refine ⟨p, p3, [.int 0], _, rfl, rfl, s3 _ _ upd_same, e3, ?_, fun p4 n4 => q _ p4 ?_⟩
    · rw [nv_length]
      unfold prodM
      rw [List.length_map, List.length_range]
      show 1 + 2 * n ≤ sizeLine
      exact Nat.le_of_lt (sizeSmall (by omega))
    · rw [upd_same]
      rfl
end
theorem all_mk {P : Program} {w : World} {K : PySem.W.Frag} {h : Heap} {mg : Str → Option Value} {fa f1 f2 f3 : Addr} (X : K.In h) (G : h.Ns mainGlobals mg) (hfa : mg "product" = some (.ref fa))
    {od1 an1 od2 an2 od3 an3 : Option Addr} {sl1 sl2 sl3 : Array (Option Value)} {oc1 kV1 dc1 pm1 cd1 ct1 oc2 kV2 dc2 pm2 cd2 ct2 oc3 kV3 dc3 pm3 cd3 ct3 : Value}
    {t_MOST_DIGITS t_DIGIT_LIMIT : Tok}
    (a1 : PySem.W.nsIn K mainGlobals "are_digits" = some (some (.ref f1))) (l1 : K.lookup f1 = some ⟨oc1, od1, .func (PySem.W.fnOf "are_digits" "are_digits" (defArgs s_are_digits) (defBody s_are_digits) (defScope s_are_digits) .none kV1 dc1 pm1 an1 cd1 ct1), sl1⟩) (c1 : PySem.W.codeIn K cd1 "are_digits" = true) (k1 : PySem.W.keepIn K (.ref f1) = true)
    (a2 : PySem.W.nsIn K mainGlobals "product_digits" = some (some (.ref f2))) (l2 : K.lookup f2 = some ⟨oc2, od2, .func (PySem.W.fnOf "product_digits" "product_digits" (defArgs s_product_digits) (defBody s_product_digits) (defScope s_product_digits) .none kV2 dc2 pm2 an2 cd2 ct2), sl2⟩) (c2 : PySem.W.codeIn K cd2 "product_digits" = true) (k2 : PySem.W.keepIn K (.ref f2) = true)
    (a3 : PySem.W.nsIn K mainGlobals "product" = some (some (.ref f3))) (l3 : K.lookup f3 = some ⟨oc3, od3, .func (PySem.W.fnOf "product" "product" (defArgs s_product) (defBody s_product) (defScope s_product) .none kV3 dc3 pm3 an3 cd3 ct3), sl3⟩) (c3 : PySem.W.codeIn K cd3 "product" = true) (k3 : PySem.W.keepIn K (.ref f3) = true)
    (v_MOST_DIGITS : PySem.W.nsIn K mainGlobals "MOST_DIGITS" = some (some (.int 64 t_MOST_DIGITS)))
    (v_DIGIT_LIMIT : PySem.W.nsIn K mainGlobals "DIGIT_LIMIT" = some (some (.int 4503599627370496 t_DIGIT_LIMIT)))
    (z_all : PySem.W.nsIn K mainGlobals "all" = some none)
    (z_range : PySem.W.nsIn K mainGlobals "range" = some none)
    : ∃ fd : FuncData, (∀ (s : Shared) (us : List Value), us.length = (["n", "a", "b"] : List Str).length → BindsTo s fd ⟨us, []⟩ ((["n", "a", "b"] : List Str).zip us)) ∧ ∀ base : Heap, K.In base → base.Ns mainGlobals mg → FnOk P w K mg base CX0 2 fa fd ["n", "a", "b"] (sp_product K) := by
  have e := hfa.symm.trans (PySem.W.mg_of X G a3)
  cases e
  have T : Txt K mg := ⟨⟨_, PySem.W.mg_of X G v_MOST_DIGITS⟩, ⟨_, PySem.W.mg_of X G v_DIGIT_LIMIT⟩, PySem.W.mg_none_of X G z_all, PySem.W.mg_none_of X G z_range⟩
  have F1 := fun_mk (st := s_are_digits) l1 c1 k1
  have b1 := F1.binds (ps := ["numbers"]) fun _ _ _ _ _ _ us hl => match us, hl with | [_], _ => rfl
  have D1 : DefAt K mg "are_digits" s_are_digits ["numbers"] f1 _ := ⟨F1, b1, PySem.W.mg_of X G a1⟩
  have F2 := fun_mk (st := s_product_digits) l2 c2 k2
  have b2 := F2.binds (ps := ["n", "a", "b"]) fun _ _ _ _ _ _ us hl => match us, hl with | [_, _, _], _ => rfl
  have D2 : DefAt K mg "product_digits" s_product_digits ["n", "a", "b"] f2 _ := ⟨F2, b2, PySem.W.mg_of X G a2⟩
  have F3 := fun_mk (st := s_product) l3 c3 k3
  have b3 := F3.binds (ps := ["n", "a", "b"]) fun _ _ _ _ _ _ us hl => match us, hl with | [_, _, _], _ => rfl
  exact ⟨PySem.W.fnOf "product" "product" (defArgs s_product) (defBody s_product) (defScope s_product) .none kV3 dc3 pm3 an3 cd3 ct3, fun s us hu => match us, hu with | [_, _, _], _ => .of_eq rfl, fun base _ _ => ok_product T F3 D1 D2⟩
theorem dig_any (l : List Nat) : (l.any fun v => decide (2 ^ 52 ≤ v)) = !digB l := by
  unfold digB
  rw [List.not_all_eq_any_not]
  congr 1
  funext v
  by_cases h : v < 4503599627370496
  · rw [decide_eq_true h, decide_eq_false (show ¬ 2 ^ 52 ≤ v by omega)]
    rfl
  · rw [decide_eq_false h, decide_eq_true (show 2 ^ 52 ≤ v by omega)]
    rfl
theorem spec_product (n : Nat) (x y : List Nat) : PySv11.product (n : Int) (zl x) (zl y) = productM n x y := by
  show ansI (Sv11.spec (.product (Sv11Neutral.n (zl x)) (Sv11Neutral.n (zl y)) (Int.toNat (n : Int)))) = _
  rw [zl_back, zl_back, Int.toNat_natCast]
  show ansI (if 64 < n then Sv11.no else if (x ++ y).any (fun v => decide (2 ^ 52 ≤ v)) = true then Sv11.code (-2) [] else Sv11.code 0 (prodM n x y)) = _
  unfold productM
  rw [List.any_append, dig_any, dig_any]
  by_cases h : 64 < n
  · rw [if_pos h, if_pos h]
    rfl
  · rw [if_neg h, if_neg h]
    cases digB x <;> cases digB y <;> rfl
theorem req_product {K : PySem.W.Frag} {H : Hp} {xs : List V} {a : PySem.W.Codec.denoteAll PySem.Challenge.rw_sixteenwordsdesk_s23_product.args}
    (hask : PySem.W.Codec.app PySem.Challenge.rw_sixteenwordsdesk_s23_product.args PySem.Challenge.rw_sixteenwordsdesk_s23_product.asked a = true) (hx : DwAll K H xs (PySem.W.Codec.encAll PySem.Challenge.rw_sixteenwordsdesk_s23_product.args a)) :
    sp_product K xs H (fun v H' => Dw K H' v (PySem.Challenge.rw_sixteenwordsdesk_s23_product.ret.enc (PySem.W.Codec.app PySem.Challenge.rw_sixteenwordsdesk_s23_product.args PySem.Challenge.rw_sixteenwordsdesk_s23_product.f a))) fun _ _ _ => False := by
  obtain ⟨n, x, y, u⟩ := a
  have hask : (Sv11Neutral.word n && ((List.all (α := Int) (List.append x y) (fun z => decide (0 ≤ z) && decide (z < 2 ^ 64))) && (decide ((x.length : Int) = if n ≤ (64 : Int) then n else (0 : Int)) && decide (y.length = x.length)))) = true := hask
  rw [Bool.and_eq_true, Bool.and_eq_true, Bool.and_eq_true, List.all_eq_true] at hask
  obtain ⟨h1, h2, h3, h4⟩ := hask
  have pos : ∀ z : Int, z ∈ (show List Int from x) ∨ z ∈ (show List Int from y) → 0 ≤ z := fun z hz => by
    have := h2 z (List.mem_append.mpr hz)
    rw [Bool.and_eq_true, decide_eq_true_eq, decide_eq_true_eq] at this
    exact this.1
  obtain ⟨n, rfl, hn⟩ := word_nat h1
  obtain ⟨x, rfl⟩ := nat_of (l := x) fun z hz => pos z (.inl hz)
  obtain ⟨y, rfl⟩ := nat_of (l := y) fun z hz => pos z (.inr hz)
  have h3 : ((zl x).length : Int) = if (n : Int) ≤ 64 then (n : Int) else (0 : Int) := of_decide_eq_true h3
  have h4 : (zl y).length = (zl x).length := of_decide_eq_true h4
  have hl : n ≤ 64 → x.length = n ∧ y.length = n := fun c => by
    have z1 : (zl x).length = x.length := List.length_map ..
    have z2 : (zl y).length = y.length := List.length_map ..
    rw [if_pos (by omega)] at h3
    omega
  have hx : DwAll K H xs [.int (n : Int), .list ((zl x).map PySem.W.WData.int), .list ((zl y).map PySem.W.WData.int)] := hx
  obtain ⟨v1, r1, rfl, g1, hx⟩ := dw_cons hx
  obtain ⟨v2, r2, rfl, g2, hx⟩ := dw_cons hx
  obtain ⟨v3, r3, rfl, g3, hx⟩ := dw_cons hx
  cases hx
  cases g1
  obtain ⟨a2, rfl, s2⟩ := dw_row g2
  obtain ⟨a3, rfl, s3⟩ := dw_row g3
  refine ⟨n, _, _, x, y, rfl, s2, s3, hl, fun H' p hp => ?_⟩
  show Dw K H' (.ref p) (.list ((PySv11.product (n : Int) (zl x) (zl y)).map PySem.W.WData.int))
  rw [spec_product]
  exact dw_iv hp
end My
open PySem PySem.W PyProof.Rows
set_option maxRecDepth 100000 in
set_option maxHeartbeats 8000000 in
theorem PySem.Challenge.cw_sixteenwordsdesk_s23_product_holds : PySem.Challenge.rw_sixteenwordsdesk_s23_product.Holds := by
  w_on; k_headS; (case hw => exact ⟨[.int 0, .list [], .list []], by decide +kernel, by decide +kernel⟩)
  k_fillS
  refine L2.walk_specK (r := PySem.Challenge.rw_sixteenwordsdesk_s23_product) (k := 2) (CX := L2.CX0) (ps := ["n", "a", "b"]) (sp := My.sp_product) (by decide +kernel) rfl rfl ⟨rfl, by decide, by decide⟩ (fun w h Y => PySem.W.kIn_of Y) ?F ?S (fun _ _ _ _ z => z)
  case F =>
    intro w mg fa h Y KX G hmg
    refine' My.all_mk KX G hmg ?a1 ?l1 ?c1 ?k1 ?a2 ?l2 ?c2 ?k2 ?a3 ?l3 ?c3 ?k3 ?v_MOST_DIGITS ?v_DIGIT_LIMIT ?z_all ?z_range
    (case a1 => k_is); (case l1 => k_is); (case c1 => k_is); (case k1 => k_is); (case a2 => k_is); (case l2 => k_is); (case c2 => k_is); (case k2 => k_is); (case a3 => k_is); (case l3 => k_is); (case c3 => k_is); (case k3 => k_is); (case v_MOST_DIGITS => k_is); (case v_DIGIT_LIMIT => k_is); (case z_all => k_is); (case z_range => k_is)
  case S =>
    intro K H xs a hO hwi hask hx
    exact My.req_product hask hx
#print axioms PySem.Challenge.cw_sixteenwordsdesk_s23_product_holds
