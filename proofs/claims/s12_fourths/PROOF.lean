import PyProof.Rows.All
import Wide.All
import OpenK.AllK
import Wide.FinOn
import Open.SpecLaws
import KE.OsGo
import HandS.Base
import HandS.Call
import HandS.List
import HandS.Ends
import HandS.Spec
import HandS.Words
import HandS.WordsList
import HandS.Comp
import HandS.WideBits
import PySem.Challenge.RW_sixteenwordsdesk_s12_fourths
set_option Elab.async false
set_option linter.all false
set_option maxRecDepth 100000
set_option maxHeartbeats 1000000
/-! ### words of my own: naturals as Python ints, rows as lists of naturals -/
namespace My
open PySem PySem.Spec PyProof.Rows L2
abbrev nI (n : Nat) : V := V.int (n : Int)
def nv (l : List Nat) : List V := l.map nI
theorem nv_length (l : List Nat) : (nv l).length = l.length := List.length_map ..
theorem nv_append (a b : List Nat) : nv (a ++ b) = nv a ++ nv b := List.map_append ..
theorem nv_get {l : List Nat} {i n : Nat} (h : l[i]? = some n) : (nv l)[i]? = some (nI n) := by
  unfold nv; rw [List.getElem?_map, h]; rfl
theorem at_nv {l : List Nat} {i n : Nat} (h : l[i]? = some n) : atI (nv l) ((i : Nat) : Int) = some (nI n) := atI_nat (nv_get h)
theorem get_D {l : List Nat} {i : Nat} (h : i < l.length) : l[i]? = some (l.getD i 0) := by
  rw [List.getD_eq_getElem?_getD, List.getElem?_eq_getElem h]; rfl
theorem same_upd {H : Hp} {p : Addr} {o : HO} (h : H p = none) : Same H (upd H p o) := fun b x e => by
  rw [upd_ne (ne_of_none e h)]
  exact e
theorem same_refl (H : Hp) : Same H H := fun _ _ e => e
/-- what was there before p was made stands behind a store at p -/
theorem same_put {H H' : Hp} {p : Addr} {o : HO} (h : H p = none) (s : Same H H') : Same H (upd H' p o) := fun b x e => by
  rw [upd_ne (ne_of_none e h)]
  exact s b x e
theorem ne_made {H H' : Hp} {p q : Addr} {o : HO} (h : H p = some o) (s : Same H H') (hq : H' q = none) : q ≠ p := fun e => by
  subst e
  rw [s _ _ h] at hq
  cases hq
theorem sizeSmall {n : Nat} (h : n ≤ 100000) : n < sizeLine := Nat.lt_of_le_of_lt h (by decide)
section
variable {X : Cx}
theorem pow_castI (k : Nat) : ((2 ^ k : Nat) : Int) = (2 : Int) ^ k := PySem.W.kbt_cast k
theorem on_shr : OpR X (binaryOp .RShift) (fun x y H Q => ∃ n k : Nat, x = nI n ∧ y = nI k ∧ Q (nI (n >>> k)) H) := by
  intro pins s σ H x y v u Q I rx ry h
  obtain ⟨n, k, rfl, rfl, q⟩ := h
  refine op_shrN pins s σ H _ _ v u Q I rx ry ⟨_, k, rfl, rfl, ?_⟩
  rw [Nat.shiftRight_eq_div_pow] at q
  have e : ((n / 2 ^ k : Nat) : Int) = (n : Int) / 2 ^ k := by rw [Int.natCast_ediv, pow_castI]
  rw [← e]
  exact q
theorem on_shl : OpR X (binaryOp .LShift) (fun x y H Q => ∃ n k b : Nat, x = nI n ∧ y = nI k ∧ (n < 2 ^ b ∧ b + k ≤ 134217728) ∧ Q (nI (n <<< k)) H) := by
  intro pins s σ H x y v u Q I rx ry h
  obtain ⟨n, k, b, rfl, rfl, ⟨hb, hk⟩, q⟩ := h
  refine op_shlN pins s σ H _ _ v u Q I rx ry ⟨_, k, rfl, rfl, shl_ok (n := b) (by simpa using hb) hk, ?_⟩
  rw [Nat.shiftLeft_eq] at q
  have e : ((n * 2 ^ k : Nat) : Int) = (n : Int) * 2 ^ k := by rw [Int.natCast_mul, pow_castI]
  rw [← e]
  exact q
theorem on_and : OpR X (binaryOp .BitAnd) (fun x y H Q => ∃ n m : Nat, x = nI n ∧ y = nI m ∧ Q (nI (n &&& m)) H) := by
  intro pins s σ H x y v u Q I rx ry h
  obtain ⟨n, m, rfl, rfl, q⟩ := h
  refine op_and pins s σ H _ _ v u Q I rx ry ⟨_, _, rfl, rfl, ?_⟩
  show Q (V.int (Builtin.bitAnd (n : Int) (m : Int))) H
  rw [bitAnd_pp (Int.natCast_nonneg _) (Int.natCast_nonneg _), Int.toNat_natCast, Int.toNat_natCast]
  exact q
theorem on_or : OpR X (binaryOp .BitOr) (fun x y H Q => ∃ n m : Nat, x = nI n ∧ y = nI m ∧ Q (nI (n ||| m)) H) := by
  intro pins s σ H x y v u Q I rx ry h
  obtain ⟨n, m, rfl, rfl, q⟩ := h
  refine op_or pins s σ H _ _ v u Q I rx ry ⟨_, _, rfl, rfl, ?_⟩
  show Q (V.int (Builtin.bitOr (n : Int) (m : Int))) H
  rw [bitOr_nn (Int.natCast_nonneg _) (Int.natCast_nonneg _), Int.toNat_natCast, Int.toNat_natCast]
  exact q
theorem on_add : OpR X (binaryOp .Add) (fun x y H Q => ∃ n m : Nat, x = nI n ∧ y = nI m ∧ Q (nI (n + m)) H) := op_addN
theorem on_sub : OpR X (binaryOp .Sub) (fun x y H Q => ∃ n m : Nat, x = nI n ∧ y = nI m ∧ m ≤ n ∧ Q (nI (n - m)) H) := op_subN
theorem on_mul : OpR X (binaryOp .Mult) (fun x y H Q => ∃ n m : Nat, x = nI n ∧ y = nI m ∧ n ≤ 4294967296 ∧ Q (nI (n * m)) H) := op_mulN
theorem on_fdiv : OpR X (binaryOp .FloorDiv) (fun x y H Q => ∃ n m : Nat, x = nI n ∧ y = nI m ∧ (1 ≤ m ∧ m < 1073741824) ∧ Q (nI (n / m)) H) := op_fdivNN
theorem on_mod : OpR X (binaryOp .Mod) (fun x y H Q => ∃ n m : Nat, x = nI n ∧ y = nI m ∧ 1 ≤ m ∧ Q (nI (n % m)) H) := by
  intro pins s σ H x y v u Q I rx ry h
  obtain ⟨n, m, rfl, rfl, c, q⟩ := h
  refine op_mod pins s σ H _ _ v u Q I rx ry ⟨_, _, rfl, rfl, show (0 : Int) < (m : Int) by omega, ?_⟩
  have e : ((n % m : Nat) : Int) = (n : Int) % (m : Int) := Int.natCast_emod ..
  show Q (V.int ((n : Int) % (m : Int))) H
  rw [← e]
  exact q
theorem on_eq : OpR X (compareOp .Eq) (fun x y H Q => ∃ n m : Nat, x = nI n ∧ y = nI m ∧ Q (.bl (decide (n = m))) H) := by
  intro pins s σ H x y v u Q I rx ry h
  obtain ⟨n, m, rfl, rfl, q⟩ := h
  refine op_eq pins s σ H _ _ v u Q I rx ry ⟨rfl, ?_⟩
  have e : decide (nI n = nI m) = decide (n = m) := by
    by_cases h : n = m
    · rw [h]; simp
    · rw [decide_eq_false h, decide_eq_false]
      intro z
      injection z with z
      exact h (by omega)
  rw [e]
  exact q
theorem oi_eq : OpR X (compareOp .Eq) (fun x y H Q => ∃ i j : Int, x = .int i ∧ y = .int j ∧ Q (.bl (decide (i = j))) H) := by
  intro pins s σ H x y v u Q I rx ry h
  obtain ⟨n, m, rfl, rfl, q⟩ := h
  refine op_eq pins s σ H _ _ v u Q I rx ry ⟨rfl, ?_⟩
  have e : decide (V.int n = V.int m) = decide (n = m) := by
    by_cases h : n = m
    · rw [h]; simp
    · rw [decide_eq_false h, decide_eq_false]
      intro z
      injection z with z
      exact h z
  rw [e]
  exact q
theorem oi_ne : OpR X (compareOp .NotEq) (fun x y H Q => ∃ i j : Int, x = .int i ∧ y = .int j ∧ Q (.bl (!decide (i = j))) H) := by
  intro pins s σ H x y v u Q I rx ry h
  obtain ⟨n, m, rfl, rfl, q⟩ := h
  refine op_ne pins s σ H _ _ v u Q I rx ry ⟨rfl, ?_⟩
  have e : decide (V.int n = V.int m) = decide (n = m) := by
    by_cases h : n = m
    · rw [h]; simp
    · rw [decide_eq_false h, decide_eq_false]
      intro z
      injection z with z
      exact h z
  have e2 : decide (V.int n ≠ V.int m) = !decide (n = m) := by rw [← e, decide_not]
  first
    | (rw [e2]; exact q)
    | (rw [e]; exact q)
end
abbrev EN : XK := fun _ _ _ => False
/-- what a call finds: the def stands at f, bound by its name -/
structure DefAt (K : PySem.W.Frag) (mg : Str → Option Value) (nm : Str) (st : Stmt) (ps : List Str) (f : Addr) (fd : FuncData) : Prop where
  F : Fun K nm nm st f fd
  b : Binds K fd ps []
  g : mg nm = some (.ref f)
theorem tYes_of {σ : L2.St} {H : Hp} {Q : Bool → Hp → Prop} (h : Q true H) : tYes σ H Q := h
theorem ifT {c : Bool} {a b : Prop} (hc : c = true) (h : a) : (if c = true then a else b) := by rw [if_pos hc]; exact h
theorem ifF {c : Bool} {a b : Prop} (hc : ¬ c = true) (h : b) : (if c = true then a else b) := by rw [if_neg hc]; exact h
theorem wipe_in {σ : L2.St} {j : Nat} {v : Option V} : wipe ((wipe σ [j]).set j v) [j] = wipe σ [j] := by
  show ((σ.set j none).set j v).set j none = σ.set j none
  rw [List.set_set, List.set_set]
/-- [e for i in range(n)], the element a value by the place; what stood stands -/
theorem lcMap {te : TE} {j : Nat} {σ : L2.St} {H1 : Hp} {D : Addr} {Qd : Hp → Prop} (f : Nat → V) (n : Nat) (hn : n ≤ 100000) (hD : H1 D = none)
    (hs : ∀ i H, i < n → Same H1 H → ∀ Q : VK, (∀ H', Same H H' → Q (f i) H') → te ((wipe σ [j]).set j (some (nI i))) H Q)
    (hd : ∀ H3, Same H1 H3 → H3 D = some (.lst ((List.range n).map f)) → Qd H3) :
    ∃ W : Nat → Nat → Hp → Prop, (∃ m, W 0 m (upd H1 D (.lst []))) ∧ ∀ i m H, W i m H →
      ((Itr 0 n).stop i H ∧ Qd H) ∨ ((Itr 0 n).go i H ∧ ∃ Nx : Hp → Prop, (∀ H', Nx H' → ∃ m', m' < m ∧ W (i + 1) m' H') ∧ ∀ x H', (Itr 0 n).yld i H x H' → gName j x (wipe σ [j]) H' fun σ2 H2 => wipe σ2 [j] = wipe σ [j] ∧ tYes σ2 H2 fun b H3 =>
        if b = true then te σ2 H3 fun y H4 => ∃ acc, H4 D = some (.lst acc) ∧ acc.length < sizeLine ∧ Nx (upd H4 D (.lst (acc ++ [y]))) else Nx H3) := by
  refine lc_range (fun i H => Same H1 H ∧ H D = some (.lst ((List.range i).map f))) ⟨same_upd hD, upd_same⟩ (fun i H hi ⟨s, e⟩ => ?_) (fun H ⟨s, e⟩ => hd H s e)
  rw [Int.zero_add]
  refine ⟨wipe_in, ?_⟩
  refine tYes_of (ifT rfl ?_)
  refine hs i H hi s _ fun H' s' => ⟨_, s' _ _ e, ?_, ?_, ?_⟩
  · rw [List.length_map, List.length_range]
    exact sizeSmall (by omega)
  · exact same_put hD fun b o z => s' _ _ (s _ _ z)
  · rw [upd_same, List.range_succ, List.map_append]
    rfl
/-- [e for v in xs], xs a list of naturals -/
theorem lcMapL {K : PySem.W.Frag} {a : Addr} {te : TE} {j : Nat} {σ : L2.St} {H1 : Hp} {D : Addr} {Qd : Hp → Prop} (l : List Nat) (f : Nat → V) (hn : l.length ≤ 100000) (hS : SqL K H1 a (nv l)) (hD : H1 D = none)
    (hs : ∀ v H, v ∈ l → Same H1 H → ∀ Q : VK, (∀ H', Same H H' → Q (f v) H') → te ((wipe σ [j]).set j (some (nI v))) H Q)
    (hd : ∀ H3, Same H1 H3 → H3 D = some (.lst (l.map f)) → Qd H3) :
    ∃ W : Nat → Nat → Hp → Prop, (∃ m, W 0 m (upd H1 D (.lst []))) ∧ ∀ i m H, W i m H →
      ((Itl K a).stop i H ∧ Qd H) ∨ ((Itl K a).go i H ∧ ∃ Nx : Hp → Prop, (∀ H', Nx H' → ∃ m', m' < m ∧ W (i + 1) m' H') ∧ ∀ x H', (Itl K a).yld i H x H' → gName j x (wipe σ [j]) H' fun σ2 H2 => wipe σ2 [j] = wipe σ [j] ∧ tYes σ2 H2 fun b H3 =>
        if b = true then te σ2 H3 fun y H4 => ∃ acc, H4 D = some (.lst acc) ∧ acc.length < sizeLine ∧ Nx (upd H4 D (.lst (acc ++ [y]))) else Nx H3) := by
  refine lc_list (xs := nv l) (fun i H => Same H1 H ∧ H D = some (.lst ((l.take i).map f))) ⟨same_upd hD, upd_same⟩ (fun i H _ ⟨s, _⟩ => s.seq hS) (fun i x H hx ⟨s, e⟩ => ?_) (fun H ⟨s, e⟩ => hd H s ?_)
  · obtain ⟨v, hv, rfl⟩ : ∃ v, l[i]? = some v ∧ x = nI v := by
      unfold nv at hx
      rw [List.getElem?_map] at hx
      cases e : l[i]? with
      | none => rw [e] at hx; cases hx
      | some v => rw [e] at hx; exact ⟨v, rfl, (Option.some.inj hx).symm⟩
    refine ⟨wipe_in, ?_⟩
    refine tYes_of (ifT rfl ?_)
    refine hs v H (List.mem_of_getElem? hv) s _ fun H' s' => ⟨_, s' _ _ e, ?_, ?_, ?_⟩
    · rw [List.length_map, List.length_take]
      exact sizeSmall (by omega)
    · exact same_put hD fun b o z => s' _ _ (s _ _ z)
    · rw [upd_same, List.take_add_one, hv, List.map_append]
      rfl
  · rw [nv_length, List.take_length] at e
    exact e
theorem range_get {α : Type} {f : Nat → α} {n i : Nat} (h : i < n) : ((List.range n).map f)[i]? = some (f i) := by
  rw [List.getElem?_map, List.getElem?_range h]
  rfl
theorem map_nI (f : Nat → Nat) (l : List Nat) : l.map (fun i => nI (f i)) = nv (l.map f) := by
  unfold nv
  rw [List.map_map]
  rfl
theorem at_nvr {f : Nat → Nat} {n i : Nat} (h : i < n) : atI (nv ((List.range n).map f)) (i : Int) = some (nI (f i)) := at_nv (range_get h)
/-- [e for i in range(n) if t] -/
theorem lcFil {tt : TT} {te : TE} {j : Nat} {σ : L2.St} {H1 : Hp} {D : Addr} {Qd : Hp → Prop} (f : Nat → V) (p : Nat → Bool) (n : Nat) (hn : n ≤ 100000) (hD : H1 D = none)
    (ht : ∀ i H, i < n → Same H1 H → ∀ Q : Bool → Hp → Prop, (∀ H', Same H H' → Q (p i) H') → tt ((wipe σ [j]).set j (some (nI i))) H Q)
    (hs : ∀ i H, i < n → p i = true → Same H1 H → ∀ Q : VK, (∀ H', Same H H' → Q (f i) H') → te ((wipe σ [j]).set j (some (nI i))) H Q)
    (hd : ∀ H3, Same H1 H3 → H3 D = some (.lst (((List.range n).filter p).map f)) → Qd H3) :
    ∃ W : Nat → Nat → Hp → Prop, (∃ m, W 0 m (upd H1 D (.lst []))) ∧ ∀ i m H, W i m H →
      ((Itr 0 n).stop i H ∧ Qd H) ∨ ((Itr 0 n).go i H ∧ ∃ Nx : Hp → Prop, (∀ H', Nx H' → ∃ m', m' < m ∧ W (i + 1) m' H') ∧ ∀ x H', (Itr 0 n).yld i H x H' → gName j x (wipe σ [j]) H' fun σ2 H2 => wipe σ2 [j] = wipe σ [j] ∧ tt σ2 H2 fun b H3 =>
        if b = true then te σ2 H3 fun y H4 => ∃ acc, H4 D = some (.lst acc) ∧ acc.length < sizeLine ∧ Nx (upd H4 D (.lst (acc ++ [y]))) else Nx H3) := by
  refine lc_range (fun i H => Same H1 H ∧ H D = some (.lst (((List.range i).filter p).map f))) ⟨same_upd hD, upd_same⟩ (fun i H hi ⟨s, e⟩ => ?_) (fun H ⟨s, e⟩ => hd H s e)
  rw [Int.zero_add]
  refine ⟨wipe_in, ?_⟩
  refine ht i H hi s _ fun H' s' => ?_
  have sH : Same H1 H' := fun b o z => s' _ _ (s _ _ z)
  have ef : (List.range (i + 1)).filter p = (List.range i).filter p ++ (if p i = true then [i] else []) := by
    rw [List.range_succ, List.filter_append]
    cases hp : p i <;> simp [hp]
  by_cases hp : p i = true
  · rw [if_pos hp]
    refine hs i H' hi hp sH _ fun H2 s2 => ⟨_, s2 _ _ (s' _ _ e), ?_, ?_, ?_⟩
    · have h1 := List.length_filter_le p (List.range i)
      rw [List.length_range] at h1
      rw [List.length_map]
      exact sizeSmall (by omega)
    · exact same_put hD fun b o z => s2 _ _ (sH _ _ z)
    · rw [upd_same, ef, if_pos hp, List.map_append]
      rfl
  · rw [if_neg hp]
    refine ⟨sH, ?_⟩
    rw [ef, if_neg hp, List.append_nil]
    exact s' _ _ e
end My
/-! ### more operations: lists that may be the caller's own, comparisons, xor -/
namespace My
open PySem PySem.Spec PyProof.Rows L2
section
variable {X : Cx}
def rCatS (K : PySem.W.Frag) : V → V → Hp → VK → Prop := fun x y H Q => ∃ l b xs zs, x = .ref l ∧ y = .ref b ∧ SqL K H l xs ∧ SqL K H b zs ∧ xs.length + zs.length ≤ sizeLine ∧ ∀ p, H p = none → Q (.ref p) (upd H p (.lst (xs ++ zs)))
theorem op_catS : OpR X (binaryOp .Add) (rCatS X.K) := by
  intro pins s σ H x y v u Q I rx ry h
  obtain ⟨l, b, xs, zs, rfl, rfl, hH, hB, hz, q⟩ := h
  cases rx
  cases ry
  obtain ⟨its, r, ⟨⟨cls, dd, data, sl⟩, n, ho, hc, hd0, hd⟩, z⟩ := I.list hH
  obtain ⟨its2, r2, ⟨⟨cls2, dd2, data2, sl2⟩, n2, ho2, hc2, hd02, hd2⟩, z2⟩ := I.list hB
  simp only at hc hd hc2 hd2
  subst hc hd hc2 hd2
  have hl := r.length
  have hl2 := r2.length
  refine concat_meets ⟨_, ho, rfl⟩ ⟨_, ho2, rfl⟩ noFill_list_add seq_list_add PySem.F.slot_list_add PySem.F.entry_list_add (PySem.F.args_list_add_2 _ _) (list_addW l b its.toArray its2.toArray n n2 dd dd2 sl sl2 (by rw [List.size_toArray, List.size_toArray]; omega)) ⟨ho, ho2, ?_⟩
  have ea : its.toArray ++ its2.toArray = (its ++ its2).toArray := by simp
  rw [ea]
  exact ⟨.ref _, _, I.lnew (t' := s.toks) (r.append r2) (by rw [List.length_append]; omega), rfl, q _ I.fresh⟩
theorem on_lt : OpR X (compareOp .Lt) (fun x y H Q => ∃ n m : Nat, x = nI n ∧ y = nI m ∧ Q (.bl (decide (n < m))) H) := by
  intro pins s σ H x y v u Q I rx ry h
  obtain ⟨n, m, rfl, rfl, q⟩ := h
  have e : decide ((n : Int) < (m : Int)) = decide (n < m) := decide_eq_decide.mpr (by omega)
  refine op_lt pins s σ H _ _ v u Q I rx ry ⟨_, _, rfl, rfl, ?_⟩
  show Q (.bl (decide ((n : Int) < (m : Int)))) H
  rw [e]; exact q
theorem on_le : OpR X (compareOp .LtE) (fun x y H Q => ∃ n m : Nat, x = nI n ∧ y = nI m ∧ Q (.bl (decide (n ≤ m))) H) := by
  intro pins s σ H x y v u Q I rx ry h
  obtain ⟨n, m, rfl, rfl, q⟩ := h
  have e : decide ((n : Int) ≤ (m : Int)) = decide (n ≤ m) := decide_eq_decide.mpr (by omega)
  refine op_le pins s σ H _ _ v u Q I rx ry ⟨_, _, rfl, rfl, ?_⟩
  show Q (.bl (decide ((n : Int) ≤ (m : Int)))) H
  rw [e]; exact q
theorem on_gt : OpR X (compareOp .Gt) (fun x y H Q => ∃ n m : Nat, x = nI n ∧ y = nI m ∧ Q (.bl (decide (m < n))) H) := by
  intro pins s σ H x y v u Q I rx ry h
  obtain ⟨n, m, rfl, rfl, q⟩ := h
  have e : decide ((m : Int) < (n : Int)) = decide (m < n) := decide_eq_decide.mpr (by omega)
  refine op_gt pins s σ H _ _ v u Q I rx ry ⟨_, _, rfl, rfl, ?_⟩
  show Q (.bl (decide ((m : Int) < (n : Int)))) H
  rw [e]; exact q
theorem on_ge : OpR X (compareOp .GtE) (fun x y H Q => ∃ n m : Nat, x = nI n ∧ y = nI m ∧ Q (.bl (decide (m ≤ n))) H) := by
  intro pins s σ H x y v u Q I rx ry h
  obtain ⟨n, m, rfl, rfl, q⟩ := h
  have e : decide ((m : Int) ≤ (n : Int)) = decide (m ≤ n) := decide_eq_decide.mpr (by omega)
  refine op_ge pins s σ H _ _ v u Q I rx ry ⟨_, _, rfl, rfl, ?_⟩
  show Q (.bl (decide ((m : Int) ≤ (n : Int)))) H
  rw [e]; exact q
theorem on_ne : OpR X (compareOp .NotEq) (fun x y H Q => ∃ n m : Nat, x = nI n ∧ y = nI m ∧ Q (.bl (!decide (n = m))) H) := by
  intro pins s σ H x y v u Q I rx ry h
  obtain ⟨n, m, rfl, rfl, q⟩ := h
  have e : decide ((n : Int) = (m : Int)) = decide (n = m) := decide_eq_decide.mpr (by omega)
  refine oi_ne pins s σ H _ _ v u Q I rx ry ⟨_, _, rfl, rfl, ?_⟩
  rw [e]; exact q
theorem on_xor : OpR X (binaryOp .BitXor) (fun x y H Q => ∃ n m : Nat, x = nI n ∧ y = nI m ∧ Q (nI (n ^^^ m)) H) := by
  intro pins s σ H x y v u Q I rx ry h
  obtain ⟨n, m, rfl, rfl, q⟩ := h
  refine op_xor pins s σ H _ _ v u Q I rx ry ⟨_, _, rfl, rfl, ?_⟩
  have e : Builtin.bitXor (n : Int) (m : Int) = ((n ^^^ m : Nat) : Int) := by
    rw [bitXor_and, bitAnd_pp (Int.natCast_nonneg _) (Int.natCast_nonneg _), Int.toNat_natCast, Int.toNat_natCast]
    have k : ∀ n m : Nat, (n ^^^ m) + 2 * (n &&& m) = n + m := fun n m => by
      induction n using Nat.strongRecOn generalizing m with
      | _ n ih =>
        by_cases h0 : n = 0
        · subst h0; simp
        · have i1 := ih (n / 2) (by omega) (m / 2)
          have x1 : (n ^^^ m) / 2 = n / 2 ^^^ m / 2 := Nat.xor_div_two
          have a1 : (n &&& m) / 2 = n / 2 &&& m / 2 := Nat.and_div_two
          have x2 : (n ^^^ m) % 2 = (n + m) % 2 := by
            have hh := Nat.xor_mod_two_pow (a := n) (b := m) (n := 1)
            rw [Nat.pow_one] at hh
            rw [hh]
            rcases Nat.mod_two_eq_zero_or_one n with p | p <;> rcases Nat.mod_two_eq_zero_or_one m with p2 | p2 <;> rw [p, p2] <;> simp <;> omega
          have a2 : (n &&& m) % 2 = n % 2 * (m % 2) := by
            have hh := Nat.and_mod_two_pow (a := n) (b := m) (n := 1)
            rw [Nat.pow_one] at hh
            rw [hh]
            rcases Nat.mod_two_eq_zero_or_one n with p | p <;> rcases Nat.mod_two_eq_zero_or_one m with p2 | p2 <;> rw [p, p2] <;> rfl
          rcases Nat.mod_two_eq_zero_or_one n with p | p <;> rcases Nat.mod_two_eq_zero_or_one m with p2 | p2 <;> (rw [p, p2] at a2; omega)
    have := k n m
    omega
  show Q (V.int (Builtin.bitXor (n : Int) (m : Int))) H
  rw [e]; exact q
theorem on_mulW : OpR X (binaryOp .Mult) (fun x y H Q => ∃ n m : Nat, x = nI n ∧ y = nI m ∧ n < 2 ^ 64 ∧ Q (nI (n * m)) H) := by
  intro pins s σ H x y v u Q I rx ry h
  obtain ⟨n, m, rfl, rfl, c, q⟩ := h
  refine op_mul pins s σ H _ _ v u Q I rx ry ⟨_, _, rfl, rfl, .inl ⟨by omega, by omega⟩, ?_⟩
  show Q (V.int ((n : Int) * (m : Int))) H
  rw [← Int.natCast_mul]; exact q
theorem on_fdivW : OpR X (binaryOp .FloorDiv) (fun x y H Q => ∃ n m : Nat, x = nI n ∧ y = nI m ∧ (1 ≤ m ∧ m < 2 ^ 64) ∧ Q (nI (n / m)) H) := by
  intro pins s σ H x y v u Q I rx ry h
  obtain ⟨n, m, rfl, rfl, ⟨c1, c2⟩, q⟩ := h
  refine op_fdivW pins s σ H _ _ v u Q I rx ry ⟨_, _, rfl, rfl, wide_div (b := 64) (by omega) (by rw [Int.natAbs_natCast]; exact c2) (by decide) (by decide), ?_⟩
  show Q (V.int ((n : Int) / (m : Int))) H
  rw [← Int.natCast_ediv]; exact q
end
abbrev rnOr : V → V → Hp → VK → Prop := fun x y H Q => ∃ n m : Nat, x = nI n ∧ y = nI m ∧ Q (nI (n ||| m)) H
abbrev rnAnd : V → V → Hp → VK → Prop := fun x y H Q => ∃ n m : Nat, x = nI n ∧ y = nI m ∧ Q (nI (n &&& m)) H
abbrev rnAdd : V → V → Hp → VK → Prop := fun x y H Q => ∃ n m : Nat, x = nI n ∧ y = nI m ∧ Q (nI (n + m)) H
abbrev rnSub : V → V → Hp → VK → Prop := fun x y H Q => ∃ n m : Nat, x = nI n ∧ y = nI m ∧ m ≤ n ∧ Q (nI (n - m)) H
abbrev rnMul : V → V → Hp → VK → Prop := fun x y H Q => ∃ n m : Nat, x = nI n ∧ y = nI m ∧ n ≤ 4294967296 ∧ Q (nI (n * m)) H
abbrev rnMod : V → V → Hp → VK → Prop := fun x y H Q => ∃ n m : Nat, x = nI n ∧ y = nI m ∧ 1 ≤ m ∧ Q (nI (n % m)) H
abbrev rnShr : V → V → Hp → VK → Prop := fun x y H Q => ∃ n k : Nat, x = nI n ∧ y = nI k ∧ Q (nI (n >>> k)) H
abbrev rnShl : V → V → Hp → VK → Prop := fun x y H Q => ∃ n k b : Nat, x = nI n ∧ y = nI k ∧ (n < 2 ^ b ∧ b + k ≤ 134217728) ∧ Q (nI (n <<< k)) H
theorem cut_mid (l : List Nat) {a b : Nat} (h : a ≤ b) (hb : b ≤ l.length) : cutV (nv l) (some (a : Int)) (some (b : Int)) = nv ((l.drop a).take (b - a)) := by
  unfold cutV
  rw [HT.sIx_nat, HT.sIx_nat, nv_length]
  show ((nv l).drop (min a l.length)).take (min b l.length - min a l.length) = _
  rw [Nat.min_eq_left hb, Nat.min_eq_left (Nat.le_trans h hb)]
  unfold nv
  rw [List.map_take, List.map_drop]
theorem map_range16 {x : List Nat} (h : x.length = 16) (f : Nat → Nat) : x.map f = (List.range 16).map fun i => f (x.getD i 0) := by
  apply List.ext_getElem?
  intro i
  by_cases hi : i < 16
  · rw [range_get hi, List.getElem?_map, get_D (by omega)]
    rfl
  · rw [List.getElem?_eq_none (by simp; omega), List.getElem?_eq_none (by simp; omega)]
end My
/-! ### the request's numbers as naturals -/
namespace My
open PySem PySem.Spec PyProof.Rows L2
open PySem.W (WData Codec)
def zl (x : List Nat) : List Int := x.map fun (k : Nat) => (k : Int)
theorem zl_int (x : List Nat) : (zl x).map V.int = nv x := by unfold zl nv; rw [List.map_map]; rfl
theorem zl_back (x : List Nat) : Sv11Neutral.n (zl x) = x := by
  unfold Sv11Neutral.n zl
  rw [List.map_map]
  conv => rhs; rw [← List.map_id x]
  exact List.map_congr_left fun a _ => Int.toNat_natCast a
theorem nat_of {l : List Int} (h : ∀ z ∈ l, 0 ≤ z) : ∃ x : List Nat, l = zl x := by
  refine ⟨l.map Int.toNat, ?_⟩
  unfold zl
  rw [List.map_map]
  conv => lhs; rw [← List.map_id l]
  exact List.map_congr_left fun a ha => by
    have := h a ha
    show a = ((a.toNat : Nat) : Int)
    omega
theorem word_nat {z : Int} (h : Sv11Neutral.word z = true) : ∃ n : Nat, z = (n : Int) ∧ n < 2 ^ 32 := by
  unfold Sv11Neutral.word at h
  rw [Bool.and_eq_true, decide_eq_true_eq, decide_eq_true_eq] at h
  exact ⟨z.toNat, by omega, by omega⟩
theorem mask_nat {z : Int} (h : Sv11Neutral.mask z = true) : ∃ n : Nat, z = (n : Int) ∧ n < 65536 := by
  unfold Sv11Neutral.mask at h
  rw [Bool.and_eq_true, decide_eq_true_eq, decide_eq_true_eq] at h
  exact ⟨z.toNat, by omega, by omega⟩
theorem words_nat {l : List Int} (h : l.all Sv11Neutral.word = true) : ∃ x : List Nat, l = zl x ∧ ∀ k ∈ x, k < 2 ^ 32 := by
  rw [List.all_eq_true] at h
  obtain ⟨x, rfl⟩ := nat_of fun z hz => by
    obtain ⟨n, e, _⟩ := word_nat (h z hz)
    omega
  refine ⟨x, rfl, fun k hk => ?_⟩
  obtain ⟨n, e, hn⟩ := word_nat (h (k : Int) (List.mem_map.mpr ⟨k, hk, rfl⟩))
  have : k = n := by omega
  omega
theorem row_nat {l : List Int} (h : Sv11Neutral.row l = true) : ∃ x : List Nat, l = zl x ∧ x.length = 16 ∧ ∀ k ∈ x, k < 2 ^ 32 := by
  unfold Sv11Neutral.row at h
  rw [Bool.and_eq_true, decide_eq_true_eq] at h
  obtain ⟨x, rfl, hx⟩ := words_nat h.1
  refine ⟨x, rfl, ?_, hx⟩
  have e := h.2
  unfold zl at e
  rw [List.length_map] at e
  exact e
/-- a row's word as the specification reads it -/
theorem word_eq {x : List Nat} (h : ∀ k ∈ x, k < 2 ^ 32) (i : Nat) : Sv11.word x i = x.getD i 0 := by
  unfold Sv11.word
  apply Nat.mod_eq_of_lt
  rw [List.getD_eq_getElem?_getD]
  cases e : x[i]? with
  | none => show 0 < 2 ^ 32; decide
  | some v => exact h v (List.mem_of_getElem? e)
theorem getD_lt {x : List Nat} (h : ∀ k ∈ x, k < 2 ^ 32) (i : Nat) : x.getD i 0 < 2 ^ 32 := by
  rw [List.getD_eq_getElem?_getD]
  cases e : x[i]? with
  | none => show 0 < 2 ^ 32; decide
  | some v => exact h v (List.mem_of_getElem? e)
theorem words_eq {f g : Nat → Nat} (h : ∀ i, i < 16 → f i = g i ∧ g i < 2 ^ 32) : Sv11.words f = (List.range 16).map g := by
  unfold Sv11.words
  refine List.map_congr_left fun i hi => ?_
  obtain ⟨e, l⟩ := h i (List.mem_range.mp hi)
  rw [e, Nat.mod_eq_of_lt l]
theorem dw_nv {K : PySem.W.Frag} {H : Hp} {p : Addr} {l : List Nat} (h : H p = some (.lst (nv l))) : Dw K H (.ref p) (.list ((zl l).map WData.int)) := by
  rw [← zl_int] at h
  exact .lst (SqL.of h) (dw_ints _)
theorem dw_cons {K : PySem.W.Frag} {H : Hp} {xs : List V} {d : WData} {ds : List WData} (h : DwAll K H xs (d :: ds)) : ∃ v vs, xs = v :: vs ∧ Dw K H v d ∧ DwAll K H vs ds := by
  cases h with
  | cons h1 h2 => exact ⟨_, _, rfl, h1, h2⟩
theorem dw_row {K : PySem.W.Frag} {H : Hp} {v : V} {x : List Nat} (h : Dw K H v (.list ((zl x).map WData.int))) : ∃ a, v = .ref a ∧ SqL K H a (nv x) := by
  cases h with
  | lst hs ha =>
    have e := L2.ints_dw (zl x) _ ha
    subst e
    rw [zl_int] at hs
    exact ⟨_, rfl, hs⟩
end My
/-! ### two rows, one behind the other -/
namespace My
theorem ofTwo_eq {x y : List Nat} (hl : x.length = 16) (hx : ∀ k ∈ x, k < 2 ^ 32) (hy : ∀ k ∈ y, k < 2 ^ 32) (k : Nat) : Sv11.ofTwo x y k = (x ++ y).getD k 0 := by
  unfold Sv11.ofTwo
  split
  · rename_i h
    rw [word_eq hx, List.getD_eq_getElem?_getD, List.getD_eq_getElem?_getD, List.getElem?_append_left (by omega)]
  · rename_i h
    rw [word_eq hy, List.getD_eq_getElem?_getD, List.getD_eq_getElem?_getD, List.getElem?_append_right (by omega), hl]
theorem cat_bound {x y : List Nat} (hx : ∀ k ∈ x, k < 2 ^ 32) (hy : ∀ k ∈ y, k < 2 ^ 32) : ∀ k ∈ x ++ y, k < 2 ^ 32 := fun k hk => (List.mem_append.mp hk).elim (hx k) (hy k)
theorem cut_range (l : List Nat) {a n : Nat} (h : a + n ≤ l.length) : (l.drop a).take n = (List.range n).map fun i => l.getD (a + i) 0 := by
  apply List.ext_getElem?
  intro i
  by_cases hi : i < n
  · rw [range_get hi, List.getElem?_take_of_lt hi, List.getElem?_drop, get_D (by omega)]
  · rw [List.getElem?_eq_none (by simp; omega), List.getElem?_eq_none (by simp; omega)]
end My
namespace My
open PySem PySem.Spec PyProof.Rows L2
def topS (i : Nat) : Stmt := PySem.Challenge.pw_sixteenwordsdesk_s12_fourths.main.body.getD i (.Pass ⟨0, 0, 0, 0⟩)
abbrev s_two_bits : Stmt := topS 2
abbrev s_fourth_told : Stmt := topS 3
abbrev s_fourths : Stmt := topS 4
structure Txt (K : PySem.W.Frag) (mg : Str → Option Value) : Prop where
  c_FOURTH_WORDS : ∃ t, mg "FOURTH_WORDS" = some (.int 4 t)
section
variable {P : Program} {w : World} {K : PySem.W.Frag} {mg : Str → Option Value} {base : Heap}
/-! ### two_bits -/
theorem sc_two_bits : FnScope ["number", "j"] ["number", "j"] (defScope s_two_bits) := ⟨rfl, rfl, rfl, by decide +kernel, rfl, by decide +kernel, by decide +kernel⟩
def twoN (n j : Nat) : Nat := (n >>> (2 * j)) % 4
theorem twoN_lt (n j : Nat) : twoN n j < 4 := Nat.mod_lt _ (by decide)
theorem twoN_eq (n j : Nat) : n / 4 ^ j % 4 = twoN n j := by
  unfold twoN
  rw [Nat.shiftRight_eq_div_pow, Nat.pow_mul]
def sp_two_bits : Sp := fun vs H Q _ => ∃ n j : Nat, vs = [nI n, nI j] ∧ Q (nI (twoN n j)) H
theorem ok_two_bits {f : Addr} {fd : FuncData} (F : Fun K "two_bits" "two_bits" s_two_bits f fd) : FnOk P w K mg base CX0 1 f fd ["number", "j"] sp_two_bits := by
  refine F.ok sc_two_bits (fun vs H Q E h => ?_) (fun cdv A outer s H vs Q E hr h => ?_)
  · obtain ⟨n, j, rfl, _⟩ := h
    rfl
  · obtain ⟨n, j, rfl, q⟩ := h
    refine ⟨_, pss_one (ps_ret (pe_op on_mod (pe_op on_shr (pv 0) (pe_op on_mul pe_int (pv 1))) pe_int)), ?_⟩
    exact ⟨_, rfl, _, rfl, 2, j, rfl, rfl, by decide, n, 2 * j, rfl, rfl, _, 4, rfl, rfl, by decide, q⟩
/-! ### fourth_told -/
theorem sc_fourth_told : FnScope ["row", "how", "j", "start"] ["row", "how", "j"] (defScope s_fourth_told) := ⟨rfl, rfl, rfl, by decide +kernel, rfl, by decide +kernel, by decide +kernel⟩
def fourthM (x : List Nat) (how j : Nat) : List Nat := (x.drop (4 * twoN how j)).take 4
def sp_fourth_told (K : PySem.W.Frag) : Sp := fun vs H Q _ => ∃ (a : Addr) (x : List Nat) (how j : Nat), vs = [.ref a, nI how, nI j] ∧ SqL K H a (nv x) ∧ x.length = 16 ∧
  ∀ H' p, Same H H' → H p = none → H' p = some (.lst (nv (fourthM x how j))) → Q (.ref p) H'
theorem ok_fourth_told {f fT : Addr} {fd fdT : FuncData} (T : Txt K mg) (F : Fun K "fourth_told" "fourth_told" s_fourth_told f fd) (DT : DefAt K mg "two_bits" s_two_bits ["number", "j"] fT fdT) : FnOk P w K mg base CX0 2 f fd ["row", "how", "j"] (sp_fourth_told K) := by
  have GT : FnOk P w K mg base CX0 1 fT fdT ["number", "j"] sp_two_bits := ok_two_bits DT.F
  obtain ⟨tW, hW⟩ := T.c_FOURTH_WORDS
  refine F.ok sc_fourth_told (fun vs H Q E h => ?_) (fun cdv A outer s H vs Q E hr h => ?_)
  · obtain ⟨a, x, how, j, rfl, _⟩ := h
    rfl
  · obtain ⟨a, x, how, j, rfl, hA, hl, q⟩ := h
    refine ⟨_, pss_cons (ps_set (i := 3) sc_fourth_told.nd rfl (.inl rfl) (pe_op on_mul (pe_glob (v := nI 4) (by rfl) hW ⟨_, rfl⟩) (pe_call (E := EN) GT hr (by rfl) DT.g DT.F.kp DT.b .nil pass0 (pa_cons (pv 1) (pa_cons (pv 2) pa_nil)))))
      (pss_one (ps_ret (pe_slice sl_list (pv 0) (po_some (pv 3)) (po_some (pe_op on_add (pv 3) (pe_glob (v := nI 4) (by rfl) hW ⟨_, rfl⟩)))))), ?_⟩
    refine ⟨_, rfl, _, rfl, how, j, rfl, 4, twoN how j, rfl, rfl, by decide, ?_⟩
    have ht := twoN_lt how j
    refine ⟨.ref a, rfl, _, rfl, _, rfl, _, rfl, _, 4, rfl, rfl, _, rfl, a, nv x, rfl, hA, fun c nc => q _ c (same_upd nc) nc ?_⟩
    rw [upd_same, cut_mid x (by omega) (by omega)]
    unfold fourthM
    rw [Nat.add_sub_cancel_left]
/-! ### fourths -/
theorem sc_fourths : FnScope ["how", "x", "y"] ["how", "x", "y"] (defScope s_fourths) := ⟨rfl, rfl, rfl, by decide +kernel, rfl, by decide +kernel, by decide +kernel⟩
theorem fourthM_len {x : List Nat} (h : x.length = 16) (how j : Nat) : (nv (fourthM x how j)).length = 4 := by
  have := twoN_lt how j
  rw [nv_length]
  unfold fourthM
  rw [List.length_take, List.length_drop]
  omega
def fourthsM (how : Nat) (x y : List Nat) : List Nat := fourthM x how 0 ++ fourthM x how 1 ++ fourthM y how 2 ++ fourthM y how 3
def sp_fourths (K : PySem.W.Frag) : Sp := fun vs H Q _ => ∃ (how : Nat) (a b : Addr) (x y : List Nat), vs = [nI how, .ref a, .ref b] ∧ how < 2 ^ 32 ∧ SqL K H a (nv x) ∧ SqL K H b (nv y) ∧ (x.length = 16 ∧ y.length = 16) ∧
  ((∀ k ∈ x, k < 2 ^ 32) ∧ (∀ k ∈ y, k < 2 ^ 32)) ∧ ∀ H' p, H' p = some (.lst (nv (fourthsM how x y))) → Q (.ref p) H'
theorem ok_fourths {f fO fT : Addr} {fd fdO fdT : FuncData} (T : Txt K mg) (F : Fun K "fourths" "fourths" s_fourths f fd) (DO : DefAt K mg "fourth_told" s_fourth_told ["row", "how", "j"] fO fdO) (DT : DefAt K mg "two_bits" s_two_bits ["number", "j"] fT fdT) :
    FnOk P w K mg base CX0 3 f fd ["how", "x", "y"] (sp_fourths K) := by
  have GO : FnOk P w K mg base CX0 2 fO fdO ["row", "how", "j"] (sp_fourth_told K) := ok_fourth_told T DO.F DT
  refine F.ok sc_fourths (fun vs H Q E h => ?_) (fun cdv A outer s H vs Q E hr h => ?_)
  · obtain ⟨how, a, b, x, y, rfl, _⟩ := h
    rfl
  · obtain ⟨how, a, b, x, y, rfl, hn, hA, hB, ⟨hl1, hl2⟩, ⟨b1, b2⟩, q⟩ := h
    have l1 := fourthM_len hl1 how
    have l2 := fourthM_len hl2 how
    refine ⟨_, pss_one (ps_ret (pe_op op_catS (pe_op op_catS (pe_op op_catS
      (pe_call (E := EN) GO hr (by rfl) DO.g DO.F.kp DO.b .nil pass0 (pa_cons (pv 1) (pa_cons (pv 0) (pa_cons pe_int pa_nil))))
      (pe_call (E := EN) GO hr (by rfl) DO.g DO.F.kp DO.b .nil pass0 (pa_cons (pv 1) (pa_cons (pv 0) (pa_cons pe_int pa_nil)))))
      (pe_call (E := EN) GO hr (by rfl) DO.g DO.F.kp DO.b .nil pass0 (pa_cons (pv 2) (pa_cons (pv 0) (pa_cons pe_int pa_nil)))))
      (pe_call (E := EN) GO hr (by rfl) DO.g DO.F.kp DO.b .nil pass0 (pa_cons (pv 2) (pa_cons (pv 0) (pa_cons pe_int pa_nil)))))), ?_⟩
    refine ⟨.ref a, rfl, _, rfl, a, x, how, 0, rfl, hA, hl1, fun H1 p1 s1 n1 e1 => ?_⟩
    have hA1 := s1.seq hA
    have hB1 := s1.seq hB
    refine ⟨.ref a, rfl, _, rfl, a, x, how, 1, rfl, hA1, hl1, fun H2 p2 s2 n2 e2 => ?_⟩
    have hB2 := s2.seq hB1
    refine ⟨p1, p2, _, _, rfl, rfl, SqL.of (s2 _ _ e1), SqL.of e2, ?_, fun p3 n3 => ?_⟩
    · rw [l1, l1]
      exact Nat.le_of_lt (sizeSmall (by decide))
    have hB3 := (same_upd (o := .lst (nv (fourthM x how 0) ++ nv (fourthM x how 1))) n3).seq hB2
    refine ⟨.ref b, rfl, _, rfl, b, y, how, 2, rfl, hB3, hl2, fun H4 p4 s4 n4 e4 => ?_⟩
    refine ⟨p3, p4, _, _, rfl, rfl, SqL.of (s4 _ _ upd_same), SqL.of e4, ?_, fun p5 n5 => ?_⟩
    · rw [List.length_append, l1, l1, l2]
      exact Nat.le_of_lt (sizeSmall (by decide))
    have hB5 := (same_upd (o := .lst (nv (fourthM x how 0) ++ nv (fourthM x how 1) ++ nv (fourthM y how 2))) n5).seq (s4.seq hB3)
    refine ⟨.ref b, rfl, _, rfl, b, y, how, 3, rfl, hB5, hl2, fun H6 p6 s6 n6 e6 => ?_⟩
    refine ⟨p5, p6, _, _, rfl, rfl, SqL.of (s6 _ _ upd_same), SqL.of e6, ?_, fun p7 n7 => q _ p7 ?_⟩
    · rw [List.length_append, List.length_append, l1, l1, l2, l2]
      exact Nat.le_of_lt (sizeSmall (by decide))
    rw [upd_same]
    unfold fourthsM
    rw [nv_append, nv_append, nv_append]
end
theorem all_mk {P : Program} {w : World} {K : PySem.W.Frag} {h : Heap} {mg : Str → Option Value} {fa f1 f2 f3 : Addr} (X : K.In h) (G : h.Ns mainGlobals mg) (hfa : mg "fourths" = some (.ref fa))
    {od1 an1 od2 an2 od3 an3 : Option Addr} {sl1 sl2 sl3 : Array (Option Value)} {oc1 kV1 dc1 pm1 cd1 ct1 oc2 kV2 dc2 pm2 cd2 ct2 oc3 kV3 dc3 pm3 cd3 ct3 : Value}
    {t_FOURTH_WORDS : Tok}
    (a1 : PySem.W.nsIn K mainGlobals "two_bits" = some (some (.ref f1))) (l1 : K.lookup f1 = some ⟨oc1, od1, .func (PySem.W.fnOf "two_bits" "two_bits" (defArgs s_two_bits) (defBody s_two_bits) (defScope s_two_bits) .none kV1 dc1 pm1 an1 cd1 ct1), sl1⟩) (c1 : PySem.W.codeIn K cd1 "two_bits" = true) (k1 : PySem.W.keepIn K (.ref f1) = true)
    (a2 : PySem.W.nsIn K mainGlobals "fourth_told" = some (some (.ref f2))) (l2 : K.lookup f2 = some ⟨oc2, od2, .func (PySem.W.fnOf "fourth_told" "fourth_told" (defArgs s_fourth_told) (defBody s_fourth_told) (defScope s_fourth_told) .none kV2 dc2 pm2 an2 cd2 ct2), sl2⟩) (c2 : PySem.W.codeIn K cd2 "fourth_told" = true) (k2 : PySem.W.keepIn K (.ref f2) = true)
    (a3 : PySem.W.nsIn K mainGlobals "fourths" = some (some (.ref f3))) (l3 : K.lookup f3 = some ⟨oc3, od3, .func (PySem.W.fnOf "fourths" "fourths" (defArgs s_fourths) (defBody s_fourths) (defScope s_fourths) .none kV3 dc3 pm3 an3 cd3 ct3), sl3⟩) (c3 : PySem.W.codeIn K cd3 "fourths" = true) (k3 : PySem.W.keepIn K (.ref f3) = true)
    (v_FOURTH_WORDS : PySem.W.nsIn K mainGlobals "FOURTH_WORDS" = some (some (.int 4 t_FOURTH_WORDS)))
    : ∃ fd : FuncData, (∀ (s : Shared) (us : List Value), us.length = (["how", "x", "y"] : List Str).length → BindsTo s fd ⟨us, []⟩ ((["how", "x", "y"] : List Str).zip us)) ∧ ∀ base : Heap, K.In base → base.Ns mainGlobals mg → FnOk P w K mg base CX0 3 fa fd ["how", "x", "y"] (sp_fourths K) := by
  have e := hfa.symm.trans (PySem.W.mg_of X G a3)
  cases e
  have T : Txt K mg := ⟨⟨_, PySem.W.mg_of X G v_FOURTH_WORDS⟩⟩
  have F1 := fun_mk (st := s_two_bits) l1 c1 k1
  have b1 := F1.binds (ps := ["number", "j"]) fun _ _ _ _ _ _ us hl => match us, hl with | [_, _], _ => rfl
  have D1 : DefAt K mg "two_bits" s_two_bits ["number", "j"] f1 _ := ⟨F1, b1, PySem.W.mg_of X G a1⟩
  have F2 := fun_mk (st := s_fourth_told) l2 c2 k2
  have b2 := F2.binds (ps := ["row", "how", "j"]) fun _ _ _ _ _ _ us hl => match us, hl with | [_, _, _], _ => rfl
  have D2 : DefAt K mg "fourth_told" s_fourth_told ["row", "how", "j"] f2 _ := ⟨F2, b2, PySem.W.mg_of X G a2⟩
  have F3 := fun_mk (st := s_fourths) l3 c3 k3
  have b3 := F3.binds (ps := ["how", "x", "y"]) fun _ _ _ _ _ _ us hl => match us, hl with | [_, _, _], _ => rfl
  exact ⟨PySem.W.fnOf "fourths" "fourths" (defArgs s_fourths) (defBody s_fourths) (defScope s_fourths) .none kV3 dc3 pm3 an3 cd3 ct3, fun s us hu => match us, hu with | [_, _, _], _ => .of_eq rfl, fun base _ _ => ok_fourths T F3 D2 D1⟩
theorem fourths_is {x y : List Nat} (how : Nat) (hl : x.length = 16) (hl2 : y.length = 16) (hx : ∀ k ∈ x, k < 2 ^ 32) (hy : ∀ k ∈ y, k < 2 ^ 32) : Sv11.fourths x y how = fourthsM how x y := by
  have hb : ∀ i : Nat, ∀ k ∈ (if i < 8 then x else y), k < 2 ^ 32 := fun i => by
    split
    · exact hx
    · exact hy
  have e : Sv11.fourths x y how = (List.range 16).map fun i => (if i < 8 then x else y).getD (4 * twoN how (i / 4) + i % 4) 0 := by
    unfold Sv11.fourths
    refine words_eq fun i _ => ⟨?_, getD_lt (hb i) _⟩
    show Sv11.word (if i < 8 then x else y) (4 * (how / 4 ^ (i / 4) % 4) + i % 4) = _
    rw [word_eq (hb i), twoN_eq]
  have t : ∀ j, twoN how j < 4 := twoN_lt how
  rw [e]
  unfold fourthsM fourthM
  rw [cut_range x (by have := t 0; omega), cut_range x (by have := t 1; omega), cut_range y (by have := t 2; omega), cut_range y (by have := t 3; omega)]
  have r4 : List.range 4 = [0, 1, 2, 3] := by decide
  have r16 : List.range 16 = [0, 1, 2, 3, 4, 5, 6, 7, 8, 9, 10, 11, 12, 13, 14, 15] := by decide
  rw [r4, r16]
  rfl
theorem spec_fourths {x y : List Nat} (how : Nat) (_ : how < 2 ^ 32) (hl : x.length = 16) (hl2 : y.length = 16) (hx : ∀ k ∈ x, k < 2 ^ 32) (hy : ∀ k ∈ y, k < 2 ^ 32) : PySv11.fourths (how : Int) (zl x) (zl y) = zl (fourthsM how x y) := by
  show (Sv11.fourths (Sv11Neutral.n (zl x)) (Sv11Neutral.n (zl y)) how).map (fun (k : Nat) => (k : Int)) = _
  rw [zl_back, zl_back, fourths_is how hl hl2 hx hy]
  rfl
theorem req_fourths {K : PySem.W.Frag} {H : Hp} {xs : List V} {a : PySem.W.Codec.denoteAll PySem.Challenge.rw_sixteenwordsdesk_s12_fourths.args}
    (hask : PySem.W.Codec.app PySem.Challenge.rw_sixteenwordsdesk_s12_fourths.args PySem.Challenge.rw_sixteenwordsdesk_s12_fourths.asked a = true) (hx : DwAll K H xs (PySem.W.Codec.encAll PySem.Challenge.rw_sixteenwordsdesk_s12_fourths.args a)) :
    sp_fourths K xs H (fun v H' => Dw K H' v (PySem.Challenge.rw_sixteenwordsdesk_s12_fourths.ret.enc (PySem.W.Codec.app PySem.Challenge.rw_sixteenwordsdesk_s12_fourths.args PySem.Challenge.rw_sixteenwordsdesk_s12_fourths.f a))) fun _ _ _ => False := by
  obtain ⟨how, x, y, u⟩ := a
  have hask : (Sv11Neutral.word how && (Sv11Neutral.row x && (Sv11Neutral.row y))) = true := hask
  rw [Bool.and_eq_true, Bool.and_eq_true] at hask
  obtain ⟨how, rfl, hb_how⟩ := word_nat hask.1
  obtain ⟨x, rfl, hl_x, hw_x⟩ := row_nat (hask.2.1)
  obtain ⟨y, rfl, hl_y, hw_y⟩ := row_nat (hask.2.2)
  have hx : DwAll K H xs [.int how, .list ((zl x).map PySem.W.WData.int), .list ((zl y).map PySem.W.WData.int)] := hx
  obtain ⟨v0, r0, rfl, h0, hx⟩ := dw_cons hx
  obtain ⟨v1, r1, rfl, h1, hx⟩ := dw_cons hx
  obtain ⟨v2, r2, rfl, h2, hx⟩ := dw_cons hx
  cases hx
  cases h0
  obtain ⟨a1, rfl, s1⟩ := dw_row h1
  obtain ⟨a2, rfl, s2⟩ := dw_row h2
  refine ⟨how, a1, a2, x, y, rfl, hb_how, s1, s2, ⟨hl_x, hl_y⟩, ⟨hw_x, hw_y⟩, fun H' p hp => ?_⟩
  show Dw K H' (.ref p) (.list ((PySv11.fourths (how : Int) (zl x) (zl y)).map PySem.W.WData.int))
  rw [spec_fourths how hb_how hl_x hl_y hw_x hw_y]
  exact dw_nv hp
end My
open PySem PySem.W PyProof.Rows
set_option maxRecDepth 100000 in
set_option maxHeartbeats 8000000 in
theorem PySem.Challenge.cw_sixteenwordsdesk_s12_fourths_holds : PySem.Challenge.rw_sixteenwordsdesk_s12_fourths.Holds := by
  w_on; k_headS; (case hw => exact ⟨[.int 0, .list [.int 0, .int 0, .int 0, .int 0, .int 0, .int 0, .int 0, .int 0, .int 0, .int 0, .int 0, .int 0, .int 0, .int 0, .int 0, .int 0], .list [.int 0, .int 0, .int 0, .int 0, .int 0, .int 0, .int 0, .int 0, .int 0, .int 0, .int 0, .int 0, .int 0, .int 0, .int 0, .int 0]], by decide +kernel, by decide +kernel⟩)
  k_fillS
  refine L2.walk_specK (r := PySem.Challenge.rw_sixteenwordsdesk_s12_fourths) (k := 3) (CX := L2.CX0) (ps := ["how", "x", "y"]) (sp := My.sp_fourths) (by decide +kernel) rfl rfl ⟨rfl, by decide, by decide⟩ (fun w h Y => PySem.W.kIn_of Y) ?F ?S (fun _ _ _ _ z => z)
  case F =>
    intro w mg fa h Y KX G hmg
    refine' My.all_mk KX G hmg ?a1 ?l1 ?c1 ?k1 ?a2 ?l2 ?c2 ?k2 ?a3 ?l3 ?c3 ?k3 ?v_FOURTH_WORDS
    (case a1 => k_is); (case l1 => k_is); (case c1 => k_is); (case k1 => k_is); (case a2 => k_is); (case l2 => k_is); (case c2 => k_is); (case k2 => k_is); (case a3 => k_is); (case l3 => k_is); (case c3 => k_is); (case k3 => k_is); (case v_FOURTH_WORDS => k_is)
  case S =>
    intro K H xs a hO hwi hask hx
    exact My.req_fourths hask hx
#print axioms PySem.Challenge.cw_sixteenwordsdesk_s12_fourths_holds
