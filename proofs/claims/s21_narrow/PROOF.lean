import PyProof.Rows.All
import Wide.All
import OpenK.AllK
import Wide.FinOn
import Open.SpecLaws
import KE.OsGo
import HandS.Base
import HandS.Call
import HandS.List
import HandS.Ends
import HandS.Spec
import HandS.Words
import HandS.WordsList
import HandS.Comp
import HandS.WideBits
import PySem.Challenge.RW_sixteenwordsdesk_s21_narrow
set_option Elab.async false
set_option linter.all false
set_option maxRecDepth 100000
set_option maxHeartbeats 1000000
/-! ### words of my own: naturals as Python ints, rows as lists of naturals -/
namespace My
open PySem PySem.Spec PyProof.Rows L2
abbrev nI (n : Nat) : V := V.int (n : Int)
def nv (l : List Nat) : List V := l.map nI
theorem nv_length (l : List Nat) : (nv l).length = l.length := List.length_map ..
theorem nv_append (a b : List Nat) : nv (a ++ b) = nv a ++ nv b := List.map_append ..
theorem nv_get {l : List Nat} {i n : Nat} (h : l[i]? = some n) : (nv l)[i]? = some (nI n) := by
  unfold nv; rw [List.getElem?_map, h]; rfl
theorem at_nv {l : List Nat} {i n : Nat} (h : l[i]? = some n) : atI (nv l) ((i : Nat) : Int) = some (nI n) := atI_nat (nv_get h)
theorem get_D {l : List Nat} {i : Nat} (h : i < l.length) : l[i]? = some (l.getD i 0) := by
  rw [List.getD_eq_getElem?_getD, List.getElem?_eq_getElem h]; rfl
theorem same_upd {H : Hp} {p : Addr} {o : HO} (h : H p = none) : Same H (upd H p o) := fun b x e => by
  rw [upd_ne (ne_of_none e h)]
  exact e
theorem same_refl (H : Hp) : Same H H := fun _ _ e => e
/-- what was there before p was made stands behind a store at p -/
theorem same_put {H H' : Hp} {p : Addr} {o : HO} (h : H p = none) (s : Same H H') : Same H (upd H' p o) := fun b x e => by
  rw [upd_ne (ne_of_none e h)]
  exact s b x e
theorem ne_made {H H' : Hp} {p q : Addr} {o : HO} (h : H p = some o) (s : Same H H') (hq : H' q = none) : q ≠ p := fun e => by
  subst e
  rw [s _ _ h] at hq
  cases hq
theorem sizeSmall {n : Nat} (h : n ≤ 100000) : n < sizeLine := Nat.lt_of_le_of_lt h (by decide)
section
variable {X : Cx}
theorem pow_castI (k : Nat) : ((2 ^ k : Nat) : Int) = (2 : Int) ^ k := PySem.W.kbt_cast k
theorem on_shr : OpR X (binaryOp .RShift) (fun x y H Q => ∃ n k : Nat, x = nI n ∧ y = nI k ∧ Q (nI (n >>> k)) H) := by
  intro pins s σ H x y v u Q I rx ry h
  obtain ⟨n, k, rfl, rfl, q⟩ := h
  refine op_shrN pins s σ H _ _ v u Q I rx ry ⟨_, k, rfl, rfl, ?_⟩
  rw [Nat.shiftRight_eq_div_pow] at q
  have e : ((n / 2 ^ k : Nat) : Int) = (n : Int) / 2 ^ k := by rw [Int.natCast_ediv, pow_castI]
  rw [← e]
  exact q
theorem on_shl : OpR X (binaryOp .LShift) (fun x y H Q => ∃ n k b : Nat, x = nI n ∧ y = nI k ∧ (n < 2 ^ b ∧ b + k ≤ 134217728) ∧ Q (nI (n <<< k)) H) := by
  intro pins s σ H x y v u Q I rx ry h
  obtain ⟨n, k, b, rfl, rfl, ⟨hb, hk⟩, q⟩ := h
  refine op_shlN pins s σ H _ _ v u Q I rx ry ⟨_, k, rfl, rfl, shl_ok (n := b) (by simpa using hb) hk, ?_⟩
  rw [Nat.shiftLeft_eq] at q
  have e : ((n * 2 ^ k : Nat) : Int) = (n : Int) * 2 ^ k := by rw [Int.natCast_mul, pow_castI]
  rw [← e]
  exact q
theorem on_and : OpR X (binaryOp .BitAnd) (fun x y H Q => ∃ n m : Nat, x = nI n ∧ y = nI m ∧ Q (nI (n &&& m)) H) := by
  intro pins s σ H x y v u Q I rx ry h
  obtain ⟨n, m, rfl, rfl, q⟩ := h
  refine op_and pins s σ H _ _ v u Q I rx ry ⟨_, _, rfl, rfl, ?_⟩
  show Q (V.int (Builtin.bitAnd (n : Int) (m : Int))) H
  rw [bitAnd_pp (Int.natCast_nonneg _) (Int.natCast_nonneg _), Int.toNat_natCast, Int.toNat_natCast]
  exact q
theorem on_or : OpR X (binaryOp .BitOr) (fun x y H Q => ∃ n m : Nat, x = nI n ∧ y = nI m ∧ Q (nI (n ||| m)) H) := by
  intro pins s σ H x y v u Q I rx ry h
  obtain ⟨n, m, rfl, rfl, q⟩ := h
  refine op_or pins s σ H _ _ v u Q I rx ry ⟨_, _, rfl, rfl, ?_⟩
  show Q (V.int (Builtin.bitOr (n : Int) (m : Int))) H
  rw [bitOr_nn (Int.natCast_nonneg _) (Int.natCast_nonneg _), Int.toNat_natCast, Int.toNat_natCast]
  exact q
theorem on_add : OpR X (binaryOp .Add) (fun x y H Q => ∃ n m : Nat, x = nI n ∧ y = nI m ∧ Q (nI (n + m)) H) := op_addN
theorem on_sub : OpR X (binaryOp .Sub) (fun x y H Q => ∃ n m : Nat, x = nI n ∧ y = nI m ∧ m ≤ n ∧ Q (nI (n - m)) H) := op_subN
theorem on_mul : OpR X (binaryOp .Mult) (fun x y H Q => ∃ n m : Nat, x = nI n ∧ y = nI m ∧ n ≤ 4294967296 ∧ Q (nI (n * m)) H) := op_mulN
theorem on_fdiv : OpR X (binaryOp .FloorDiv) (fun x y H Q => ∃ n m : Nat, x = nI n ∧ y = nI m ∧ (1 ≤ m ∧ m < 1073741824) ∧ Q (nI (n / m)) H) := op_fdivNN
theorem on_mod : OpR X (binaryOp .Mod) (fun x y H Q => ∃ n m : Nat, x = nI n ∧ y = nI m ∧ 1 ≤ m ∧ Q (nI (n % m)) H) := by
  intro pins s σ H x y v u Q I rx ry h
  obtain ⟨n, m, rfl, rfl, c, q⟩ := h
  refine op_mod pins s σ H _ _ v u Q I rx ry ⟨_, _, rfl, rfl, show (0 : Int) < (m : Int) by omega, ?_⟩
  have e : ((n % m : Nat) : Int) = (n : Int) % (m : Int) := Int.natCast_emod ..
  show Q (V.int ((n : Int) % (m : Int))) H
  rw [← e]
  exact q
theorem on_eq : OpR X (compareOp .Eq) (fun x y H Q => ∃ n m : Nat, x = nI n ∧ y = nI m ∧ Q (.bl (decide (n = m))) H) := by
  intro pins s σ H x y v u Q I rx ry h
  obtain ⟨n, m, rfl, rfl, q⟩ := h
  refine op_eq pins s σ H _ _ v u Q I rx ry ⟨rfl, ?_⟩
  have e : decide (nI n = nI m) = decide (n = m) := by
    by_cases h : n = m
    · rw [h]; simp
    · rw [decide_eq_false h, decide_eq_false]
      intro z
      injection z with z
      exact h (by omega)
  rw [e]
  exact q
theorem oi_eq : OpR X (compareOp .Eq) (fun x y H Q => ∃ i j : Int, x = .int i ∧ y = .int j ∧ Q (.bl (decide (i = j))) H) := by
  intro pins s σ H x y v u Q I rx ry h
  obtain ⟨n, m, rfl, rfl, q⟩ := h
  refine op_eq pins s σ H _ _ v u Q I rx ry ⟨rfl, ?_⟩
  have e : decide (V.int n = V.int m) = decide (n = m) := by
    by_cases h : n = m
    · rw [h]; simp
    · rw [decide_eq_false h, decide_eq_false]
      intro z
      injection z with z
      exact h z
  rw [e]
  exact q
theorem oi_ne : OpR X (compareOp .NotEq) (fun x y H Q => ∃ i j : Int, x = .int i ∧ y = .int j ∧ Q (.bl (!decide (i = j))) H) := by
  intro pins s σ H x y v u Q I rx ry h
  obtain ⟨n, m, rfl, rfl, q⟩ := h
  refine op_ne pins s σ H _ _ v u Q I rx ry ⟨rfl, ?_⟩
  have e : decide (V.int n = V.int m) = decide (n = m) := by
    by_cases h : n = m
    · rw [h]; simp
    · rw [decide_eq_false h, decide_eq_false]
      intro z
      injection z with z
      exact h z
  have e2 : decide (V.int n ≠ V.int m) = !decide (n = m) := by rw [← e, decide_not]
  first
    | (rw [e2]; exact q)
    | (rw [e]; exact q)
end
abbrev EN : XK := fun _ _ _ => False
/-- what a call finds: the def stands at f, bound by its name -/
structure DefAt (K : PySem.W.Frag) (mg : Str → Option Value) (nm : Str) (st : Stmt) (ps : List Str) (f : Addr) (fd : FuncData) : Prop where
  F : Fun K nm nm st f fd
  b : Binds K fd ps []
  g : mg nm = some (.ref f)
theorem tYes_of {σ : L2.St} {H : Hp} {Q : Bool → Hp → Prop} (h : Q true H) : tYes σ H Q := h
theorem ifT {c : Bool} {a b : Prop} (hc : c = true) (h : a) : (if c = true then a else b) := by rw [if_pos hc]; exact h
theorem ifF {c : Bool} {a b : Prop} (hc : ¬ c = true) (h : b) : (if c = true then a else b) := by rw [if_neg hc]; exact h
theorem wipe_in {σ : L2.St} {j : Nat} {v : Option V} : wipe ((wipe σ [j]).set j v) [j] = wipe σ [j] := by
  show ((σ.set j none).set j v).set j none = σ.set j none
  rw [List.set_set, List.set_set]
/-- [e for i in range(n)], the element a value by the place; what stood stands -/
theorem lcMap {te : TE} {j : Nat} {σ : L2.St} {H1 : Hp} {D : Addr} {Qd : Hp → Prop} (f : Nat → V) (n : Nat) (hn : n ≤ 100000) (hD : H1 D = none)
    (hs : ∀ i H, i < n → Same H1 H → ∀ Q : VK, (∀ H', Same H H' → Q (f i) H') → te ((wipe σ [j]).set j (some (nI i))) H Q)
    (hd : ∀ H3, Same H1 H3 → H3 D = some (.lst ((List.range n).map f)) → Qd H3) :
    ∃ W : Nat → Nat → Hp → Prop, (∃ m, W 0 m (upd H1 D (.lst []))) ∧ ∀ i m H, W i m H →
      ((Itr 0 n).stop i H ∧ Qd H) ∨ ((Itr 0 n).go i H ∧ ∃ Nx : Hp → Prop, (∀ H', Nx H' → ∃ m', m' < m ∧ W (i + 1) m' H') ∧ ∀ x H', (Itr 0 n).yld i H x H' → gName j x (wipe σ [j]) H' fun σ2 H2 => wipe σ2 [j] = wipe σ [j] ∧ tYes σ2 H2 fun b H3 =>
        if b = true then te σ2 H3 fun y H4 => ∃ acc, H4 D = some (.lst acc) ∧ acc.length < sizeLine ∧ Nx (upd H4 D (.lst (acc ++ [y]))) else Nx H3) := by
  refine lc_range (fun i H => Same H1 H ∧ H D = some (.lst ((List.range i).map f))) ⟨same_upd hD, upd_same⟩ (fun i H hi ⟨s, e⟩ => ?_) (fun H ⟨s, e⟩ => hd H s e)
  rw [Int.zero_add]
  refine ⟨wipe_in, ?_⟩
  refine tYes_of (ifT rfl ?_)
  refine hs i H hi s _ fun H' s' => ⟨_, s' _ _ e, ?_, ?_, ?_⟩
  · rw [List.length_map, List.length_range]
    exact sizeSmall (by omega)
  · exact same_put hD fun b o z => s' _ _ (s _ _ z)
  · rw [upd_same, List.range_succ, List.map_append]
    rfl
/-- [e for v in xs], xs a list of naturals -/
theorem lcMapL {K : PySem.W.Frag} {a : Addr} {te : TE} {j : Nat} {σ : L2.St} {H1 : Hp} {D : Addr} {Qd : Hp → Prop} (l : List Nat) (f : Nat → V) (hn : l.length ≤ 100000) (hS : SqL K H1 a (nv l)) (hD : H1 D = none)
    (hs : ∀ v H, v ∈ l → Same H1 H → ∀ Q : VK, (∀ H', Same H H' → Q (f v) H') → te ((wipe σ [j]).set j (some (nI v))) H Q)
    (hd : ∀ H3, Same H1 H3 → H3 D = some (.lst (l.map f)) → Qd H3) :
    ∃ W : Nat → Nat → Hp → Prop, (∃ m, W 0 m (upd H1 D (.lst []))) ∧ ∀ i m H, W i m H →
      ((Itl K a).stop i H ∧ Qd H) ∨ ((Itl K a).go i H ∧ ∃ Nx : Hp → Prop, (∀ H', Nx H' → ∃ m', m' < m ∧ W (i + 1) m' H') ∧ ∀ x H', (Itl K a).yld i H x H' → gName j x (wipe σ [j]) H' fun σ2 H2 => wipe σ2 [j] = wipe σ [j] ∧ tYes σ2 H2 fun b H3 =>
        if b = true then te σ2 H3 fun y H4 => ∃ acc, H4 D = some (.lst acc) ∧ acc.length < sizeLine ∧ Nx (upd H4 D (.lst (acc ++ [y]))) else Nx H3) := by
  refine lc_list (xs := nv l) (fun i H => Same H1 H ∧ H D = some (.lst ((l.take i).map f))) ⟨same_upd hD, upd_same⟩ (fun i H _ ⟨s, _⟩ => s.seq hS) (fun i x H hx ⟨s, e⟩ => ?_) (fun H ⟨s, e⟩ => hd H s ?_)
  · obtain ⟨v, hv, rfl⟩ : ∃ v, l[i]? = some v ∧ x = nI v := by
      unfold nv at hx
      rw [List.getElem?_map] at hx
      cases e : l[i]? with
      | none => rw [e] at hx; cases hx
      | some v => rw [e] at hx; exact ⟨v, rfl, (Option.some.inj hx).symm⟩
    refine ⟨wipe_in, ?_⟩
    refine tYes_of (ifT rfl ?_)
    refine hs v H (List.mem_of_getElem? hv) s _ fun H' s' => ⟨_, s' _ _ e, ?_, ?_, ?_⟩
    · rw [List.length_map, List.length_take]
      exact sizeSmall (by omega)
    · exact same_put hD fun b o z => s' _ _ (s _ _ z)
    · rw [upd_same, List.take_add_one, hv, List.map_append]
      rfl
  · rw [nv_length, List.take_length] at e
    exact e
theorem range_get {α : Type} {f : Nat → α} {n i : Nat} (h : i < n) : ((List.range n).map f)[i]? = some (f i) := by
  rw [List.getElem?_map, List.getElem?_range h]
  rfl
theorem map_nI (f : Nat → Nat) (l : List Nat) : l.map (fun i => nI (f i)) = nv (l.map f) := by
  unfold nv
  rw [List.map_map]
  rfl
theorem at_nvr {f : Nat → Nat} {n i : Nat} (h : i < n) : atI (nv ((List.range n).map f)) (i : Int) = some (nI (f i)) := at_nv (range_get h)
/-- [e for i in range(n) if t] -/
theorem lcFil {tt : TT} {te : TE} {j : Nat} {σ : L2.St} {H1 : Hp} {D : Addr} {Qd : Hp → Prop} (f : Nat → V) (p : Nat → Bool) (n : Nat) (hn : n ≤ 100000) (hD : H1 D = none)
    (ht : ∀ i H, i < n → Same H1 H → ∀ Q : Bool → Hp → Prop, (∀ H', Same H H' → Q (p i) H') → tt ((wipe σ [j]).set j (some (nI i))) H Q)
    (hs : ∀ i H, i < n → p i = true → Same H1 H → ∀ Q : VK, (∀ H', Same H H' → Q (f i) H') → te ((wipe σ [j]).set j (some (nI i))) H Q)
    (hd : ∀ H3, Same H1 H3 → H3 D = some (.lst (((List.range n).filter p).map f)) → Qd H3) :
    ∃ W : Nat → Nat → Hp → Prop, (∃ m, W 0 m (upd H1 D (.lst []))) ∧ ∀ i m H, W i m H →
      ((Itr 0 n).stop i H ∧ Qd H) ∨ ((Itr 0 n).go i H ∧ ∃ Nx : Hp → Prop, (∀ H', Nx H' → ∃ m', m' < m ∧ W (i + 1) m' H') ∧ ∀ x H', (Itr 0 n).yld i H x H' → gName j x (wipe σ [j]) H' fun σ2 H2 => wipe σ2 [j] = wipe σ [j] ∧ tt σ2 H2 fun b H3 =>
        if b = true then te σ2 H3 fun y H4 => ∃ acc, H4 D = some (.lst acc) ∧ acc.length < sizeLine ∧ Nx (upd H4 D (.lst (acc ++ [y]))) else Nx H3) := by
  refine lc_range (fun i H => Same H1 H ∧ H D = some (.lst (((List.range i).filter p).map f))) ⟨same_upd hD, upd_same⟩ (fun i H hi ⟨s, e⟩ => ?_) (fun H ⟨s, e⟩ => hd H s e)
  rw [Int.zero_add]
  refine ⟨wipe_in, ?_⟩
  refine ht i H hi s _ fun H' s' => ?_
  have sH : Same H1 H' := fun b o z => s' _ _ (s _ _ z)
  have ef : (List.range (i + 1)).filter p = (List.range i).filter p ++ (if p i = true then [i] else []) := by
    rw [List.range_succ, List.filter_append]
    cases hp : p i <;> simp [hp]
  by_cases hp : p i = true
  · rw [if_pos hp]
    refine hs i H' hi hp sH _ fun H2 s2 => ⟨_, s2 _ _ (s' _ _ e), ?_, ?_, ?_⟩
    · have h1 := List.length_filter_le p (List.range i)
      rw [List.length_range] at h1
      rw [List.length_map]
      exact sizeSmall (by omega)
    · exact same_put hD fun b o z => s2 _ _ (sH _ _ z)
    · rw [upd_same, ef, if_pos hp, List.map_append]
      rfl
  · rw [if_neg hp]
    refine ⟨sH, ?_⟩
    rw [ef, if_neg hp, List.append_nil]
    exact s' _ _ e
end My
/-! ### more operations: lists that may be the caller's own, comparisons, xor -/
namespace My
open PySem PySem.Spec PyProof.Rows L2
section
variable {X : Cx}
def rCatS (K : PySem.W.Frag) : V → V → Hp → VK → Prop := fun x y H Q => ∃ l b xs zs, x = .ref l ∧ y = .ref b ∧ SqL K H l xs ∧ SqL K H b zs ∧ xs.length + zs.length ≤ sizeLine ∧ ∀ p, H p = none → Q (.ref p) (upd H p (.lst (xs ++ zs)))
theorem op_catS : OpR X (binaryOp .Add) (rCatS X.K) := by
  intro pins s σ H x y v u Q I rx ry h
  obtain ⟨l, b, xs, zs, rfl, rfl, hH, hB, hz, q⟩ := h
  cases rx
  cases ry
  obtain ⟨its, r, ⟨⟨cls, dd, data, sl⟩, n, ho, hc, hd0, hd⟩, z⟩ := I.list hH
  obtain ⟨its2, r2, ⟨⟨cls2, dd2, data2, sl2⟩, n2, ho2, hc2, hd02, hd2⟩, z2⟩ := I.list hB
  simp only at hc hd hc2 hd2
  subst hc hd hc2 hd2
  have hl := r.length
  have hl2 := r2.length
  refine concat_meets ⟨_, ho, rfl⟩ ⟨_, ho2, rfl⟩ noFill_list_add seq_list_add PySem.F.slot_list_add PySem.F.entry_list_add (PySem.F.args_list_add_2 _ _) (list_addW l b its.toArray its2.toArray n n2 dd dd2 sl sl2 (by rw [List.size_toArray, List.size_toArray]; omega)) ⟨ho, ho2, ?_⟩
  have ea : its.toArray ++ its2.toArray = (its ++ its2).toArray := by simp
  rw [ea]
  exact ⟨.ref _, _, I.lnew (t' := s.toks) (r.append r2) (by rw [List.length_append]; omega), rfl, q _ I.fresh⟩
theorem on_lt : OpR X (compareOp .Lt) (fun x y H Q => ∃ n m : Nat, x = nI n ∧ y = nI m ∧ Q (.bl (decide (n < m))) H) := by
  intro pins s σ H x y v u Q I rx ry h
  obtain ⟨n, m, rfl, rfl, q⟩ := h
  have e : decide ((n : Int) < (m : Int)) = decide (n < m) := decide_eq_decide.mpr (by omega)
  refine op_lt pins s σ H _ _ v u Q I rx ry ⟨_, _, rfl, rfl, ?_⟩
  show Q (.bl (decide ((n : Int) < (m : Int)))) H
  rw [e]; exact q
theorem on_le : OpR X (compareOp .LtE) (fun x y H Q => ∃ n m : Nat, x = nI n ∧ y = nI m ∧ Q (.bl (decide (n ≤ m))) H) := by
  intro pins s σ H x y v u Q I rx ry h
  obtain ⟨n, m, rfl, rfl, q⟩ := h
  have e : decide ((n : Int) ≤ (m : Int)) = decide (n ≤ m) := decide_eq_decide.mpr (by omega)
  refine op_le pins s σ H _ _ v u Q I rx ry ⟨_, _, rfl, rfl, ?_⟩
  show Q (.bl (decide ((n : Int) ≤ (m : Int)))) H
  rw [e]; exact q
theorem on_gt : OpR X (compareOp .Gt) (fun x y H Q => ∃ n m : Nat, x = nI n ∧ y = nI m ∧ Q (.bl (decide (m < n))) H) := by
  intro pins s σ H x y v u Q I rx ry h
  obtain ⟨n, m, rfl, rfl, q⟩ := h
  have e : decide ((m : Int) < (n : Int)) = decide (m < n) := decide_eq_decide.mpr (by omega)
  refine op_gt pins s σ H _ _ v u Q I rx ry ⟨_, _, rfl, rfl, ?_⟩
  show Q (.bl (decide ((m : Int) < (n : Int)))) H
  rw [e]; exact q
theorem on_ge : OpR X (compareOp .GtE) (fun x y H Q => ∃ n m : Nat, x = nI n ∧ y = nI m ∧ Q (.bl (decide (m ≤ n))) H) := by
  intro pins s σ H x y v u Q I rx ry h
  obtain ⟨n, m, rfl, rfl, q⟩ := h
  have e : decide ((m : Int) ≤ (n : Int)) = decide (m ≤ n) := decide_eq_decide.mpr (by omega)
  refine op_ge pins s σ H _ _ v u Q I rx ry ⟨_, _, rfl, rfl, ?_⟩
  show Q (.bl (decide ((m : Int) ≤ (n : Int)))) H
  rw [e]; exact q
theorem on_ne : OpR X (compareOp .NotEq) (fun x y H Q => ∃ n m : Nat, x = nI n ∧ y = nI m ∧ Q (.bl (!decide (n = m))) H) := by
  intro pins s σ H x y v u Q I rx ry h
  obtain ⟨n, m, rfl, rfl, q⟩ := h
  have e : decide ((n : Int) = (m : Int)) = decide (n = m) := decide_eq_decide.mpr (by omega)
  refine oi_ne pins s σ H _ _ v u Q I rx ry ⟨_, _, rfl, rfl, ?_⟩
  rw [e]; exact q
theorem on_xor : OpR X (binaryOp .BitXor) (fun x y H Q => ∃ n m : Nat, x = nI n ∧ y = nI m ∧ Q (nI (n ^^^ m)) H) := by
  intro pins s σ H x y v u Q I rx ry h
  obtain ⟨n, m, rfl, rfl, q⟩ := h
  refine op_xor pins s σ H _ _ v u Q I rx ry ⟨_, _, rfl, rfl, ?_⟩
  have e : Builtin.bitXor (n : Int) (m : Int) = ((n ^^^ m : Nat) : Int) := by
    rw [bitXor_and, bitAnd_pp (Int.natCast_nonneg _) (Int.natCast_nonneg _), Int.toNat_natCast, Int.toNat_natCast]
    have k : ∀ n m : Nat, (n ^^^ m) + 2 * (n &&& m) = n + m := fun n m => by
      induction n using Nat.strongRecOn generalizing m with
      | _ n ih =>
        by_cases h0 : n = 0
        · subst h0; simp
        · have i1 := ih (n / 2) (by omega) (m / 2)
          have x1 : (n ^^^ m) / 2 = n / 2 ^^^ m / 2 := Nat.xor_div_two
          have a1 : (n &&& m) / 2 = n / 2 &&& m / 2 := Nat.and_div_two
          have x2 : (n ^^^ m) % 2 = (n + m) % 2 := by
            have hh := Nat.xor_mod_two_pow (a := n) (b := m) (n := 1)
            rw [Nat.pow_one] at hh
            rw [hh]
            rcases Nat.mod_two_eq_zero_or_one n with p | p <;> rcases Nat.mod_two_eq_zero_or_one m with p2 | p2 <;> rw [p, p2] <;> simp <;> omega
          have a2 : (n &&& m) % 2 = n % 2 * (m % 2) := by
            have hh := Nat.and_mod_two_pow (a := n) (b := m) (n := 1)
            rw [Nat.pow_one] at hh
            rw [hh]
            rcases Nat.mod_two_eq_zero_or_one n with p | p <;> rcases Nat.mod_two_eq_zero_or_one m with p2 | p2 <;> rw [p, p2] <;> rfl
          rcases Nat.mod_two_eq_zero_or_one n with p | p <;> rcases Nat.mod_two_eq_zero_or_one m with p2 | p2 <;> (rw [p, p2] at a2; omega)
    have := k n m
    omega
  show Q (V.int (Builtin.bitXor (n : Int) (m : Int))) H
  rw [e]; exact q
theorem on_mulW : OpR X (binaryOp .Mult) (fun x y H Q => ∃ n m : Nat, x = nI n ∧ y = nI m ∧ n < 2 ^ 64 ∧ Q (nI (n * m)) H) := by
  intro pins s σ H x y v u Q I rx ry h
  obtain ⟨n, m, rfl, rfl, c, q⟩ := h
  refine op_mul pins s σ H _ _ v u Q I rx ry ⟨_, _, rfl, rfl, .inl ⟨by omega, by omega⟩, ?_⟩
  show Q (V.int ((n : Int) * (m : Int))) H
  rw [← Int.natCast_mul]; exact q
theorem on_fdivW : OpR X (binaryOp .FloorDiv) (fun x y H Q => ∃ n m : Nat, x = nI n ∧ y = nI m ∧ (1 ≤ m ∧ m < 2 ^ 64) ∧ Q (nI (n / m)) H) := by
  intro pins s σ H x y v u Q I rx ry h
  obtain ⟨n, m, rfl, rfl, ⟨c1, c2⟩, q⟩ := h
  refine op_fdivW pins s σ H _ _ v u Q I rx ry ⟨_, _, rfl, rfl, wide_div (b := 64) (by omega) (by rw [Int.natAbs_natCast]; exact c2) (by decide) (by decide), ?_⟩
  show Q (V.int ((n : Int) / (m : Int))) H
  rw [← Int.natCast_ediv]; exact q
end
abbrev rnOr : V → V → Hp → VK → Prop := fun x y H Q => ∃ n m : Nat, x = nI n ∧ y = nI m ∧ Q (nI (n ||| m)) H
abbrev rnAnd : V → V → Hp → VK → Prop := fun x y H Q => ∃ n m : Nat, x = nI n ∧ y = nI m ∧ Q (nI (n &&& m)) H
abbrev rnAdd : V → V → Hp → VK → Prop := fun x y H Q => ∃ n m : Nat, x = nI n ∧ y = nI m ∧ Q (nI (n + m)) H
abbrev rnSub : V → V → Hp → VK → Prop := fun x y H Q => ∃ n m : Nat, x = nI n ∧ y = nI m ∧ m ≤ n ∧ Q (nI (n - m)) H
abbrev rnMul : V → V → Hp → VK → Prop := fun x y H Q => ∃ n m : Nat, x = nI n ∧ y = nI m ∧ n ≤ 4294967296 ∧ Q (nI (n * m)) H
abbrev rnMod : V → V → Hp → VK → Prop := fun x y H Q => ∃ n m : Nat, x = nI n ∧ y = nI m ∧ 1 ≤ m ∧ Q (nI (n % m)) H
abbrev rnShr : V → V → Hp → VK → Prop := fun x y H Q => ∃ n k : Nat, x = nI n ∧ y = nI k ∧ Q (nI (n >>> k)) H
abbrev rnShl : V → V → Hp → VK → Prop := fun x y H Q => ∃ n k b : Nat, x = nI n ∧ y = nI k ∧ (n < 2 ^ b ∧ b + k ≤ 134217728) ∧ Q (nI (n <<< k)) H
theorem cut_mid (l : List Nat) {a b : Nat} (h : a ≤ b) (hb : b ≤ l.length) : cutV (nv l) (some (a : Int)) (some (b : Int)) = nv ((l.drop a).take (b - a)) := by
  unfold cutV
  rw [HT.sIx_nat, HT.sIx_nat, nv_length]
  show ((nv l).drop (min a l.length)).take (min b l.length - min a l.length) = _
  rw [Nat.min_eq_left hb, Nat.min_eq_left (Nat.le_trans h hb)]
  unfold nv
  rw [List.map_take, List.map_drop]
theorem map_range16 {x : List Nat} (h : x.length = 16) (f : Nat → Nat) : x.map f = (List.range 16).map fun i => f (x.getD i 0) := by
  apply List.ext_getElem?
  intro i
  by_cases hi : i < 16
  · rw [range_get hi, List.getElem?_map, get_D (by omega)]
    rfl
  · rw [List.getElem?_eq_none (by simp; omega), List.getElem?_eq_none (by simp; omega)]
end My
/-! ### the request's numbers as naturals -/
namespace My
open PySem PySem.Spec PyProof.Rows L2
open PySem.W (WData Codec)
def zl (x : List Nat) : List Int := x.map fun (k : Nat) => (k : Int)
theorem zl_int (x : List Nat) : (zl x).map V.int = nv x := by unfold zl nv; rw [List.map_map]; rfl
theorem zl_back (x : List Nat) : Sv11Neutral.n (zl x) = x := by
  unfold Sv11Neutral.n zl
  rw [List.map_map]
  conv => rhs; rw [← List.map_id x]
  exact List.map_congr_left fun a _ => Int.toNat_natCast a
theorem nat_of {l : List Int} (h : ∀ z ∈ l, 0 ≤ z) : ∃ x : List Nat, l = zl x := by
  refine ⟨l.map Int.toNat, ?_⟩
  unfold zl
  rw [List.map_map]
  conv => lhs; rw [← List.map_id l]
  exact List.map_congr_left fun a ha => by
    have := h a ha
    show a = ((a.toNat : Nat) : Int)
    omega
theorem word_nat {z : Int} (h : Sv11Neutral.word z = true) : ∃ n : Nat, z = (n : Int) ∧ n < 2 ^ 32 := by
  unfold Sv11Neutral.word at h
  rw [Bool.and_eq_true, decide_eq_true_eq, decide_eq_true_eq] at h
  exact ⟨z.toNat, by omega, by omega⟩
theorem mask_nat {z : Int} (h : Sv11Neutral.mask z = true) : ∃ n : Nat, z = (n : Int) ∧ n < 65536 := by
  unfold Sv11Neutral.mask at h
  rw [Bool.and_eq_true, decide_eq_true_eq, decide_eq_true_eq] at h
  exact ⟨z.toNat, by omega, by omega⟩
theorem words_nat {l : List Int} (h : l.all Sv11Neutral.word = true) : ∃ x : List Nat, l = zl x ∧ ∀ k ∈ x, k < 2 ^ 32 := by
  rw [List.all_eq_true] at h
  obtain ⟨x, rfl⟩ := nat_of fun z hz => by
    obtain ⟨n, e, _⟩ := word_nat (h z hz)
    omega
  refine ⟨x, rfl, fun k hk => ?_⟩
  obtain ⟨n, e, hn⟩ := word_nat (h (k : Int) (List.mem_map.mpr ⟨k, hk, rfl⟩))
  have : k = n := by omega
  omega
theorem row_nat {l : List Int} (h : Sv11Neutral.row l = true) : ∃ x : List Nat, l = zl x ∧ x.length = 16 ∧ ∀ k ∈ x, k < 2 ^ 32 := by
  unfold Sv11Neutral.row at h
  rw [Bool.and_eq_true, decide_eq_true_eq] at h
  obtain ⟨x, rfl, hx⟩ := words_nat h.1
  refine ⟨x, rfl, ?_, hx⟩
  have e := h.2
  unfold zl at e
  rw [List.length_map] at e
  exact e
/-- a row's word as the specification reads it -/
theorem word_eq {x : List Nat} (h : ∀ k ∈ x, k < 2 ^ 32) (i : Nat) : Sv11.word x i = x.getD i 0 := by
  unfold Sv11.word
  apply Nat.mod_eq_of_lt
  rw [List.getD_eq_getElem?_getD]
  cases e : x[i]? with
  | none => show 0 < 2 ^ 32; decide
  | some v => exact h v (List.mem_of_getElem? e)
theorem getD_lt {x : List Nat} (h : ∀ k ∈ x, k < 2 ^ 32) (i : Nat) : x.getD i 0 < 2 ^ 32 := by
  rw [List.getD_eq_getElem?_getD]
  cases e : x[i]? with
  | none => show 0 < 2 ^ 32; decide
  | some v => exact h v (List.mem_of_getElem? e)
theorem words_eq {f g : Nat → Nat} (h : ∀ i, i < 16 → f i = g i ∧ g i < 2 ^ 32) : Sv11.words f = (List.range 16).map g := by
  unfold Sv11.words
  refine List.map_congr_left fun i hi => ?_
  obtain ⟨e, l⟩ := h i (List.mem_range.mp hi)
  rw [e, Nat.mod_eq_of_lt l]
theorem dw_nv {K : PySem.W.Frag} {H : Hp} {p : Addr} {l : List Nat} (h : H p = some (.lst (nv l))) : Dw K H (.ref p) (.list ((zl l).map WData.int)) := by
  rw [← zl_int] at h
  exact .lst (SqL.of h) (dw_ints _)
theorem dw_cons {K : PySem.W.Frag} {H : Hp} {xs : List V} {d : WData} {ds : List WData} (h : DwAll K H xs (d :: ds)) : ∃ v vs, xs = v :: vs ∧ Dw K H v d ∧ DwAll K H vs ds := by
  cases h with
  | cons h1 h2 => exact ⟨_, _, rfl, h1, h2⟩
theorem dw_row {K : PySem.W.Frag} {H : Hp} {v : V} {x : List Nat} (h : Dw K H v (.list ((zl x).map WData.int))) : ∃ a, v = .ref a ∧ SqL K H a (nv x) := by
  cases h with
  | lst hs ha =>
    have e := L2.ints_dw (zl x) _ ha
    subst e
    rw [zl_int] at hs
    exact ⟨_, rfl, hs⟩
end My
/-! ### comprehensions over a list with a test, over range(1, n); answers as ints -/
namespace My
open PySem PySem.Spec PyProof.Rows L2
theorem nv_at {l : List Nat} {i : Nat} {x : V} (hx : (nv l)[i]? = some x) : ∃ v, l[i]? = some v ∧ x = nI v := by
  unfold nv at hx
  rw [List.getElem?_map] at hx
  cases e : l[i]? with
  | none => rw [e] at hx; cases hx
  | some v => rw [e] at hx; exact ⟨v, rfl, (Option.some.inj hx).symm⟩
/-- [e for v in xs if t], xs a list of naturals -/
theorem lcFilL {K : PySem.W.Frag} {a : Addr} {tt : TT} {te : TE} {j : Nat} {σ : L2.St} {H1 : Hp} {D : Addr} {Qd : Hp → Prop} (l : List Nat) (f : Nat → V) (p : Nat → Bool) (hn : l.length ≤ 100000) (hS : SqL K H1 a (nv l)) (hD : H1 D = none)
    (ht : ∀ v H, v ∈ l → Same H1 H → ∀ Q : Bool → Hp → Prop, (∀ H', Same H H' → Q (p v) H') → tt ((wipe σ [j]).set j (some (nI v))) H Q)
    (hs : ∀ v H, v ∈ l → p v = true → Same H1 H → ∀ Q : VK, (∀ H', Same H H' → Q (f v) H') → te ((wipe σ [j]).set j (some (nI v))) H Q)
    (hd : ∀ H3, Same H1 H3 → H3 D = some (.lst ((l.filter p).map f)) → Qd H3) :
    ∃ W : Nat → Nat → Hp → Prop, (∃ m, W 0 m (upd H1 D (.lst []))) ∧ ∀ i m H, W i m H →
      ((Itl K a).stop i H ∧ Qd H) ∨ ((Itl K a).go i H ∧ ∃ Nx : Hp → Prop, (∀ H', Nx H' → ∃ m', m' < m ∧ W (i + 1) m' H') ∧ ∀ x H', (Itl K a).yld i H x H' → gName j x (wipe σ [j]) H' fun σ2 H2 => wipe σ2 [j] = wipe σ [j] ∧ tt σ2 H2 fun b H3 =>
        if b = true then te σ2 H3 fun y H4 => ∃ acc, H4 D = some (.lst acc) ∧ acc.length < sizeLine ∧ Nx (upd H4 D (.lst (acc ++ [y]))) else Nx H3) := by
  refine lc_list (xs := nv l) (fun i H => Same H1 H ∧ H D = some (.lst (((l.take i).filter p).map f))) ⟨same_upd hD, upd_same⟩ (fun i H _ ⟨s, _⟩ => s.seq hS) (fun i x H hx ⟨s, e⟩ => ?_) (fun H ⟨s, e⟩ => hd H s ?_)
  · obtain ⟨v, hv, rfl⟩ := nv_at hx
    refine ⟨wipe_in, ?_⟩
    have hm := List.mem_of_getElem? hv
    refine ht v H hm s _ fun H' s' => ?_
    have sH : Same H1 H' := fun b o z => s' _ _ (s _ _ z)
    have ef : (l.take (i + 1)).filter p = (l.take i).filter p ++ (if p v = true then [v] else []) := by
      rw [List.take_add_one, hv, List.filter_append]
      cases hp : p v <;> simp [hp]
    by_cases hp : p v = true
    · rw [if_pos hp]
      refine hs v H' hm hp sH _ fun H2 s2 => ⟨_, s2 _ _ (s' _ _ e), ?_, ?_, ?_⟩
      · have h1 := List.length_filter_le p (l.take i)
        rw [List.length_take] at h1
        rw [List.length_map]
        exact sizeSmall (by omega)
      · exact same_put hD fun b o z => s2 _ _ (sH _ _ z)
      · rw [upd_same, ef, if_pos hp, List.map_append]
        rfl
    · rw [if_neg hp]
      refine ⟨sH, ?_⟩
      rw [ef, if_neg hp, List.append_nil]
      exact s' _ _ e
  · rw [nv_length, List.take_length] at e
    exact e
/-- [e for i in range(lo, lo + n)] -/
theorem lcMapF {te : TE} {j : Nat} {σ : L2.St} {H1 : Hp} {D : Addr} {Qd : Hp → Prop} (lo : Nat) (f : Nat → V) (n : Nat) (hn : n ≤ 100000) (hD : H1 D = none)
    (hs : ∀ i H, i < n → Same H1 H → ∀ Q : VK, (∀ H', Same H H' → Q (f i) H') → te ((wipe σ [j]).set j (some (nI (lo + i)))) H Q)
    (hd : ∀ H3, Same H1 H3 → H3 D = some (.lst ((List.range n).map f)) → Qd H3) :
    ∃ W : Nat → Nat → Hp → Prop, (∃ m, W 0 m (upd H1 D (.lst []))) ∧ ∀ i m H, W i m H →
      ((Itr (lo : Int) n).stop i H ∧ Qd H) ∨ ((Itr (lo : Int) n).go i H ∧ ∃ Nx : Hp → Prop, (∀ H', Nx H' → ∃ m', m' < m ∧ W (i + 1) m' H') ∧ ∀ x H', (Itr (lo : Int) n).yld i H x H' → gName j x (wipe σ [j]) H' fun σ2 H2 => wipe σ2 [j] = wipe σ [j] ∧ tYes σ2 H2 fun b H3 =>
        if b = true then te σ2 H3 fun y H4 => ∃ acc, H4 D = some (.lst acc) ∧ acc.length < sizeLine ∧ Nx (upd H4 D (.lst (acc ++ [y]))) else Nx H3) := by
  refine lc_range (fun i H => Same H1 H ∧ H D = some (.lst ((List.range i).map f))) ⟨same_upd hD, upd_same⟩ (fun i H hi ⟨s, e⟩ => ?_) (fun H ⟨s, e⟩ => hd H s e)
  rw [show ((lo : Int) + (i : Int)) = ((lo + i : Nat) : Int) from (Int.natCast_add lo i).symm]
  refine ⟨wipe_in, ?_⟩
  refine tYes_of (ifT rfl ?_)
  refine hs i H hi s _ fun H' s' => ⟨_, s' _ _ e, ?_, ?_, ?_⟩
  · rw [List.length_map, List.length_range]
    exact sizeSmall (by omega)
  · exact same_put hD fun b o z => s' _ _ (s _ _ z)
  · rw [upd_same, List.range_succ, List.map_append]
    rfl
/-- an answer of the specification as the list that is given back -/
def ansI (y : Sv11.Ans) : List Int := match y.value with
  | some v => v :: zl y.l
  | none => zl y.l
theorem ix_at {n j : Nat} (h : j < n) : ixN n (j : Int) = some j := by
  unfold ixN
  rw [if_pos (Int.natCast_nonneg j), if_pos (by omega), Int.toNat_natCast]
theorem nv_set (l : List Nat) (j v : Nat) : (nv l).set j (nI v) = nv (l.set j v) := by
  unfold nv
  rw [List.map_set]
theorem take_snoc {l : List Nat} {i : Nat} (h : i < l.length) : l.take (i + 1) = l.take i ++ [l.getD i 0] := by
  rw [List.take_add_one, get_D h]
  rfl
theorem none_back {H H' : Hp} {p : Addr} (s : Same H H') (h : H' p = none) : H p = none := by
  cases e : H p with
  | none => rfl
  | some o => rw [s _ _ e] at h; cases h
theorem rep_nv (k v : Nat) : (List.replicate k [nI v]).flatten = nv (List.replicate k v) := by
  unfold nv
  rw [List.map_replicate, List.flatten_replicate_singleton]
theorem cut_pre (l : List Nat) {b : Nat} (hb : b ≤ l.length) : cutV (nv l) none (some (b : Int)) = nv (l.take b) := by
  unfold cutV
  rw [HT.sIx_none, HT.sIx_nat, nv_length, Nat.min_eq_left hb, Nat.sub_zero, List.drop_zero]
  unfold nv
  rw [List.map_take]
theorem row_no {n : Nat} : Sv11.row n = false ↔ 65536 < n := by
  unfold Sv11.row Sv11.MOST
  rw [decide_eq_false_iff_not]
  omega
end My
/-! ### the request of rows of n -/
namespace My
open PySem PySem.Spec PyProof.Rows L2
open PySem.W (WData Codec)
theorem most_nat {z t : Int} (h : Sv11Neutral.most z t = true) : ∃ n : Nat, z = (n : Int) ∧ n < 2 ^ 32 ∧ (n ≤ 500 ∨ t < (n : Int)) := by
  unfold Sv11Neutral.most at h
  rw [Bool.and_eq_true, decide_eq_true_eq] at h
  obtain ⟨n, rfl, hn⟩ := word_nat h.1
  refine ⟨n, rfl, hn, ?_⟩
  rcases h.2 with h | h
  · exact .inl (by omega)
  · exact .inr h
theorem many_nat {k : Int} {yes : Bool} {l : List Int} (h : Sv11Neutral.many k yes l = true) : ∃ x : List Nat, l = zl x ∧ (∀ k ∈ x, k < 2 ^ 32) ∧ (x.length : Int) = if yes = true then k else 0 := by
  unfold Sv11Neutral.many at h
  rw [Bool.and_eq_true, decide_eq_true_eq] at h
  obtain ⟨x, rfl, hb⟩ := words_nat h.1
  refine ⟨x, rfl, hb, ?_⟩
  have := h.2
  unfold zl at this
  rw [List.length_map] at this
  exact this
theorem dw_iv {K : PySem.W.Frag} {H : Hp} {p : Addr} {l : List Int} (h : H p = some (.lst (l.map V.int))) : Dw K H (.ref p) (.list (l.map WData.int)) := .lst (SqL.of h) (dw_ints _)
theorem whole_int {z : Int} (h : Sv11Neutral.whole32 z = true) : -(2 ^ 31) ≤ z ∧ z < 2 ^ 31 := by
  unfold Sv11Neutral.whole32 at h
  rw [Bool.and_eq_true, decide_eq_true_eq, decide_eq_true_eq] at h
  exact h
end My
/-! ### rows: laid numbers, groups, ascending lists -/
namespace My
theorem laid_snoc (w : Nat) : ∀ (l : List Nat) (x : Nat), Sv11.laid (l ++ [x]) w = Sv11.laid l w + 2 ^ (w * l.length) * x
  | [], x => by
    show x + 2 ^ w * 0 = 0 + 2 ^ (w * 0) * x
    rw [Nat.mul_zero, Nat.mul_zero, Nat.pow_zero]; omega
  | a :: l, x => by
    show a + 2 ^ w * Sv11.laid (l ++ [x]) w = (a + 2 ^ w * Sv11.laid l w) + 2 ^ (w * (l.length + 1)) * x
    rw [laid_snoc w l x, Nat.mul_add, Nat.mul_succ, Nat.add_comm (w * l.length) w, Nat.pow_add, Nat.mul_assoc, Nat.add_assoc]
theorem laid_lt (w : Nat) : ∀ (l : List Nat), (∀ x ∈ l, x < 2 ^ w) → Sv11.laid l w < 2 ^ (w * l.length)
  | [], _ => by show 0 < 2 ^ (w * 0); simp
  | a :: l, h => by
    have ih := laid_lt w l fun x hx => h x (List.mem_cons_of_mem _ hx)
    have ha := h a (List.mem_cons_self ..)
    show a + 2 ^ w * Sv11.laid l w < 2 ^ (w * (l.length + 1))
    rw [Nat.mul_succ, Nat.add_comm (w * l.length) w, Nat.pow_add]
    have : 2 ^ w * (Sv11.laid l w + 1) ≤ 2 ^ w * 2 ^ (w * l.length) := Nat.mul_le_mul_left _ ih
    rw [Nat.mul_add, Nat.mul_one] at this
    omega
theorem laid_or (w : Nat) (l : List Nat) (x : Nat) (h : ∀ y ∈ l, y < 2 ^ w) : Sv11.laid l w ||| (x <<< (w * l.length)) = Sv11.laid (l ++ [x]) w := by
  rw [laid_snoc, Nat.shiftLeft_eq, Nat.mul_comm x, Nat.or_comm, ← Nat.two_pow_add_eq_or_of_lt (laid_lt w l h), Nat.add_comm]
theorem laid_cons (w a : Nat) (l : List Nat) : Sv11.laid (a :: l) w = a + 2 ^ w * Sv11.laid l w := rfl
theorem ofLittles_laid (l : List Nat) : Sv11.ofLittles l = Sv11.laid l 8 := rfl
/-- the field at i of a laid list -/
theorem laid_get (w : Nat) : ∀ (l : List Nat) (i : Nat), (∀ x ∈ l, x < 2 ^ w) → Sv11.laid l w / 2 ^ (w * i) % 2 ^ w = l.getD i 0
  | [], i, _ => by
    show 0 / 2 ^ (w * i) % 2 ^ w = 0
    rw [Nat.zero_div, Nat.zero_mod]
  | a :: l, 0, h => by
    have ha := h a (List.mem_cons_self ..)
    show (a + 2 ^ w * Sv11.laid l w) / 2 ^ (w * 0) % 2 ^ w = a
    rw [Nat.mul_zero, Nat.pow_zero, Nat.div_one, Nat.add_mul_mod_self_left, Nat.mod_eq_of_lt ha]
  | a :: l, i + 1, h => by
    have ha := h a (List.mem_cons_self ..)
    have ih := laid_get w l i fun x hx => h x (List.mem_cons_of_mem _ hx)
    show (a + 2 ^ w * Sv11.laid l w) / 2 ^ (w * (i + 1)) % 2 ^ w = l.getD i 0
    rw [Nat.mul_succ, Nat.add_comm (w * i) w, Nat.pow_add, ← Nat.div_div_eq_div_mul, Nat.add_mul_div_left _ _ (Nat.two_pow_pos w), Nat.div_eq_of_lt ha, Nat.zero_add, ih]
/-- groups: one key more -/
def gAdd (ks vs : List Nat) (g : Nat) : Nat := (((ks.zip vs).filter fun x => x.1 == g).map fun x => x.2).sum
theorem grouped_eq (s ks vs : List Nat) : Sv11.grouped s ks vs = (List.range s.length).map fun g => (s.getD g 0 + gAdd ks vs g) % 2 ^ 32 := rfl
theorem gAdd_snoc {ks vs : List Nat} (h : ks.length = vs.length) (k v g : Nat) : gAdd (ks ++ [k]) (vs ++ [v]) g = gAdd ks vs g + (if k = g then v else 0) := by
  unfold gAdd
  rw [List.zip_append h, List.filter_append, List.map_append, List.sum_append]
  congr 1
  show (List.map (fun x => x.2) (List.filter (fun x => x.1 == g) [(k, v)])).sum = _
  rw [List.filter_cons]
  by_cases e : k = g
  · subst e
    simp
  · rw [if_neg e]
    have : ¬ ((k == g) = true) := by rw [beq_iff_eq]; exact e
    rw [if_neg this]
    rfl
theorem grouped_len (s ks vs : List Nat) : (Sv11.grouped s ks vs).length = s.length := by
  rw [grouped_eq, List.length_map, List.length_range]
theorem grouped_get {s ks vs : List Nat} {g : Nat} (h : g < s.length) : (Sv11.grouped s ks vs)[g]? = some ((s.getD g 0 + gAdd ks vs g) % 2 ^ 32) := by
  rw [grouped_eq, List.getElem?_map, List.getElem?_range h]
  rfl
theorem grouped_nil {s : List Nat} (h : ∀ k ∈ s, k < 2 ^ 32) : Sv11.grouped s [] [] = s := by
  apply List.ext_getElem?
  intro i
  by_cases hi : i < s.length
  · rw [grouped_get hi, List.getElem?_eq_getElem hi]
    have e : s.getD i 0 = s[i] := by
      rw [List.getD_eq_getElem?_getD, List.getElem?_eq_getElem hi]; rfl
    show some ((s.getD i 0 + 0) % 2 ^ 32) = _
    rw [Nat.add_zero, e, Nat.mod_eq_of_lt (h _ (List.getElem_mem hi))]
  · rw [List.getElem?_eq_none (by rw [grouped_len]; omega), List.getElem?_eq_none (by omega)]
/-- a key below: its sum is set -/
theorem grouped_set {s ks vs : List Nat} (h : ks.length = vs.length) {k : Nat} (hk : k < s.length) (v : Nat) :
    Sv11.grouped s (ks ++ [k]) (vs ++ [v]) = (Sv11.grouped s ks vs).set k (((Sv11.grouped s ks vs).getD k 0 + v) % 2 ^ 32) := by
  have hg : (Sv11.grouped s ks vs).getD k 0 = (s.getD k 0 + gAdd ks vs k) % 2 ^ 32 := by
    rw [List.getD_eq_getElem?_getD, grouped_get hk]; rfl
  apply List.ext_getElem?
  intro i
  by_cases hi : i < s.length
  · rw [grouped_get hi, gAdd_snoc h]
    by_cases e : k = i
    · subst e
      rw [List.getElem?_set_self (by rw [grouped_len]; exact hk), hg, if_pos rfl, Nat.mod_add_mod, Nat.add_assoc]
    · rw [if_neg e, List.getElem?_set_ne e, grouped_get hi, Nat.add_zero]
  · rw [List.getElem?_eq_none (by rw [grouped_len]; omega), List.getElem?_eq_none (by rw [List.length_set, grouped_len]; omega)]
/-- a key above: nothing changes -/
theorem grouped_over {s ks vs : List Nat} (h : ks.length = vs.length) {k : Nat} (hk : s.length ≤ k) (v : Nat) : Sv11.grouped s (ks ++ [k]) (vs ++ [v]) = Sv11.grouped s ks vs := by
  rw [grouped_eq, grouped_eq]
  refine List.map_congr_left fun g hg => ?_
  have := List.mem_range.mp hg
  rw [gAdd_snoc h, if_neg (by omega), Nat.add_zero]
/-- ascending: place by place -/
theorem ascends_iff (l : List Nat) : Sv11.ascends l = true ↔ ∀ i, i + 1 < l.length → l.getD i 0 < l.getD (i + 1) 0 := by
  unfold Sv11.ascends
  rw [List.all_eq_true]
  refine ⟨fun h i hi => ?_, fun h x hx => ?_⟩
  · have e : (l.zip (l.drop 1))[i]? = some (l.getD i 0, l.getD (i + 1) 0) := by
      rw [List.getElem?_zip_eq_some]
      refine ⟨?_, ?_⟩
      · show l[i]? = some (l.getD i 0)
        rw [List.getD_eq_getElem?_getD, List.getElem?_eq_getElem (by omega)]; rfl
      · show (l.drop 1)[i]? = some (l.getD (i + 1) 0)
        rw [List.getElem?_drop, Nat.add_comm 1 i, List.getD_eq_getElem?_getD, List.getElem?_eq_getElem hi]; rfl
    exact of_decide_eq_true (h _ (List.mem_of_getElem? e))
  · obtain ⟨i, hi, e⟩ := List.mem_iff_getElem.mp hx
    rw [List.length_zip, List.length_drop] at hi
    rw [List.getElem_zip, List.getElem_drop] at e
    have := h i (by omega)
    rw [List.getD_eq_getElem?_getD, List.getD_eq_getElem?_getD, List.getElem?_eq_getElem (by omega), List.getElem?_eq_getElem (show i + 1 < l.length by omega)] at this
    refine decide_eq_true ?_
    rw [← e]
    have hc : l[1 + i]'(by omega) = l[i + 1]'(by omega) := getElem_congr_idx (Nat.add_comm 1 i)
    show l[i]'(by omega) < l[1 + i]'(by omega)
    rw [hc]
    exact this
end My
/-! ### bits cut anew -/
namespace My
/-- i numbers of w bits are taken: R are whole ones of v bits, held has the h bits over -/
structure Rc (w v : Nat) (l : List Nat) (i : Nat) (R : List Nat) (held h : Nat) : Prop where
  bits : v * R.length + h = w * i
  dig : ∀ x ∈ R, x < 2 ^ v
  few : held < 2 ^ h
  sum : Sv11.laid R v + 2 ^ (v * R.length) * held = Sv11.laid (l.take i) w
structure Cut (w v : Nat) (l R : List Nat) : Prop where
  lo : w * l.length ≤ v * R.length
  hi : v * R.length < w * l.length + v
  dig : ∀ x ∈ R, x < 2 ^ v
  sum : Sv11.laid R v = Sv11.laid l w
theorem rc_start (w v : Nat) (l : List Nat) : Rc w v l 0 [] 0 0 := ⟨rfl, fun x hx => absurd hx (by simp), by decide, rfl⟩
theorem rc_take {w v : Nat} {l : List Nat} {i : Nat} {R : List Nat} {held h x : Nat} (hi : l[i]? = some x) (hx : x < 2 ^ w) (r : Rc w v l i R held h) : Rc w v l (i + 1) R (held ||| (x <<< h)) (h + w) := by
  obtain ⟨bits, dig, few, sum⟩ := r
  have hlen : i < l.length := (List.getElem?_eq_some_iff.mp hi).1
  have e : held ||| (x <<< h) = held + 2 ^ h * x := by
    rw [Nat.shiftLeft_eq, Nat.mul_comm x, Nat.or_comm, ← Nat.two_pow_add_eq_or_of_lt few, Nat.add_comm]
  rw [e]
  refine ⟨by rw [Nat.mul_succ]; omega, dig, ?_, ?_⟩
  · rw [Nat.pow_add]
    have : 2 ^ h * (x + 1) ≤ 2 ^ h * 2 ^ w := Nat.mul_le_mul_left _ hx
    rw [Nat.mul_add, Nat.mul_one] at this
    omega
  · have ht : (l.take i).length = i := by rw [List.length_take]; omega
    rw [List.take_add_one, hi]
    show _ = Sv11.laid (l.take i ++ [x]) w
    rw [laid_snoc, ht, ← sum, ← bits, Nat.pow_add, Nat.mul_add, Nat.mul_assoc, Nat.add_assoc]
theorem rc_cut {w v : Nat} {l : List Nat} {i : Nat} {R : List Nat} {held h : Nat} (hv : v ≤ h) (r : Rc w v l i R held h) : Rc w v l i (R ++ [held &&& ((1 <<< v) - 1)]) (held >>> v) (h - v) := by
  obtain ⟨bits, dig, few, sum⟩ := r
  have e : held &&& ((1 <<< v) - 1) = held % 2 ^ v := by rw [Nat.one_shiftLeft, Nat.and_two_pow_sub_one_eq_mod]
  have hlen : (R ++ [held % 2 ^ v]).length = R.length + 1 := by rw [List.length_append]; rfl
  rw [e, Nat.shiftRight_eq_div_pow]
  refine ⟨?_, fun x hx => ?_, ?_, ?_⟩
  · rw [hlen, Nat.mul_succ]
    omega
  · rcases List.mem_append.mp hx with h1 | h1
    · exact dig x h1
    · rw [List.mem_singleton.mp h1]
      exact Nat.mod_lt _ (Nat.two_pow_pos v)
  · refine Nat.div_lt_of_lt_mul ?_
    rw [← Nat.pow_add, show v + (h - v) = h by omega]
    exact few
  · rw [hlen, laid_snoc, Nat.mul_succ, Nat.pow_add, Nat.mul_assoc, Nat.add_assoc, ← Nat.mul_add, Nat.mod_add_div]
    exact sum
theorem rc_over {w v : Nat} {l R : List Nat} {held h : Nat} (h0 : 0 < h) (hv : h < v) (r : Rc w v l l.length R held h) : Cut w v l (R ++ [held]) := by
  obtain ⟨bits, dig, few, sum⟩ := r
  have hlen : (R ++ [held]).length = R.length + 1 := by rw [List.length_append]; rfl
  refine ⟨?_, ?_, fun x hx => ?_, ?_⟩
  · rw [hlen, Nat.mul_succ]; omega
  · rw [hlen, Nat.mul_succ]; omega
  · rcases List.mem_append.mp hx with h1 | h1
    · exact dig x h1
    · rw [List.mem_singleton.mp h1]
      exact Nat.lt_trans few (Nat.pow_lt_pow_right (by decide) hv)
  · rw [laid_snoc, sum, List.take_length]
theorem rc_even {w v : Nat} {l R : List Nat} {held h : Nat} (h0 : ¬ 0 < h) (hv : h < v) (r : Rc w v l l.length R held h) : Cut w v l R := by
  obtain ⟨bits, dig, few, sum⟩ := r
  have hh : h = 0 := by omega
  subst hh
  have hz : held = 0 := by rw [Nat.pow_zero] at few; omega
  subst hz
  rw [Nat.mul_zero, Nat.add_zero, List.take_length] at sum
  exact ⟨by omega, by omega, dig, sum⟩
/-- narrow: the bytes are those of the laid number -/
theorem cut_bytes {w : Nat} {l R : List Nat} (c : Cut w 8 l R) : R.length = Sv11.room l.length w ∧ R = Sv11.littles (Sv11.room l.length w) (Sv11.laid l w) := by
  have hl : R.length = Sv11.room l.length w := by
    have h1 := c.lo
    have h2 := c.hi
    unfold Sv11.room
    rw [Nat.mul_comm l.length w]
    omega
  refine ⟨hl, ?_⟩
  rw [← hl]
  apply List.ext_getElem?
  intro i
  unfold Sv11.littles
  by_cases hi : i < R.length
  · rw [List.getElem?_map, List.getElem?_range hi]
    have h := laid_get 8 R i c.dig
    rw [c.sum] at h
    have e : 256 ^ i = 2 ^ (8 * i) := by rw [Nat.pow_mul]
    show R[i]? = some (Sv11.laid l w / 256 ^ i % 2 ^ 8)
    rw [e, h, List.getD_eq_getElem?_getD, List.getElem?_eq_getElem hi]
    rfl
  · rw [List.getElem?_eq_none (by omega), List.getElem?_eq_none (by simp; omega)]
/-- widen: the first n fields -/
def wideM (n v : Nat) (l : List Nat) : List Nat := (List.range n).map fun i => Sv11.ofLittles l / 2 ^ (i * v) % 2 ^ v
theorem cut_words {n v : Nat} {l R : List Nat} (hv : 1 ≤ v) (hl : l.length = Sv11.room n v) (c : Cut 8 v l R) : n ≤ R.length ∧ R.take n = wideM n v l := by
  have hn : n ≤ R.length := by
    have h1 := c.lo
    rw [hl] at h1
    unfold Sv11.room at h1
    have h2 : n * v ≤ v * R.length := by omega
    rw [Nat.mul_comm n v] at h2
    exact Nat.le_of_mul_le_mul_left h2 hv
  refine ⟨hn, ?_⟩
  apply List.ext_getElem?
  intro i
  unfold wideM
  by_cases hi : i < n
  · rw [List.getElem?_map, List.getElem?_range hi, List.getElem?_take, if_pos hi]
    have h := laid_get v R i c.dig
    rw [c.sum] at h
    show R[i]? = some (Sv11.laid l 8 / 2 ^ (i * v) % 2 ^ v)
    rw [Nat.mul_comm i v, h, List.getD_eq_getElem?_getD, List.getElem?_eq_getElem (show i < R.length by omega)]
    rfl
  · rw [List.getElem?_eq_none (by simp; omega), List.getElem?_eq_none (by simp; omega)]
theorem shr_any (w : Nat) (l : List Nat) : ((l.map fun v => !decide (v >>> w = 0)).any id) = l.any fun v => decide (2 ^ w ≤ v) := by
  rw [List.any_map]
  congr 1
  funext v
  show (!decide (v >>> w = 0)) = decide (2 ^ w ≤ v)
  rw [Nat.shiftRight_eq_div_pow]
  by_cases h : v < 2 ^ w
  · rw [decide_eq_true (Nat.div_eq_of_lt h), decide_eq_false (by omega)]
    rfl
  · have : ¬ v / 2 ^ w = 0 := by
      have := Nat.div_pos (show 2 ^ w ≤ v by omega) (Nat.two_pow_pos w)
      omega
    rw [decide_eq_false this, decide_eq_true (by omega)]
    rfl
end My
namespace My
open PySem PySem.Spec PyProof.Rows L2
def topS (i : Nat) : Stmt := PySem.Challenge.pw_sixteenwordsdesk_s21_narrow.main.body.getD i (.Pass ⟨0, 0, 0, 0⟩)
abbrev s_can_pack : Stmt := topS 4
abbrev s_recut : Stmt := topS 5
abbrev s_narrow : Stmt := topS 6
structure Txt (K : PySem.W.Frag) (mg : Str → Option Value) : Prop where
  c_BYTE_BITS : ∃ t, mg "BYTE_BITS" = some (.int 8 t)
  c_WORD_BITS : ∃ t, mg "WORD_BITS" = some (.int 32 t)
  c_MOST_WORDS : ∃ t, mg "MOST_WORDS" = some (.int 65536 t)
  n_any : mg "any" = none
  n_len : mg "len" = none
section
variable {P : Program} {w : World} {K : PySem.W.Frag} {mg : Str → Option Value} {base : Heap}
/-! ### can_pack -/
theorem sc_can_pack : FnScope ["n", "width"] ["n", "width"] (defScope s_can_pack) := ⟨rfl, rfl, rfl, by decide +kernel, rfl, by decide +kernel, by decide +kernel⟩
def packB (n : Nat) (width : Int) : Bool := decide (n ≤ 65536) && (decide (1 ≤ width) && decide (width ≤ 32))
def sp_can_pack : Sp := fun vs H Q _ => ∃ (n : Nat) (width : Int), vs = [nI n, .int width] ∧ Q (.bl (packB n width)) H
theorem ok_can_pack {f : Addr} {fd : FuncData} (T : Txt K mg) (F : Fun K "can_pack" "can_pack" s_can_pack f fd) : FnOk P w K mg base CX0 1 f fd ["n", "width"] sp_can_pack := by
  obtain ⟨tM, hM⟩ := T.c_MOST_WORDS
  obtain ⟨tW, hW⟩ := T.c_WORD_BITS
  refine F.ok sc_can_pack (fun vs H Q E h => ?_) (fun cdv A outer s H vs Q E hr h => ?_)
  · obtain ⟨n, width, rfl, _⟩ := h
    rfl
  · obtain ⟨n, width, rfl, q⟩ := h
    refine ⟨_, pss_one (ps_ret (pe_and (pe_cmpR on_le (pv 0) (pe_glob (v := nI 65536) (by rfl) hM ⟨_, rfl⟩) (nomark _)) (pe_and (pe_cmpR op_ge (pv 1) pe_int (nomark _)) (pe_one (pe_cmpR op_le (pv 1) (pe_glob (v := nI 32) (by rfl) hW ⟨_, rfl⟩) (nomark _)))))), ?_⟩
    unfold packB at q
    refine ⟨_, rfl, n, 65536, rfl, rfl, _, rfl, ?_⟩
    by_cases h1 : n ≤ 65536
    · refine ifT (decide_eq_true h1) ?_
      rw [decide_eq_true h1, Bool.true_and] at q
      refine ⟨_, rfl, width, 1, rfl, rfl, _, rfl, ?_⟩
      by_cases h2 : 1 ≤ width
      · refine ifT (decide_eq_true h2) ?_
        rw [decide_eq_true h2, Bool.true_and] at q
        exact ⟨_, rfl, width, 32, rfl, rfl, q⟩
      · refine ifF (by rw [decide_eq_false h2]; decide) ?_
        rw [decide_eq_false h2, Bool.false_and] at q
        exact q
    · refine ifF (by rw [decide_eq_false h1]; decide) ?_
      rw [decide_eq_false h1, Bool.false_and] at q
      exact q
/-! ### recut -/
theorem sc_recut : FnScope ["numbers", "width", "new_width", "answer", "held", "held_bits", "number"] ["numbers", "width", "new_width"] (defScope s_recut) := ⟨rfl, rfl, rfl, by decide +kernel, rfl, by decide +kernel, by decide +kernel⟩
def sp_recut (K : PySem.W.Frag) : Sp := fun vs H Q _ => ∃ (a : Addr) (w v : Nat) (l : List Nat), vs = [.ref a, nI w, nI v] ∧ SqL K H a (nv l) ∧ (w ≤ 32 ∧ 1 ≤ v ∧ v ≤ 32 ∧ l.length ≤ 2000) ∧ (∀ x ∈ l, x < 2 ^ w) ∧
  ∀ H' p R, Same H H' → H p = none → H' p = some (.lst (nv R)) → Cut w v l R → Q (.ref p) H'
def heldBits (σ : List (Option V)) : Nat := match σ with
  | [_, _, _, _, _, some (V.int z), _] => z.toNat
  | _ => 0
theorem rc_size {w v : Nat} {l : List Nat} {i : Nat} {R : List Nat} {held h : Nat} (hw : w ≤ 32) (hv : 1 ≤ v) (hi : i ≤ 2000) (r : Rc w v l i R held h) : R.length ≤ 64000 := by
  have h1 := r.bits
  have h2 : R.length ≤ v * R.length := Nat.le_mul_of_pos_left _ hv
  have h3 : w * i ≤ 32 * 2000 := Nat.mul_le_mul hw hi
  omega
theorem ok_recut {f : Addr} {fd : FuncData} (T : Txt K mg) (F : Fun K "recut" "recut" s_recut f fd) : FnOk P w K mg base CX0 1 f fd ["numbers", "width", "new_width"] (sp_recut K) := by
  refine F.ok sc_recut (fun vs H Q E h => ?_) (fun cdv A outer s H vs Q E hr h => ?_)
  · obtain ⟨a, w, v, l, rfl, _⟩ := h
    rfl
  · obtain ⟨a, w, v, l, rfl, hS, ⟨hw, hv, hv2, hl⟩, hx, q⟩ := h
    refine ⟨_, pss_cons (ps_set (i := 3) sc_recut.nd rfl (.inl rfl) (pe_lst pa_nil))
      (pss_cons (ps_set (i := 4) sc_recut.nd rfl (.inl rfl) pe_int)
      (pss_cons (ps_set (i := 5) sc_recut.nd rfl (.inl rfl) pe_int)
      (pss_cons (ps_for PassesOwn.never rfl (pi_list (pv 0)) (pg_name (i := 6) sc_recut.nd rfl (Or.inl rfl))
        (pss_cons (ps_set (i := 4) sc_recut.nd rfl (.inl rfl) (pe_op on_or (pv 4) (pe_op on_shl (pv 6) (pv 5))))
        (pss_cons (ps_set (i := 5) sc_recut.nd rfl (.inl rfl) (pe_op on_add (pv 5) (pv 1)))
        (pss_one (ps_while PassesOwn.never (pt_cmpR on_ge (pv 5) (pv 2) (nomark _))
          (pss_cons (ps_expr (pe_bm PySem.F.plainAttrs_list PySem.F.slot_list_append PySem.F.type_list_append mt_append (pv 3) (pa_cons (pe_op on_and (pv 4) (pe_op on_sub (pe_op on_shl pe_int (pv 2)) pe_int)) pa_nil)))
          (pss_cons (ps_set (i := 4) sc_recut.nd rfl (.inl rfl) (pe_op on_shr (pv 4) (pv 2)))
          (pss_one (ps_set (i := 5) sc_recut.nd rfl (.inl rfl) (pe_op on_sub (pv 5) (pv 2)))))))))))
      (pss_cons (ps_if (pt_cmpR on_gt (pv 5) pe_int (nomark _)) (pss_one (ps_expr (pe_bm PySem.F.plainAttrs_list PySem.F.slot_list_append PySem.F.type_list_append mt_append (pv 3) (pa_cons (pv 4) pa_nil)))) pss_nil)
      (pss_one (ps_ret (pv 3))))))), ?_⟩
    refine ⟨Nat.zero_le _, fun D hD => ?_⟩
    refine ⟨.ref a, rfl, a, rfl, ⟨_, (same_upd hD).seq hS⟩, ?_⟩
    refine for_list (xs := nv l) (fun i σ H' => ∃ held h R y6, σ = [some (.ref a), some (nI w), some (nI v), some (.ref D), some (nI held), some (nI h), y6] ∧ Same H H' ∧ H' D = some (.lst (nv R)) ∧ Rc w v l i R held h ∧ h < v)
      ⟨0, 0, [], none, rfl, same_upd hD, upd_same, rc_start w v l, hv⟩ (fun i σ H' _ hP => ?_) (fun i u σ H' hu hP => ?_) (fun σ H' hP => ?_)
    · obtain ⟨held, h, R, y6, _, sm, _⟩ := hP
      exact sm.seq hS
    · obtain ⟨held, h, R, y6, rfl, sm, eD, rc, hh⟩ := hP
      obtain ⟨z, hz, rfl⟩ := nv_at hu
      have hi : i < l.length := (List.getElem?_eq_some_iff.mp hz).1
      have hzw := hx z (List.mem_of_getElem? hz)
      refine ⟨_, rfl, _, rfl, _, rfl, z, h, w, rfl, rfl, ⟨hzw, by omega⟩, held, z <<< h, rfl, rfl, ?_⟩
      refine ⟨_, rfl, _, rfl, h, w, rfl, rfl, ?_⟩
      refine while_by (fun σ H' => ∃ held h R, σ = [some (.ref a), some (nI w), some (nI v), some (.ref D), some (nI held), some (nI h), some (nI z)] ∧ Same H H' ∧ H' D = some (.lst (nv R)) ∧ Rc w v l (i + 1) R held h)
        (fun σ _ => heldBits σ) ⟨_, _, R, rfl, sm, eD, rc_take hz hzw rc⟩ (fun σ H' hP => ?_) (fun σ H' Q1 Q2 m hq => ?_)
      · obtain ⟨held, h, R, rfl, sm, eD, rc⟩ := hP
        refine ⟨_, rfl, _, rfl, h, v, rfl, rfl, _, rfl, ?_⟩
        by_cases hc : v ≤ h
        · refine ifT (decide_eq_true hc) ?_
          have hsz : (nv R).length < sizeLine := by
            rw [nv_length]
            have := rc_size hw hv (by omega) rc
            exact sizeSmall (by omega)
          have h1 : 1 ≤ 1 <<< v := by rw [Nat.one_shiftLeft]; exact Nat.two_pow_pos v
          refine ⟨.ref D, rfl, .inl ⟨rfl, _, SqL.of eD⟩, _, rfl, _, rfl, 1, v, 1, rfl, rfl, ⟨by decide, by omega⟩, 1 <<< v, 1, rfl, rfl, h1, held, (1 <<< v) - 1, rfl, rfl, D, _, _, rfl, rfl, eD, hsz, ?_⟩
          refine ⟨_, rfl, _, rfl, held, v, rfl, rfl, ?_⟩
          refine ⟨_, rfl, _, rfl, h, v, rfl, rfl, hc, ?_⟩
          refine ⟨⟨_, _, R ++ [held &&& ((1 <<< v) - 1)], rfl, same_put hD sm, ?_, rc_cut hc rc⟩, ?_⟩
          · rw [upd_same, nv_append]
            rfl
          · show h - v < h
            omega
        · refine ifF (by rw [decide_eq_false hc]; decide) ?_
          exact ⟨held, h, R, some (nI z), rfl, sm, eD, rc, by omega⟩
      · obtain ⟨v1, e1, v2, e2, n1, m1, e3, e4, k, e5, hq⟩ := hq
        exact ⟨v1, e1, v2, e2, n1, m1, e3, e4, k, e5, m _ _ hq⟩
    · obtain ⟨held, h, R, y6, rfl, sm, eD, rc, hh⟩ := hP
      rw [nv_length] at rc
      refine ⟨_, rfl, h, 0, rfl, rfl, _, rfl, ?_⟩
      by_cases h0 : 0 < h
      · refine ifT (decide_eq_true h0) ?_
        have hsz : (nv R).length < sizeLine := by
          rw [nv_length]
          have := rc_size hw hv (by omega) rc
          exact sizeSmall (by omega)
        refine ⟨.ref D, rfl, .inl ⟨rfl, _, SqL.of eD⟩, _, rfl, D, _, _, rfl, rfl, eD, hsz, ?_⟩
        refine ⟨.ref D, rfl, q _ D (R ++ [held]) (same_put hD sm) hD ?_ (rc_over h0 hh rc)⟩
        rw [upd_same, nv_append]
        rfl
      · refine ifF (by rw [decide_eq_false h0]; decide) ?_
        exact ⟨.ref D, rfl, q _ D R sm hD eD (rc_even h0 hh rc)⟩
/-! ### narrow -/
theorem sc_narrow : FnScope ["n", "width", "words", "octets", "word"] ["n", "width", "words"] (defScope s_narrow) := ⟨rfl, rfl, rfl, by decide +kernel, rfl, by decide +kernel, by decide +kernel⟩
def narrowM (n : Nat) (width : Int) (x : List Nat) : List Int := if packB n width = false then [-1] else if x.any (fun v => decide (2 ^ width.toNat ≤ v)) = true then [-2] else zl (Sv11.room n width.toNat :: Sv11.littles (Sv11.room n width.toNat) (Sv11.laid x width.toNat))
def sp_narrow (K : PySem.W.Frag) : Sp := fun vs H Q _ => ∃ (n : Nat) (width : Int) (a : Addr) (x : List Nat), vs = [nI n, .int width, .ref a] ∧ SqL K H a (nv x) ∧ (packB n width = true → x.length = n ∧ n ≤ 500) ∧ ∀ H' p, H' p = some (.lst ((narrowM n width x).map V.int)) → Q (.ref p) H'
theorem pack_nat {n : Nat} {width : Int} (h : packB n width = true) : ∃ w : Nat, width = (w : Int) ∧ 1 ≤ w ∧ w ≤ 32 := by
  unfold packB at h
  rw [Bool.and_eq_true, Bool.and_eq_true, decide_eq_true_eq, decide_eq_true_eq, decide_eq_true_eq] at h
  exact ⟨width.toNat, by omega, by omega, by omega⟩
theorem ok_narrow {f fC fR : Addr} {fd fdC fdR : FuncData} (T : Txt K mg) (F : Fun K "narrow" "narrow" s_narrow f fd) (DC : DefAt K mg "can_pack" s_can_pack ["n", "width"] fC fdC) (DR : DefAt K mg "recut" s_recut ["numbers", "width", "new_width"] fR fdR) :
    FnOk P w K mg base CX0 2 f fd ["n", "width", "words"] (sp_narrow K) := by
  have GC : FnOk P w K mg base CX0 1 fC fdC ["n", "width"] sp_can_pack := ok_can_pack T DC.F
  have GR : FnOk P w K mg base CX0 1 fR fdR ["numbers", "width", "new_width"] (sp_recut K) := ok_recut T DR.F
  obtain ⟨tB, hB⟩ := T.c_BYTE_BITS
  refine F.ok sc_narrow (fun vs H Q E h => ?_) (fun cdv A outer s H vs Q E hr h => ?_)
  · obtain ⟨n, width, a, x, rfl, _⟩ := h
    rfl
  · obtain ⟨n, width, a, x, rfl, hA, hl, q⟩ := h
    refine ⟨_, pss_cons (ps_if (pt_not (pt_val (pe_call (E := EN) GC hr (by rfl) DC.g DC.F.kp DC.b .nil pass0 (pa_cons (pv 0) (pa_cons (pv 1) pa_nil))))) (pss_one (ps_ret (pe_lst (pa_cons (pe_un un_neg pe_int) pa_nil)))) pss_nil)
      (pss_cons (ps_if (pt_val (pe_callB (cr_any rfl) (by rfl) T.n_any (by decide +kernel) (pa_cons (pe_lc (own := [("word", 4)]) (g := gName 4) (tt := tYes) (by rfl) sc_narrow.nd
          (pi_list (pv 2))
          (blkOk_by (own := [("word", 4)]) (N := ["n", "width", "words", "octets", "word"]) (sc := defScope s_narrow) (by decide +kernel))
          (fun _ _ _ _ _ => pg_name (i := 4) sc_narrow.nd rfl (Or.inl rfl)) (fun _ _ _ _ _ => pts_nil)
          (fun _ _ _ _ _ => pe_cmpR on_ne (pe_op on_shr (pv 4) (pv 1)) pe_int (nomark _))) pa_nil))) (pss_one (ps_ret (pe_lst (pa_cons (pe_un un_neg pe_int) pa_nil)))) pss_nil)
      (pss_cons (ps_set (i := 3) sc_narrow.nd rfl (.inl rfl) (pe_call (E := EN) GR hr (by rfl) DR.g DR.F.kp DR.b .nil pass0 (pa_cons (pv 2) (pa_cons (pv 1) (pa_cons (pe_glob (v := nI 8) (by rfl) hB ⟨_, rfl⟩) pa_nil)))))
      (pss_one (ps_ret (pe_op op_cat (pe_lst (pa_cons (pe_callB call_len_seq (by rfl) T.n_len PySem.boot_len (pa_cons (pv 3) pa_nil)) pa_nil)) (pv 3)))))), ?_⟩
    unfold narrowM at q
    refine ⟨_, rfl, _, rfl, n, width, rfl, _, rfl, ?_⟩
    by_cases h1 : packB n width = false
    · refine ifT (by rw [h1]; rfl) ?_
      rw [if_pos h1] at q
      exact ⟨1, rfl, by show 1 ≤ sizeLine; decide, fun p np => q _ p upd_same⟩
    refine ifF (by intro z; rw [Bool.not_eq_true'] at z; exact h1 z) ?_
    rw [if_neg h1] at q
    rw [Bool.not_eq_false] at h1
    obtain ⟨lx, hn⟩ := hl h1
    obtain ⟨w, rfl, hw1, hw2⟩ := pack_nat h1
    rw [Int.toNat_natCast] at q
    refine ⟨.ref a, rfl, a, rfl, ⟨_, hA⟩, fun D hD => ?_⟩
    refine lcMapL x (fun v => V.bl (!decide (v >>> w = 0))) (by omega) hA hD ?_ ?_
    · intro v H' hv sm Q' hq
      exact ⟨_, rfl, _, rfl, v, w, rfl, rfl, v >>> w, 0, rfl, rfl, hq _ (same_refl _)⟩
    · intro H3 s3 e3
      refine ⟨D, x.map fun v => !decide (v >>> w = 0), rfl, SqL.of (by rw [e3, List.map_map]; rfl), ?_⟩
      rw [shr_any]
      refine ⟨_, rfl, ?_⟩
      by_cases h2 : x.any (fun v => decide (2 ^ w ≤ v)) = true
      · refine ifT h2 ?_
        rw [if_pos h2] at q
        exact ⟨2, rfl, by show 1 ≤ sizeLine; decide, fun p np => q _ p upd_same⟩
      refine ifF h2 ?_
      rw [if_neg h2, zl_int] at q
      have hb : ∀ k ∈ x, k < 2 ^ w := fun k hk => by
        rw [List.any_eq_true] at h2
        by_cases c : k < 2 ^ w
        · exact c
        · exact absurd ⟨k, hk, decide_eq_true (show 2 ^ w ≤ k by omega)⟩ h2
      refine ⟨.ref a, rfl, _, rfl, a, w, 8, x, rfl, s3.seq hA, ⟨hw2, by decide, by decide, by omega⟩, hb, fun H4 p4 R s4 n4 e4 c => ?_⟩
      obtain ⟨c1, c2⟩ := cut_bytes c
      rw [lx] at c1 c2
      rw [← c2, ← c1] at q
      refine ⟨.ref p4, rfl, p4, nv R, rfl, .inl (SqL.of e4), ?_⟩
      refine ⟨by show 1 ≤ sizeLine; decide, fun p np => ?_⟩
      have npD : p ≠ p4 := fun z => by subst z; rw [e4] at np; cases np
      refine ⟨.ref p4, rfl, p, p4, _, _, rfl, rfl, upd_same, by rw [upd_ne (Ne.symm npD)]; exact e4, ?_, fun p2 np2 => ?_⟩
      · have h3 : w * x.length ≤ 32 * 500 := Nat.mul_le_mul hw2 (by omega)
        have h4 := c.hi
        rw [nv_length]
        show 1 + R.length ≤ sizeLine
        exact Nat.le_of_lt (sizeSmall (by omega))
      · refine q _ p2 ?_
        rw [upd_same, nv_length]
        rfl
end
theorem all_mk {P : Program} {w : World} {K : PySem.W.Frag} {h : Heap} {mg : Str → Option Value} {fa f1 f2 f3 : Addr} (X : K.In h) (G : h.Ns mainGlobals mg) (hfa : mg "narrow" = some (.ref fa))
    {od1 an1 od2 an2 od3 an3 : Option Addr} {sl1 sl2 sl3 : Array (Option Value)} {oc1 kV1 dc1 pm1 cd1 ct1 oc2 kV2 dc2 pm2 cd2 ct2 oc3 kV3 dc3 pm3 cd3 ct3 : Value}
    {t_BYTE_BITS t_WORD_BITS t_MOST_WORDS : Tok}
    (a1 : PySem.W.nsIn K mainGlobals "can_pack" = some (some (.ref f1))) (l1 : K.lookup f1 = some ⟨oc1, od1, .func (PySem.W.fnOf "can_pack" "can_pack" (defArgs s_can_pack) (defBody s_can_pack) (defScope s_can_pack) .none kV1 dc1 pm1 an1 cd1 ct1), sl1⟩) (c1 : PySem.W.codeIn K cd1 "can_pack" = true) (k1 : PySem.W.keepIn K (.ref f1) = true)
    (a2 : PySem.W.nsIn K mainGlobals "recut" = some (some (.ref f2))) (l2 : K.lookup f2 = some ⟨oc2, od2, .func (PySem.W.fnOf "recut" "recut" (defArgs s_recut) (defBody s_recut) (defScope s_recut) .none kV2 dc2 pm2 an2 cd2 ct2), sl2⟩) (c2 : PySem.W.codeIn K cd2 "recut" = true) (k2 : PySem.W.keepIn K (.ref f2) = true)
    (a3 : PySem.W.nsIn K mainGlobals "narrow" = some (some (.ref f3))) (l3 : K.lookup f3 = some ⟨oc3, od3, .func (PySem.W.fnOf "narrow" "narrow" (defArgs s_narrow) (defBody s_narrow) (defScope s_narrow) .none kV3 dc3 pm3 an3 cd3 ct3), sl3⟩) (c3 : PySem.W.codeIn K cd3 "narrow" = true) (k3 : PySem.W.keepIn K (.ref f3) = true)
    (v_BYTE_BITS : PySem.W.nsIn K mainGlobals "BYTE_BITS" = some (some (.int 8 t_BYTE_BITS)))
    (v_WORD_BITS : PySem.W.nsIn K mainGlobals "WORD_BITS" = some (some (.int 32 t_WORD_BITS)))
    (v_MOST_WORDS : PySem.W.nsIn K mainGlobals "MOST_WORDS" = some (some (.int 65536 t_MOST_WORDS)))
    (z_any : PySem.W.nsIn K mainGlobals "any" = some none)
    (z_len : PySem.W.nsIn K mainGlobals "len" = some none)
    : ∃ fd : FuncData, (∀ (s : Shared) (us : List Value), us.length = (["n", "width", "words"] : List Str).length → BindsTo s fd ⟨us, []⟩ ((["n", "width", "words"] : List Str).zip us)) ∧ ∀ base : Heap, K.In base → base.Ns mainGlobals mg → FnOk P w K mg base CX0 2 fa fd ["n", "width", "words"] (sp_narrow K) := by
  have e := hfa.symm.trans (PySem.W.mg_of X G a3)
  cases e
  have T : Txt K mg := ⟨⟨_, PySem.W.mg_of X G v_BYTE_BITS⟩, ⟨_, PySem.W.mg_of X G v_WORD_BITS⟩, ⟨_, PySem.W.mg_of X G v_MOST_WORDS⟩, PySem.W.mg_none_of X G z_any, PySem.W.mg_none_of X G z_len⟩
  have F1 := fun_mk (st := s_can_pack) l1 c1 k1
  have b1 := F1.binds (ps := ["n", "width"]) fun _ _ _ _ _ _ us hl => match us, hl with | [_, _], _ => rfl
  have D1 : DefAt K mg "can_pack" s_can_pack ["n", "width"] f1 _ := ⟨F1, b1, PySem.W.mg_of X G a1⟩
  have F2 := fun_mk (st := s_recut) l2 c2 k2
  have b2 := F2.binds (ps := ["numbers", "width", "new_width"]) fun _ _ _ _ _ _ us hl => match us, hl with | [_, _, _], _ => rfl
  have D2 : DefAt K mg "recut" s_recut ["numbers", "width", "new_width"] f2 _ := ⟨F2, b2, PySem.W.mg_of X G a2⟩
  have F3 := fun_mk (st := s_narrow) l3 c3 k3
  have b3 := F3.binds (ps := ["n", "width", "words"]) fun _ _ _ _ _ _ us hl => match us, hl with | [_, _, _], _ => rfl
  exact ⟨PySem.W.fnOf "narrow" "narrow" (defArgs s_narrow) (defBody s_narrow) (defScope s_narrow) .none kV3 dc3 pm3 an3 cd3 ct3, fun s us hu => match us, hu with | [_, _, _], _ => .of_eq rfl, fun base _ _ => ok_narrow T F3 D1 D2⟩
theorem pack_no {n : Nat} {width : Int} : packB n width = false ↔ Sv11.row n = false ∨ Sv11.bitsOk width = false := by
  unfold packB Sv11.row Sv11.bitsOk Sv11.MOST
  rw [Bool.and_eq_false_iff]
theorem spec_narrow (n : Nat) (width : Int) (x : List Nat) : PySv11.narrow (n : Int) width (zl x) = narrowM n width x := by
  show ansI (Sv11.spec (.narrow (Sv11Neutral.n (zl x)) (Int.toNat (n : Int)) width)) = _
  rw [zl_back, Int.toNat_natCast]
  show ansI (if Sv11.row n = false ∨ Sv11.bitsOk width = false then Sv11.no else if x.any (fun v => decide (2 ^ width.toNat ≤ v)) = true then Sv11.code (-2) [] else Sv11.code (Sv11.room n width.toNat) (Sv11.littles (Sv11.room n width.toNat) (Sv11.laid x width.toNat))) = _
  unfold narrowM
  by_cases h : packB n width = false
  · rw [if_pos h, if_pos (pack_no.mp h)]
    rfl
  · rw [if_neg h, if_neg (fun z => h (pack_no.mpr z))]
    split <;> rfl
theorem req_narrow {K : PySem.W.Frag} {H : Hp} {xs : List V} {a : PySem.W.Codec.denoteAll PySem.Challenge.rw_sixteenwordsdesk_s21_narrow.args}
    (hask : PySem.W.Codec.app PySem.Challenge.rw_sixteenwordsdesk_s21_narrow.args PySem.Challenge.rw_sixteenwordsdesk_s21_narrow.asked a = true) (hx : DwAll K H xs (PySem.W.Codec.encAll PySem.Challenge.rw_sixteenwordsdesk_s21_narrow.args a)) :
    sp_narrow K xs H (fun v H' => Dw K H' v (PySem.Challenge.rw_sixteenwordsdesk_s21_narrow.ret.enc (PySem.W.Codec.app PySem.Challenge.rw_sixteenwordsdesk_s21_narrow.args PySem.Challenge.rw_sixteenwordsdesk_s21_narrow.f a))) fun _ _ _ => False := by
  obtain ⟨n, width, x, u⟩ := a
  have hask : (Sv11Neutral.most n 65536 && (Sv11Neutral.whole32 width && Sv11Neutral.many n (decide (n ≤ 65536 ∧ 1 ≤ width ∧ width ≤ 32)) x)) = true := hask
  rw [Bool.and_eq_true, Bool.and_eq_true] at hask
  obtain ⟨h1, h2, h3⟩ := hask
  obtain ⟨n, rfl, _, hn⟩ := most_nat h1
  obtain ⟨x, rfl, _, m1⟩ := many_nat h3
  have wd : ∃ z : Int, z = width := ⟨width, rfl⟩
  obtain ⟨width, rfl⟩ := wd
  have m1 : (x.length : Int) = if decide ((n : Int) ≤ 65536 ∧ (1 : Int) ≤ width ∧ width ≤ (32 : Int)) = true then (n : Int) else (0 : Int) := m1
  have hl : packB n width = true → x.length = n ∧ n ≤ 500 := fun c => by
    unfold packB at c
    rw [Bool.and_eq_true, Bool.and_eq_true, decide_eq_true_eq, decide_eq_true_eq, decide_eq_true_eq] at c
    rw [if_pos (decide_eq_true ⟨by omega, c.2⟩)] at m1
    omega
  have hx : DwAll K H xs [.int (n : Int), .int width, .list ((zl x).map PySem.W.WData.int)] := hx
  obtain ⟨v1, r1, rfl, g1, hx⟩ := dw_cons hx
  obtain ⟨v2, r2, rfl, g2, hx⟩ := dw_cons hx
  obtain ⟨v3, r3, rfl, g3, hx⟩ := dw_cons hx
  cases hx
  cases g1
  cases g2
  obtain ⟨a3, rfl, s3⟩ := dw_row g3
  refine ⟨n, width, _, x, rfl, s3, hl, fun H' p hp => ?_⟩
  show Dw K H' (.ref p) (.list ((PySv11.narrow (n : Int) width (zl x)).map PySem.W.WData.int))
  rw [spec_narrow]
  exact dw_iv hp
end My
open PySem PySem.W PyProof.Rows
set_option maxRecDepth 100000 in
set_option maxHeartbeats 8000000 in
theorem PySem.Challenge.cw_sixteenwordsdesk_s21_narrow_holds : PySem.Challenge.rw_sixteenwordsdesk_s21_narrow.Holds := by
  w_on; k_headS; (case hw => exact ⟨[.int 0, .int 0, .list []], by decide +kernel, by decide +kernel⟩)
  k_fillS
  refine L2.walk_specK (r := PySem.Challenge.rw_sixteenwordsdesk_s21_narrow) (k := 2) (CX := L2.CX0) (ps := ["n", "width", "words"]) (sp := My.sp_narrow) (by decide +kernel) rfl rfl ⟨rfl, by decide, by decide⟩ (fun w h Y => PySem.W.kIn_of Y) ?F ?S (fun _ _ _ _ z => z)
  case F =>
    intro w mg fa h Y KX G hmg
    refine' My.all_mk KX G hmg ?a1 ?l1 ?c1 ?k1 ?a2 ?l2 ?c2 ?k2 ?a3 ?l3 ?c3 ?k3 ?v_BYTE_BITS ?v_WORD_BITS ?v_MOST_WORDS ?z_any ?z_len
    (case a1 => k_is); (case l1 => k_is); (case c1 => k_is); (case k1 => k_is); (case a2 => k_is); (case l2 => k_is); (case c2 => k_is); (case k2 => k_is); (case a3 => k_is); (case l3 => k_is); (case c3 => k_is); (case k3 => k_is); (case v_BYTE_BITS => k_is); (case v_WORD_BITS => k_is); (case v_MOST_WORDS => k_is); (case z_any => k_is); (case z_len => k_is)
  case S =>
    intro K H xs a hO hwi hask hx
    exact My.req_narrow hask hx
#print axioms PySem.Challenge.cw_sixteenwordsdesk_s21_narrow_holds
