import PyProof.Rows.All
import Wide.All
import OpenK.AllK
import Wide.FinOn
import Open.SpecLaws
import KE.OsGo
import HandS.Base
import HandS.Call
import HandS.List
import HandS.Ends
import HandS.Spec
import HandS.Words
import HandS.WordsList
import HandS.Comp
import HandS.WideBits
import HandS.Dict
import PySem.Challenge.RW_sixteenwordsdesk_s20_meet
set_option Elab.async false
set_option linter.all false
set_option maxRecDepth 100000
set_option maxHeartbeats 1000000
/-! ### words of my own: naturals as Python ints, rows as lists of naturals -/
namespace My
open PySem PySem.Spec PyProof.Rows L2
abbrev nI (n : Nat) : V := V.int (n : Int)
def nv (l : List Nat) : List V := l.map nI
theorem nv_length (l : List Nat) : (nv l).length = l.length := List.length_map ..
theorem nv_append (a b : List Nat) : nv (a ++ b) = nv a ++ nv b := List.map_append ..
theorem nv_get {l : List Nat} {i n : Nat} (h : l[i]? = some n) : (nv l)[i]? = some (nI n) := by
  unfold nv; rw [List.getElem?_map, h]; rfl
theorem at_nv {l : List Nat} {i n : Nat} (h : l[i]? = some n) : atI (nv l) ((i : Nat) : Int) = some (nI n) := atI_nat (nv_get h)
theorem get_D {l : List Nat} {i : Nat} (h : i < l.length) : l[i]? = some (l.getD i 0) := by
  rw [List.getD_eq_getElem?_getD, List.getElem?_eq_getElem h]; rfl
theorem same_upd {H : Hp} {p : Addr} {o : HO} (h : H p = none) : Same H (upd H p o) := fun b x e => by
  rw [upd_ne (ne_of_none e h)]
  exact e
theorem same_refl (H : Hp) : Same H H := fun _ _ e => e
/-- what was there before p was made stands behind a store at p -/
theorem same_put {H H' : Hp} {p : Addr} {o : HO} (h : H p = none) (s : Same H H') : Same H (upd H' p o) := fun b x e => by
  rw [upd_ne (ne_of_none e h)]
  exact s b x e
theorem ne_made {H H' : Hp} {p q : Addr} {o : HO} (h : H p = some o) (s : Same H H') (hq : H' q = none) : q ≠ p := fun e => by
  subst e
  rw [s _ _ h] at hq
  cases hq
theorem sizeSmall {n : Nat} (h : n ≤ 100000) : n < sizeLine := Nat.lt_of_le_of_lt h (by decide)
section
variable {X : Cx}
theorem pow_castI (k : Nat) : ((2 ^ k : Nat) : Int) = (2 : Int) ^ k := PySem.W.kbt_cast k
theorem on_shr : OpR X (binaryOp .RShift) (fun x y H Q => ∃ n k : Nat, x = nI n ∧ y = nI k ∧ Q (nI (n >>> k)) H) := by
  intro pins s σ H x y v u Q I rx ry h
  obtain ⟨n, k, rfl, rfl, q⟩ := h
  refine op_shrN pins s σ H _ _ v u Q I rx ry ⟨_, k, rfl, rfl, ?_⟩
  rw [Nat.shiftRight_eq_div_pow] at q
  have e : ((n / 2 ^ k : Nat) : Int) = (n : Int) / 2 ^ k := by rw [Int.natCast_ediv, pow_castI]
  rw [← e]
  exact q
theorem on_shl : OpR X (binaryOp .LShift) (fun x y H Q => ∃ n k b : Nat, x = nI n ∧ y = nI k ∧ (n < 2 ^ b ∧ b + k ≤ 134217728) ∧ Q (nI (n <<< k)) H) := by
  intro pins s σ H x y v u Q I rx ry h
  obtain ⟨n, k, b, rfl, rfl, ⟨hb, hk⟩, q⟩ := h
  refine op_shlN pins s σ H _ _ v u Q I rx ry ⟨_, k, rfl, rfl, shl_ok (n := b) (by simpa using hb) hk, ?_⟩
  rw [Nat.shiftLeft_eq] at q
  have e : ((n * 2 ^ k : Nat) : Int) = (n : Int) * 2 ^ k := by rw [Int.natCast_mul, pow_castI]
  rw [← e]
  exact q
theorem on_and : OpR X (binaryOp .BitAnd) (fun x y H Q => ∃ n m : Nat, x = nI n ∧ y = nI m ∧ Q (nI (n &&& m)) H) := by
  intro pins s σ H x y v u Q I rx ry h
  obtain ⟨n, m, rfl, rfl, q⟩ := h
  refine op_and pins s σ H _ _ v u Q I rx ry ⟨_, _, rfl, rfl, ?_⟩
  show Q (V.int (Builtin.bitAnd (n : Int) (m : Int))) H
  rw [bitAnd_pp (Int.natCast_nonneg _) (Int.natCast_nonneg _), Int.toNat_natCast, Int.toNat_natCast]
  exact q
theorem on_or : OpR X (binaryOp .BitOr) (fun x y H Q => ∃ n m : Nat, x = nI n ∧ y = nI m ∧ Q (nI (n ||| m)) H) := by
  intro pins s σ H x y v u Q I rx ry h
  obtain ⟨n, m, rfl, rfl, q⟩ := h
  refine op_or pins s σ H _ _ v u Q I rx ry ⟨_, _, rfl, rfl, ?_⟩
  show Q (V.int (Builtin.bitOr (n : Int) (m : Int))) H
  rw [bitOr_nn (Int.natCast_nonneg _) (Int.natCast_nonneg _), Int.toNat_natCast, Int.toNat_natCast]
  exact q
theorem on_add : OpR X (binaryOp .Add) (fun x y H Q => ∃ n m : Nat, x = nI n ∧ y = nI m ∧ Q (nI (n + m)) H) := op_addN
theorem on_sub : OpR X (binaryOp .Sub) (fun x y H Q => ∃ n m : Nat, x = nI n ∧ y = nI m ∧ m ≤ n ∧ Q (nI (n - m)) H) := op_subN
theorem on_mul : OpR X (binaryOp .Mult) (fun x y H Q => ∃ n m : Nat, x = nI n ∧ y = nI m ∧ n ≤ 4294967296 ∧ Q (nI (n * m)) H) := op_mulN
theorem on_fdiv : OpR X (binaryOp .FloorDiv) (fun x y H Q => ∃ n m : Nat, x = nI n ∧ y = nI m ∧ (1 ≤ m ∧ m < 1073741824) ∧ Q (nI (n / m)) H) := op_fdivNN
theorem on_mod : OpR X (binaryOp .Mod) (fun x y H Q => ∃ n m : Nat, x = nI n ∧ y = nI m ∧ 1 ≤ m ∧ Q (nI (n % m)) H) := by
  intro pins s σ H x y v u Q I rx ry h
  obtain ⟨n, m, rfl, rfl, c, q⟩ := h
  refine op_mod pins s σ H _ _ v u Q I rx ry ⟨_, _, rfl, rfl, show (0 : Int) < (m : Int) by omega, ?_⟩
  have e : ((n % m : Nat) : Int) = (n : Int) % (m : Int) := Int.natCast_emod ..
  show Q (V.int ((n : Int) % (m : Int))) H
  rw [← e]
  exact q
theorem on_eq : OpR X (compareOp .Eq) (fun x y H Q => ∃ n m : Nat, x = nI n ∧ y = nI m ∧ Q (.bl (decide (n = m))) H) := by
  intro pins s σ H x y v u Q I rx ry h
  obtain ⟨n, m, rfl, rfl, q⟩ := h
  refine op_eq pins s σ H _ _ v u Q I rx ry ⟨rfl, ?_⟩
  have e : decide (nI n = nI m) = decide (n = m) := by
    by_cases h : n = m
    · rw [h]; simp
    · rw [decide_eq_false h, decide_eq_false]
      intro z
      injection z with z
      exact h (by omega)
  rw [e]
  exact q
theorem oi_eq : OpR X (compareOp .Eq) (fun x y H Q => ∃ i j : Int, x = .int i ∧ y = .int j ∧ Q (.bl (decide (i = j))) H) := by
  intro pins s σ H x y v u Q I rx ry h
  obtain ⟨n, m, rfl, rfl, q⟩ := h
  refine op_eq pins s σ H _ _ v u Q I rx ry ⟨rfl, ?_⟩
  have e : decide (V.int n = V.int m) = decide (n = m) := by
    by_cases h : n = m
    · rw [h]; simp
    · rw [decide_eq_false h, decide_eq_false]
      intro z
      injection z with z
      exact h z
  rw [e]
  exact q
theorem oi_ne : OpR X (compareOp .NotEq) (fun x y H Q => ∃ i j : Int, x = .int i ∧ y = .int j ∧ Q (.bl (!decide (i = j))) H) := by
  intro pins s σ H x y v u Q I rx ry h
  obtain ⟨n, m, rfl, rfl, q⟩ := h
  refine op_ne pins s σ H _ _ v u Q I rx ry ⟨rfl, ?_⟩
  have e : decide (V.int n = V.int m) = decide (n = m) := by
    by_cases h : n = m
    · rw [h]; simp
    · rw [decide_eq_false h, decide_eq_false]
      intro z
      injection z with z
      exact h z
  have e2 : decide (V.int n ≠ V.int m) = !decide (n = m) := by rw [← e, decide_not]
  first
    | (rw [e2]; exact q)
    | (rw [e]; exact q)
end
abbrev EN : XK := fun _ _ _ => False
/-- what a call finds: the def stands at f, bound by its name -/
structure DefAt (K : PySem.W.Frag) (mg : Str → Option Value) (nm : Str) (st : Stmt) (ps : List Str) (f : Addr) (fd : FuncData) : Prop where
  F : Fun K nm nm st f fd
  b : Binds K fd ps []
  g : mg nm = some (.ref f)
theorem tYes_of {σ : L2.St} {H : Hp} {Q : Bool → Hp → Prop} (h : Q true H) : tYes σ H Q := h
theorem ifT {c : Bool} {a b : Prop} (hc : c = true) (h : a) : (if c = true then a else b) := by rw [if_pos hc]; exact h
theorem ifF {c : Bool} {a b : Prop} (hc : ¬ c = true) (h : b) : (if c = true then a else b) := by rw [if_neg hc]; exact h
theorem wipe_in {σ : L2.St} {j : Nat} {v : Option V} : wipe ((wipe σ [j]).set j v) [j] = wipe σ [j] := by
  show ((σ.set j none).set j v).set j none = σ.set j none
  rw [List.set_set, List.set_set]
/-- [e for i in range(n)], the element a value by the place; what stood stands -/
theorem lcMap {te : TE} {j : Nat} {σ : L2.St} {H1 : Hp} {D : Addr} {Qd : Hp → Prop} (f : Nat → V) (n : Nat) (hn : n ≤ 100000) (hD : H1 D = none)
    (hs : ∀ i H, i < n → Same H1 H → ∀ Q : VK, (∀ H', Same H H' → Q (f i) H') → te ((wipe σ [j]).set j (some (nI i))) H Q)
    (hd : ∀ H3, Same H1 H3 → H3 D = some (.lst ((List.range n).map f)) → Qd H3) :
    ∃ W : Nat → Nat → Hp → Prop, (∃ m, W 0 m (upd H1 D (.lst []))) ∧ ∀ i m H, W i m H →
      ((Itr 0 n).stop i H ∧ Qd H) ∨ ((Itr 0 n).go i H ∧ ∃ Nx : Hp → Prop, (∀ H', Nx H' → ∃ m', m' < m ∧ W (i + 1) m' H') ∧ ∀ x H', (Itr 0 n).yld i H x H' → gName j x (wipe σ [j]) H' fun σ2 H2 => wipe σ2 [j] = wipe σ [j] ∧ tYes σ2 H2 fun b H3 =>
        if b = true then te σ2 H3 fun y H4 => ∃ acc, H4 D = some (.lst acc) ∧ acc.length < sizeLine ∧ Nx (upd H4 D (.lst (acc ++ [y]))) else Nx H3) := by
  refine lc_range (fun i H => Same H1 H ∧ H D = some (.lst ((List.range i).map f))) ⟨same_upd hD, upd_same⟩ (fun i H hi ⟨s, e⟩ => ?_) (fun H ⟨s, e⟩ => hd H s e)
  rw [Int.zero_add]
  refine ⟨wipe_in, ?_⟩
  refine tYes_of (ifT rfl ?_)
  refine hs i H hi s _ fun H' s' => ⟨_, s' _ _ e, ?_, ?_, ?_⟩
  · rw [List.length_map, List.length_range]
    exact sizeSmall (by omega)
  · exact same_put hD fun b o z => s' _ _ (s _ _ z)
  · rw [upd_same, List.range_succ, List.map_append]
    rfl
/-- [e for v in xs], xs a list of naturals -/
theorem lcMapL {K : PySem.W.Frag} {a : Addr} {te : TE} {j : Nat} {σ : L2.St} {H1 : Hp} {D : Addr} {Qd : Hp → Prop} (l : List Nat) (f : Nat → V) (hn : l.length ≤ 100000) (hS : SqL K H1 a (nv l)) (hD : H1 D = none)
    (hs : ∀ v H, v ∈ l → Same H1 H → ∀ Q : VK, (∀ H', Same H H' → Q (f v) H') → te ((wipe σ [j]).set j (some (nI v))) H Q)
    (hd : ∀ H3, Same H1 H3 → H3 D = some (.lst (l.map f)) → Qd H3) :
    ∃ W : Nat → Nat → Hp → Prop, (∃ m, W 0 m (upd H1 D (.lst []))) ∧ ∀ i m H, W i m H →
      ((Itl K a).stop i H ∧ Qd H) ∨ ((Itl K a).go i H ∧ ∃ Nx : Hp → Prop, (∀ H', Nx H' → ∃ m', m' < m ∧ W (i + 1) m' H') ∧ ∀ x H', (Itl K a).yld i H x H' → gName j x (wipe σ [j]) H' fun σ2 H2 => wipe σ2 [j] = wipe σ [j] ∧ tYes σ2 H2 fun b H3 =>
        if b = true then te σ2 H3 fun y H4 => ∃ acc, H4 D = some (.lst acc) ∧ acc.length < sizeLine ∧ Nx (upd H4 D (.lst (acc ++ [y]))) else Nx H3) := by
  refine lc_list (xs := nv l) (fun i H => Same H1 H ∧ H D = some (.lst ((l.take i).map f))) ⟨same_upd hD, upd_same⟩ (fun i H _ ⟨s, _⟩ => s.seq hS) (fun i x H hx ⟨s, e⟩ => ?_) (fun H ⟨s, e⟩ => hd H s ?_)
  · obtain ⟨v, hv, rfl⟩ : ∃ v, l[i]? = some v ∧ x = nI v := by
      unfold nv at hx
      rw [List.getElem?_map] at hx
      cases e : l[i]? with
      | none => rw [e] at hx; cases hx
      | some v => rw [e] at hx; exact ⟨v, rfl, (Option.some.inj hx).symm⟩
    refine ⟨wipe_in, ?_⟩
    refine tYes_of (ifT rfl ?_)
    refine hs v H (List.mem_of_getElem? hv) s _ fun H' s' => ⟨_, s' _ _ e, ?_, ?_, ?_⟩
    · rw [List.length_map, List.length_take]
      exact sizeSmall (by omega)
    · exact same_put hD fun b o z => s' _ _ (s _ _ z)
    · rw [upd_same, List.take_add_one, hv, List.map_append]
      rfl
  · rw [nv_length, List.take_length] at e
    exact e
theorem range_get {α : Type} {f : Nat → α} {n i : Nat} (h : i < n) : ((List.range n).map f)[i]? = some (f i) := by
  rw [List.getElem?_map, List.getElem?_range h]
  rfl
theorem map_nI (f : Nat → Nat) (l : List Nat) : l.map (fun i => nI (f i)) = nv (l.map f) := by
  unfold nv
  rw [List.map_map]
  rfl
theorem at_nvr {f : Nat → Nat} {n i : Nat} (h : i < n) : atI (nv ((List.range n).map f)) (i : Int) = some (nI (f i)) := at_nv (range_get h)
/-- [e for i in range(n) if t] -/
theorem lcFil {tt : TT} {te : TE} {j : Nat} {σ : L2.St} {H1 : Hp} {D : Addr} {Qd : Hp → Prop} (f : Nat → V) (p : Nat → Bool) (n : Nat) (hn : n ≤ 100000) (hD : H1 D = none)
    (ht : ∀ i H, i < n → Same H1 H → ∀ Q : Bool → Hp → Prop, (∀ H', Same H H' → Q (p i) H') → tt ((wipe σ [j]).set j (some (nI i))) H Q)
    (hs : ∀ i H, i < n → p i = true → Same H1 H → ∀ Q : VK, (∀ H', Same H H' → Q (f i) H') → te ((wipe σ [j]).set j (some (nI i))) H Q)
    (hd : ∀ H3, Same H1 H3 → H3 D = some (.lst (((List.range n).filter p).map f)) → Qd H3) :
    ∃ W : Nat → Nat → Hp → Prop, (∃ m, W 0 m (upd H1 D (.lst []))) ∧ ∀ i m H, W i m H →
      ((Itr 0 n).stop i H ∧ Qd H) ∨ ((Itr 0 n).go i H ∧ ∃ Nx : Hp → Prop, (∀ H', Nx H' → ∃ m', m' < m ∧ W (i + 1) m' H') ∧ ∀ x H', (Itr 0 n).yld i H x H' → gName j x (wipe σ [j]) H' fun σ2 H2 => wipe σ2 [j] = wipe σ [j] ∧ tt σ2 H2 fun b H3 =>
        if b = true then te σ2 H3 fun y H4 => ∃ acc, H4 D = some (.lst acc) ∧ acc.length < sizeLine ∧ Nx (upd H4 D (.lst (acc ++ [y]))) else Nx H3) := by
  refine lc_range (fun i H => Same H1 H ∧ H D = some (.lst (((List.range i).filter p).map f))) ⟨same_upd hD, upd_same⟩ (fun i H hi ⟨s, e⟩ => ?_) (fun H ⟨s, e⟩ => hd H s e)
  rw [Int.zero_add]
  refine ⟨wipe_in, ?_⟩
  refine ht i H hi s _ fun H' s' => ?_
  have sH : Same H1 H' := fun b o z => s' _ _ (s _ _ z)
  have ef : (List.range (i + 1)).filter p = (List.range i).filter p ++ (if p i = true then [i] else []) := by
    rw [List.range_succ, List.filter_append]
    cases hp : p i <;> simp [hp]
  by_cases hp : p i = true
  · rw [if_pos hp]
    refine hs i H' hi hp sH _ fun H2 s2 => ⟨_, s2 _ _ (s' _ _ e), ?_, ?_, ?_⟩
    · have h1 := List.length_filter_le p (List.range i)
      rw [List.length_range] at h1
      rw [List.length_map]
      exact sizeSmall (by omega)
    · exact same_put hD fun b o z => s2 _ _ (sH _ _ z)
    · rw [upd_same, ef, if_pos hp, List.map_append]
      rfl
  · rw [if_neg hp]
    refine ⟨sH, ?_⟩
    rw [ef, if_neg hp, List.append_nil]
    exact s' _ _ e
end My
/-! ### more operations: lists that may be the caller's own, comparisons, xor -/
namespace My
open PySem PySem.Spec PyProof.Rows L2
section
variable {X : Cx}
def rCatS (K : PySem.W.Frag) : V → V → Hp → VK → Prop := fun x y H Q => ∃ l b xs zs, x = .ref l ∧ y = .ref b ∧ SqL K H l xs ∧ SqL K H b zs ∧ xs.length + zs.length ≤ sizeLine ∧ ∀ p, H p = none → Q (.ref p) (upd H p (.lst (xs ++ zs)))
theorem op_catS : OpR X (binaryOp .Add) (rCatS X.K) := by
  intro pins s σ H x y v u Q I rx ry h
  obtain ⟨l, b, xs, zs, rfl, rfl, hH, hB, hz, q⟩ := h
  cases rx
  cases ry
  obtain ⟨its, r, ⟨⟨cls, dd, data, sl⟩, n, ho, hc, hd0, hd⟩, z⟩ := I.list hH
  obtain ⟨its2, r2, ⟨⟨cls2, dd2, data2, sl2⟩, n2, ho2, hc2, hd02, hd2⟩, z2⟩ := I.list hB
  simp only at hc hd hc2 hd2
  subst hc hd hc2 hd2
  have hl := r.length
  have hl2 := r2.length
  refine concat_meets ⟨_, ho, rfl⟩ ⟨_, ho2, rfl⟩ noFill_list_add seq_list_add PySem.F.slot_list_add PySem.F.entry_list_add (PySem.F.args_list_add_2 _ _) (list_addW l b its.toArray its2.toArray n n2 dd dd2 sl sl2 (by rw [List.size_toArray, List.size_toArray]; omega)) ⟨ho, ho2, ?_⟩
  have ea : its.toArray ++ its2.toArray = (its ++ its2).toArray := by simp
  rw [ea]
  exact ⟨.ref _, _, I.lnew (t' := s.toks) (r.append r2) (by rw [List.length_append]; omega), rfl, q _ I.fresh⟩
theorem on_lt : OpR X (compareOp .Lt) (fun x y H Q => ∃ n m : Nat, x = nI n ∧ y = nI m ∧ Q (.bl (decide (n < m))) H) := by
  intro pins s σ H x y v u Q I rx ry h
  obtain ⟨n, m, rfl, rfl, q⟩ := h
  have e : decide ((n : Int) < (m : Int)) = decide (n < m) := decide_eq_decide.mpr (by omega)
  refine op_lt pins s σ H _ _ v u Q I rx ry ⟨_, _, rfl, rfl, ?_⟩
  show Q (.bl (decide ((n : Int) < (m : Int)))) H
  rw [e]; exact q
theorem on_le : OpR X (compareOp .LtE) (fun x y H Q => ∃ n m : Nat, x = nI n ∧ y = nI m ∧ Q (.bl (decide (n ≤ m))) H) := by
  intro pins s σ H x y v u Q I rx ry h
  obtain ⟨n, m, rfl, rfl, q⟩ := h
  have e : decide ((n : Int) ≤ (m : Int)) = decide (n ≤ m) := decide_eq_decide.mpr (by omega)
  refine op_le pins s σ H _ _ v u Q I rx ry ⟨_, _, rfl, rfl, ?_⟩
  show Q (.bl (decide ((n : Int) ≤ (m : Int)))) H
  rw [e]; exact q
theorem on_gt : OpR X (compareOp .Gt) (fun x y H Q => ∃ n m : Nat, x = nI n ∧ y = nI m ∧ Q (.bl (decide (m < n))) H) := by
  intro pins s σ H x y v u Q I rx ry h
  obtain ⟨n, m, rfl, rfl, q⟩ := h
  have e : decide ((m : Int) < (n : Int)) = decide (m < n) := decide_eq_decide.mpr (by omega)
  refine op_gt pins s σ H _ _ v u Q I rx ry ⟨_, _, rfl, rfl, ?_⟩
  show Q (.bl (decide ((m : Int) < (n : Int)))) H
  rw [e]; exact q
theorem on_ge : OpR X (compareOp .GtE) (fun x y H Q => ∃ n m : Nat, x = nI n ∧ y = nI m ∧ Q (.bl (decide (m ≤ n))) H) := by
  intro pins s σ H x y v u Q I rx ry h
  obtain ⟨n, m, rfl, rfl, q⟩ := h
  have e : decide ((m : Int) ≤ (n : Int)) = decide (m ≤ n) := decide_eq_decide.mpr (by omega)
  refine op_ge pins s σ H _ _ v u Q I rx ry ⟨_, _, rfl, rfl, ?_⟩
  show Q (.bl (decide ((m : Int) ≤ (n : Int)))) H
  rw [e]; exact q
theorem on_ne : OpR X (compareOp .NotEq) (fun x y H Q => ∃ n m : Nat, x = nI n ∧ y = nI m ∧ Q (.bl (!decide (n = m))) H) := by
  intro pins s σ H x y v u Q I rx ry h
  obtain ⟨n, m, rfl, rfl, q⟩ := h
  have e : decide ((n : Int) = (m : Int)) = decide (n = m) := decide_eq_decide.mpr (by omega)
  refine oi_ne pins s σ H _ _ v u Q I rx ry ⟨_, _, rfl, rfl, ?_⟩
  rw [e]; exact q
theorem on_xor : OpR X (binaryOp .BitXor) (fun x y H Q => ∃ n m : Nat, x = nI n ∧ y = nI m ∧ Q (nI (n ^^^ m)) H) := by
  intro pins s σ H x y v u Q I rx ry h
  obtain ⟨n, m, rfl, rfl, q⟩ := h
  refine op_xor pins s σ H _ _ v u Q I rx ry ⟨_, _, rfl, rfl, ?_⟩
  have e : Builtin.bitXor (n : Int) (m : Int) = ((n ^^^ m : Nat) : Int) := by
    rw [bitXor_and, bitAnd_pp (Int.natCast_nonneg _) (Int.natCast_nonneg _), Int.toNat_natCast, Int.toNat_natCast]
    have k : ∀ n m : Nat, (n ^^^ m) + 2 * (n &&& m) = n + m := fun n m => by
      induction n using Nat.strongRecOn generalizing m with
      | _ n ih =>
        by_cases h0 : n = 0
        · subst h0; simp
        · have i1 := ih (n / 2) (by omega) (m / 2)
          have x1 : (n ^^^ m) / 2 = n / 2 ^^^ m / 2 := Nat.xor_div_two
          have a1 : (n &&& m) / 2 = n / 2 &&& m / 2 := Nat.and_div_two
          have x2 : (n ^^^ m) % 2 = (n + m) % 2 := by
            have hh := Nat.xor_mod_two_pow (a := n) (b := m) (n := 1)
            rw [Nat.pow_one] at hh
            rw [hh]
            rcases Nat.mod_two_eq_zero_or_one n with p | p <;> rcases Nat.mod_two_eq_zero_or_one m with p2 | p2 <;> rw [p, p2] <;> simp <;> omega
          have a2 : (n &&& m) % 2 = n % 2 * (m % 2) := by
            have hh := Nat.and_mod_two_pow (a := n) (b := m) (n := 1)
            rw [Nat.pow_one] at hh
            rw [hh]
            rcases Nat.mod_two_eq_zero_or_one n with p | p <;> rcases Nat.mod_two_eq_zero_or_one m with p2 | p2 <;> rw [p, p2] <;> rfl
          rcases Nat.mod_two_eq_zero_or_one n with p | p <;> rcases Nat.mod_two_eq_zero_or_one m with p2 | p2 <;> (rw [p, p2] at a2; omega)
    have := k n m
    omega
  show Q (V.int (Builtin.bitXor (n : Int) (m : Int))) H
  rw [e]; exact q
theorem on_mulW : OpR X (binaryOp .Mult) (fun x y H Q => ∃ n m : Nat, x = nI n ∧ y = nI m ∧ n < 2 ^ 64 ∧ Q (nI (n * m)) H) := by
  intro pins s σ H x y v u Q I rx ry h
  obtain ⟨n, m, rfl, rfl, c, q⟩ := h
  refine op_mul pins s σ H _ _ v u Q I rx ry ⟨_, _, rfl, rfl, .inl ⟨by omega, by omega⟩, ?_⟩
  show Q (V.int ((n : Int) * (m : Int))) H
  rw [← Int.natCast_mul]; exact q
theorem on_fdivW : OpR X (binaryOp .FloorDiv) (fun x y H Q => ∃ n m : Nat, x = nI n ∧ y = nI m ∧ (1 ≤ m ∧ m < 2 ^ 64) ∧ Q (nI (n / m)) H) := by
  intro pins s σ H x y v u Q I rx ry h
  obtain ⟨n, m, rfl, rfl, ⟨c1, c2⟩, q⟩ := h
  refine op_fdivW pins s σ H _ _ v u Q I rx ry ⟨_, _, rfl, rfl, wide_div (b := 64) (by omega) (by rw [Int.natAbs_natCast]; exact c2) (by decide) (by decide), ?_⟩
  show Q (V.int ((n : Int) / (m : Int))) H
  rw [← Int.natCast_ediv]; exact q
end
abbrev rnOr : V → V → Hp → VK → Prop := fun x y H Q => ∃ n m : Nat, x = nI n ∧ y = nI m ∧ Q (nI (n ||| m)) H
abbrev rnAnd : V → V → Hp → VK → Prop := fun x y H Q => ∃ n m : Nat, x = nI n ∧ y = nI m ∧ Q (nI (n &&& m)) H
abbrev rnAdd : V → V → Hp → VK → Prop := fun x y H Q => ∃ n m : Nat, x = nI n ∧ y = nI m ∧ Q (nI (n + m)) H
abbrev rnSub : V → V → Hp → VK → Prop := fun x y H Q => ∃ n m : Nat, x = nI n ∧ y = nI m ∧ m ≤ n ∧ Q (nI (n - m)) H
abbrev rnMul : V → V → Hp → VK → Prop := fun x y H Q => ∃ n m : Nat, x = nI n ∧ y = nI m ∧ n ≤ 4294967296 ∧ Q (nI (n * m)) H
abbrev rnMod : V → V → Hp → VK → Prop := fun x y H Q => ∃ n m : Nat, x = nI n ∧ y = nI m ∧ 1 ≤ m ∧ Q (nI (n % m)) H
abbrev rnShr : V → V → Hp → VK → Prop := fun x y H Q => ∃ n k : Nat, x = nI n ∧ y = nI k ∧ Q (nI (n >>> k)) H
abbrev rnShl : V → V → Hp → VK → Prop := fun x y H Q => ∃ n k b : Nat, x = nI n ∧ y = nI k ∧ (n < 2 ^ b ∧ b + k ≤ 134217728) ∧ Q (nI (n <<< k)) H
theorem cut_mid (l : List Nat) {a b : Nat} (h : a ≤ b) (hb : b ≤ l.length) : cutV (nv l) (some (a : Int)) (some (b : Int)) = nv ((l.drop a).take (b - a)) := by
  unfold cutV
  rw [HT.sIx_nat, HT.sIx_nat, nv_length]
  show ((nv l).drop (min a l.length)).take (min b l.length - min a l.length) = _
  rw [Nat.min_eq_left hb, Nat.min_eq_left (Nat.le_trans h hb)]
  unfold nv
  rw [List.map_take, List.map_drop]
theorem map_range16 {x : List Nat} (h : x.length = 16) (f : Nat → Nat) : x.map f = (List.range 16).map fun i => f (x.getD i 0) := by
  apply List.ext_getElem?
  intro i
  by_cases hi : i < 16
  · rw [range_get hi, List.getElem?_map, get_D (by omega)]
    rfl
  · rw [List.getElem?_eq_none (by simp; omega), List.getElem?_eq_none (by simp; omega)]
end My
/-! ### the request's numbers as naturals -/
namespace My
open PySem PySem.Spec PyProof.Rows L2
open PySem.W (WData Codec)
def zl (x : List Nat) : List Int := x.map fun (k : Nat) => (k : Int)
theorem zl_int (x : List Nat) : (zl x).map V.int = nv x := by unfold zl nv; rw [List.map_map]; rfl
theorem zl_back (x : List Nat) : Sv11Neutral.n (zl x) = x := by
  unfold Sv11Neutral.n zl
  rw [List.map_map]
  conv => rhs; rw [← List.map_id x]
  exact List.map_congr_left fun a _ => Int.toNat_natCast a
theorem nat_of {l : List Int} (h : ∀ z ∈ l, 0 ≤ z) : ∃ x : List Nat, l = zl x := by
  refine ⟨l.map Int.toNat, ?_⟩
  unfold zl
  rw [List.map_map]
  conv => lhs; rw [← List.map_id l]
  exact List.map_congr_left fun a ha => by
    have := h a ha
    show a = ((a.toNat : Nat) : Int)
    omega
theorem word_nat {z : Int} (h : Sv11Neutral.word z = true) : ∃ n : Nat, z = (n : Int) ∧ n < 2 ^ 32 := by
  unfold Sv11Neutral.word at h
  rw [Bool.and_eq_true, decide_eq_true_eq, decide_eq_true_eq] at h
  exact ⟨z.toNat, by omega, by omega⟩
theorem mask_nat {z : Int} (h : Sv11Neutral.mask z = true) : ∃ n : Nat, z = (n : Int) ∧ n < 65536 := by
  unfold Sv11Neutral.mask at h
  rw [Bool.and_eq_true, decide_eq_true_eq, decide_eq_true_eq] at h
  exact ⟨z.toNat, by omega, by omega⟩
theorem words_nat {l : List Int} (h : l.all Sv11Neutral.word = true) : ∃ x : List Nat, l = zl x ∧ ∀ k ∈ x, k < 2 ^ 32 := by
  rw [List.all_eq_true] at h
  obtain ⟨x, rfl⟩ := nat_of fun z hz => by
    obtain ⟨n, e, _⟩ := word_nat (h z hz)
    omega
  refine ⟨x, rfl, fun k hk => ?_⟩
  obtain ⟨n, e, hn⟩ := word_nat (h (k : Int) (List.mem_map.mpr ⟨k, hk, rfl⟩))
  have : k = n := by omega
  omega
theorem row_nat {l : List Int} (h : Sv11Neutral.row l = true) : ∃ x : List Nat, l = zl x ∧ x.length = 16 ∧ ∀ k ∈ x, k < 2 ^ 32 := by
  unfold Sv11Neutral.row at h
  rw [Bool.and_eq_true, decide_eq_true_eq] at h
  obtain ⟨x, rfl, hx⟩ := words_nat h.1
  refine ⟨x, rfl, ?_, hx⟩
  have e := h.2
  unfold zl at e
  rw [List.length_map] at e
  exact e
/-- a row's word as the specification reads it -/
theorem word_eq {x : List Nat} (h : ∀ k ∈ x, k < 2 ^ 32) (i : Nat) : Sv11.word x i = x.getD i 0 := by
  unfold Sv11.word
  apply Nat.mod_eq_of_lt
  rw [List.getD_eq_getElem?_getD]
  cases e : x[i]? with
  | none => show 0 < 2 ^ 32; decide
  | some v => exact h v (List.mem_of_getElem? e)
theorem getD_lt {x : List Nat} (h : ∀ k ∈ x, k < 2 ^ 32) (i : Nat) : x.getD i 0 < 2 ^ 32 := by
  rw [List.getD_eq_getElem?_getD]
  cases e : x[i]? with
  | none => show 0 < 2 ^ 32; decide
  | some v => exact h v (List.mem_of_getElem? e)
theorem words_eq {f g : Nat → Nat} (h : ∀ i, i < 16 → f i = g i ∧ g i < 2 ^ 32) : Sv11.words f = (List.range 16).map g := by
  unfold Sv11.words
  refine List.map_congr_left fun i hi => ?_
  obtain ⟨e, l⟩ := h i (List.mem_range.mp hi)
  rw [e, Nat.mod_eq_of_lt l]
theorem dw_nv {K : PySem.W.Frag} {H : Hp} {p : Addr} {l : List Nat} (h : H p = some (.lst (nv l))) : Dw K H (.ref p) (.list ((zl l).map WData.int)) := by
  rw [← zl_int] at h
  exact .lst (SqL.of h) (dw_ints _)
theorem dw_cons {K : PySem.W.Frag} {H : Hp} {xs : List V} {d : WData} {ds : List WData} (h : DwAll K H xs (d :: ds)) : ∃ v vs, xs = v :: vs ∧ Dw K H v d ∧ DwAll K H vs ds := by
  cases h with
  | cons h1 h2 => exact ⟨_, _, rfl, h1, h2⟩
theorem dw_row {K : PySem.W.Frag} {H : Hp} {v : V} {x : List Nat} (h : Dw K H v (.list ((zl x).map WData.int))) : ∃ a, v = .ref a ∧ SqL K H a (nv x) := by
  cases h with
  | lst hs ha =>
    have e := L2.ints_dw (zl x) _ ha
    subst e
    rw [zl_int] at hs
    exact ⟨_, rfl, hs⟩
end My
/-! ### comprehensions over a list with a test, over range(1, n); answers as ints -/
namespace My
open PySem PySem.Spec PyProof.Rows L2
theorem nv_at {l : List Nat} {i : Nat} {x : V} (hx : (nv l)[i]? = some x) : ∃ v, l[i]? = some v ∧ x = nI v := by
  unfold nv at hx
  rw [List.getElem?_map] at hx
  cases e : l[i]? with
  | none => rw [e] at hx; cases hx
  | some v => rw [e] at hx; exact ⟨v, rfl, (Option.some.inj hx).symm⟩
/-- [e for v in xs if t], xs a list of naturals -/
theorem lcFilL {K : PySem.W.Frag} {a : Addr} {tt : TT} {te : TE} {j : Nat} {σ : L2.St} {H1 : Hp} {D : Addr} {Qd : Hp → Prop} (l : List Nat) (f : Nat → V) (p : Nat → Bool) (hn : l.length ≤ 100000) (hS : SqL K H1 a (nv l)) (hD : H1 D = none)
    (ht : ∀ v H, v ∈ l → Same H1 H → ∀ Q : Bool → Hp → Prop, (∀ H', Same H H' → Q (p v) H') → tt ((wipe σ [j]).set j (some (nI v))) H Q)
    (hs : ∀ v H, v ∈ l → p v = true → Same H1 H → ∀ Q : VK, (∀ H', Same H H' → Q (f v) H') → te ((wipe σ [j]).set j (some (nI v))) H Q)
    (hd : ∀ H3, Same H1 H3 → H3 D = some (.lst ((l.filter p).map f)) → Qd H3) :
    ∃ W : Nat → Nat → Hp → Prop, (∃ m, W 0 m (upd H1 D (.lst []))) ∧ ∀ i m H, W i m H →
      ((Itl K a).stop i H ∧ Qd H) ∨ ((Itl K a).go i H ∧ ∃ Nx : Hp → Prop, (∀ H', Nx H' → ∃ m', m' < m ∧ W (i + 1) m' H') ∧ ∀ x H', (Itl K a).yld i H x H' → gName j x (wipe σ [j]) H' fun σ2 H2 => wipe σ2 [j] = wipe σ [j] ∧ tt σ2 H2 fun b H3 =>
        if b = true then te σ2 H3 fun y H4 => ∃ acc, H4 D = some (.lst acc) ∧ acc.length < sizeLine ∧ Nx (upd H4 D (.lst (acc ++ [y]))) else Nx H3) := by
  refine lc_list (xs := nv l) (fun i H => Same H1 H ∧ H D = some (.lst (((l.take i).filter p).map f))) ⟨same_upd hD, upd_same⟩ (fun i H _ ⟨s, _⟩ => s.seq hS) (fun i x H hx ⟨s, e⟩ => ?_) (fun H ⟨s, e⟩ => hd H s ?_)
  · obtain ⟨v, hv, rfl⟩ := nv_at hx
    refine ⟨wipe_in, ?_⟩
    have hm := List.mem_of_getElem? hv
    refine ht v H hm s _ fun H' s' => ?_
    have sH : Same H1 H' := fun b o z => s' _ _ (s _ _ z)
    have ef : (l.take (i + 1)).filter p = (l.take i).filter p ++ (if p v = true then [v] else []) := by
      rw [List.take_add_one, hv, List.filter_append]
      cases hp : p v <;> simp [hp]
    by_cases hp : p v = true
    · rw [if_pos hp]
      refine hs v H' hm hp sH _ fun H2 s2 => ⟨_, s2 _ _ (s' _ _ e), ?_, ?_, ?_⟩
      · have h1 := List.length_filter_le p (l.take i)
        rw [List.length_take] at h1
        rw [List.length_map]
        exact sizeSmall (by omega)
      · exact same_put hD fun b o z => s2 _ _ (sH _ _ z)
      · rw [upd_same, ef, if_pos hp, List.map_append]
        rfl
    · rw [if_neg hp]
      refine ⟨sH, ?_⟩
      rw [ef, if_neg hp, List.append_nil]
      exact s' _ _ e
  · rw [nv_length, List.take_length] at e
    exact e
/-- [e for i in range(lo, lo + n)] -/
theorem lcMapF {te : TE} {j : Nat} {σ : L2.St} {H1 : Hp} {D : Addr} {Qd : Hp → Prop} (lo : Nat) (f : Nat → V) (n : Nat) (hn : n ≤ 100000) (hD : H1 D = none)
    (hs : ∀ i H, i < n → Same H1 H → ∀ Q : VK, (∀ H', Same H H' → Q (f i) H') → te ((wipe σ [j]).set j (some (nI (lo + i)))) H Q)
    (hd : ∀ H3, Same H1 H3 → H3 D = some (.lst ((List.range n).map f)) → Qd H3) :
    ∃ W : Nat → Nat → Hp → Prop, (∃ m, W 0 m (upd H1 D (.lst []))) ∧ ∀ i m H, W i m H →
      ((Itr (lo : Int) n).stop i H ∧ Qd H) ∨ ((Itr (lo : Int) n).go i H ∧ ∃ Nx : Hp → Prop, (∀ H', Nx H' → ∃ m', m' < m ∧ W (i + 1) m' H') ∧ ∀ x H', (Itr (lo : Int) n).yld i H x H' → gName j x (wipe σ [j]) H' fun σ2 H2 => wipe σ2 [j] = wipe σ [j] ∧ tYes σ2 H2 fun b H3 =>
        if b = true then te σ2 H3 fun y H4 => ∃ acc, H4 D = some (.lst acc) ∧ acc.length < sizeLine ∧ Nx (upd H4 D (.lst (acc ++ [y]))) else Nx H3) := by
  refine lc_range (fun i H => Same H1 H ∧ H D = some (.lst ((List.range i).map f))) ⟨same_upd hD, upd_same⟩ (fun i H hi ⟨s, e⟩ => ?_) (fun H ⟨s, e⟩ => hd H s e)
  rw [show ((lo : Int) + (i : Int)) = ((lo + i : Nat) : Int) from (Int.natCast_add lo i).symm]
  refine ⟨wipe_in, ?_⟩
  refine tYes_of (ifT rfl ?_)
  refine hs i H hi s _ fun H' s' => ⟨_, s' _ _ e, ?_, ?_, ?_⟩
  · rw [List.length_map, List.length_range]
    exact sizeSmall (by omega)
  · exact same_put hD fun b o z => s' _ _ (s _ _ z)
  · rw [upd_same, List.range_succ, List.map_append]
    rfl
/-- an answer of the specification as the list that is given back -/
def ansI (y : Sv11.Ans) : List Int := match y.value with
  | some v => v :: zl y.l
  | none => zl y.l
theorem ix_at {n j : Nat} (h : j < n) : ixN n (j : Int) = some j := by
  unfold ixN
  rw [if_pos (Int.natCast_nonneg j), if_pos (by omega), Int.toNat_natCast]
theorem nv_set (l : List Nat) (j v : Nat) : (nv l).set j (nI v) = nv (l.set j v) := by
  unfold nv
  rw [List.map_set]
theorem take_snoc {l : List Nat} {i : Nat} (h : i < l.length) : l.take (i + 1) = l.take i ++ [l.getD i 0] := by
  rw [List.take_add_one, get_D h]
  rfl
theorem none_back {H H' : Hp} {p : Addr} (s : Same H H') (h : H' p = none) : H p = none := by
  cases e : H p with
  | none => rfl
  | some o => rw [s _ _ e] at h; cases h
theorem rep_nv (k v : Nat) : (List.replicate k [nI v]).flatten = nv (List.replicate k v) := by
  unfold nv
  rw [List.map_replicate, List.flatten_replicate_singleton]
theorem cut_pre (l : List Nat) {b : Nat} (hb : b ≤ l.length) : cutV (nv l) none (some (b : Int)) = nv (l.take b) := by
  unfold cutV
  rw [HT.sIx_none, HT.sIx_nat, nv_length, Nat.min_eq_left hb, Nat.sub_zero, List.drop_zero]
  unfold nv
  rw [List.map_take]
theorem row_no {n : Nat} : Sv11.row n = false ↔ 65536 < n := by
  unfold Sv11.row Sv11.MOST
  rw [decide_eq_false_iff_not]
  omega
end My
/-! ### the request of rows of n -/
namespace My
open PySem PySem.Spec PyProof.Rows L2
open PySem.W (WData Codec)
theorem most_nat {z t : Int} (h : Sv11Neutral.most z t = true) : ∃ n : Nat, z = (n : Int) ∧ n < 2 ^ 32 ∧ (n ≤ 500 ∨ t < (n : Int)) := by
  unfold Sv11Neutral.most at h
  rw [Bool.and_eq_true, decide_eq_true_eq] at h
  obtain ⟨n, rfl, hn⟩ := word_nat h.1
  refine ⟨n, rfl, hn, ?_⟩
  rcases h.2 with h | h
  · exact .inl (by omega)
  · exact .inr h
theorem many_nat {k : Int} {yes : Bool} {l : List Int} (h : Sv11Neutral.many k yes l = true) : ∃ x : List Nat, l = zl x ∧ (∀ k ∈ x, k < 2 ^ 32) ∧ (x.length : Int) = if yes = true then k else 0 := by
  unfold Sv11Neutral.many at h
  rw [Bool.and_eq_true, decide_eq_true_eq] at h
  obtain ⟨x, rfl, hb⟩ := words_nat h.1
  refine ⟨x, rfl, hb, ?_⟩
  have := h.2
  unfold zl at this
  rw [List.length_map] at this
  exact this
theorem dw_iv {K : PySem.W.Frag} {H : Hp} {p : Addr} {l : List Int} (h : H p = some (.lst (l.map V.int))) : Dw K H (.ref p) (.list (l.map WData.int)) := .lst (SqL.of h) (dw_ints _)
theorem whole_int {z : Int} (h : Sv11Neutral.whole32 z = true) : -(2 ^ 31) ≤ z ∧ z < 2 ^ 31 := by
  unfold Sv11Neutral.whole32 at h
  rw [Bool.and_eq_true, decide_eq_true_eq, decide_eq_true_eq] at h
  exact h
end My
/-! ### rows: laid numbers, groups, ascending lists -/
namespace My
theorem laid_snoc (w : Nat) : ∀ (l : List Nat) (x : Nat), Sv11.laid (l ++ [x]) w = Sv11.laid l w + 2 ^ (w * l.length) * x
  | [], x => by
    show x + 2 ^ w * 0 = 0 + 2 ^ (w * 0) * x
    rw [Nat.mul_zero, Nat.mul_zero, Nat.pow_zero]; omega
  | a :: l, x => by
    show a + 2 ^ w * Sv11.laid (l ++ [x]) w = (a + 2 ^ w * Sv11.laid l w) + 2 ^ (w * (l.length + 1)) * x
    rw [laid_snoc w l x, Nat.mul_add, Nat.mul_succ, Nat.add_comm (w * l.length) w, Nat.pow_add, Nat.mul_assoc, Nat.add_assoc]
theorem laid_lt (w : Nat) : ∀ (l : List Nat), (∀ x ∈ l, x < 2 ^ w) → Sv11.laid l w < 2 ^ (w * l.length)
  | [], _ => by show 0 < 2 ^ (w * 0); simp
  | a :: l, h => by
    have ih := laid_lt w l fun x hx => h x (List.mem_cons_of_mem _ hx)
    have ha := h a (List.mem_cons_self ..)
    show a + 2 ^ w * Sv11.laid l w < 2 ^ (w * (l.length + 1))
    rw [Nat.mul_succ, Nat.add_comm (w * l.length) w, Nat.pow_add]
    have : 2 ^ w * (Sv11.laid l w + 1) ≤ 2 ^ w * 2 ^ (w * l.length) := Nat.mul_le_mul_left _ ih
    rw [Nat.mul_add, Nat.mul_one] at this
    omega
theorem laid_or (w : Nat) (l : List Nat) (x : Nat) (h : ∀ y ∈ l, y < 2 ^ w) : Sv11.laid l w ||| (x <<< (w * l.length)) = Sv11.laid (l ++ [x]) w := by
  rw [laid_snoc, Nat.shiftLeft_eq, Nat.mul_comm x, Nat.or_comm, ← Nat.two_pow_add_eq_or_of_lt (laid_lt w l h), Nat.add_comm]
theorem laid_cons (w a : Nat) (l : List Nat) : Sv11.laid (a :: l) w = a + 2 ^ w * Sv11.laid l w := rfl
theorem ofLittles_laid (l : List Nat) : Sv11.ofLittles l = Sv11.laid l 8 := rfl
/-- the field at i of a laid list -/
theorem laid_get (w : Nat) : ∀ (l : List Nat) (i : Nat), (∀ x ∈ l, x < 2 ^ w) → Sv11.laid l w / 2 ^ (w * i) % 2 ^ w = l.getD i 0
  | [], i, _ => by
    show 0 / 2 ^ (w * i) % 2 ^ w = 0
    rw [Nat.zero_div, Nat.zero_mod]
  | a :: l, 0, h => by
    have ha := h a (List.mem_cons_self ..)
    show (a + 2 ^ w * Sv11.laid l w) / 2 ^ (w * 0) % 2 ^ w = a
    rw [Nat.mul_zero, Nat.pow_zero, Nat.div_one, Nat.add_mul_mod_self_left, Nat.mod_eq_of_lt ha]
  | a :: l, i + 1, h => by
    have ha := h a (List.mem_cons_self ..)
    have ih := laid_get w l i fun x hx => h x (List.mem_cons_of_mem _ hx)
    show (a + 2 ^ w * Sv11.laid l w) / 2 ^ (w * (i + 1)) % 2 ^ w = l.getD i 0
    rw [Nat.mul_succ, Nat.add_comm (w * i) w, Nat.pow_add, ← Nat.div_div_eq_div_mul, Nat.add_mul_div_left _ _ (Nat.two_pow_pos w), Nat.div_eq_of_lt ha, Nat.zero_add, ih]
/-- groups: one key more -/
def gAdd (ks vs : List Nat) (g : Nat) : Nat := (((ks.zip vs).filter fun x => x.1 == g).map fun x => x.2).sum
theorem grouped_eq (s ks vs : List Nat) : Sv11.grouped s ks vs = (List.range s.length).map fun g => (s.getD g 0 + gAdd ks vs g) % 2 ^ 32 := rfl
theorem gAdd_snoc {ks vs : List Nat} (h : ks.length = vs.length) (k v g : Nat) : gAdd (ks ++ [k]) (vs ++ [v]) g = gAdd ks vs g + (if k = g then v else 0) := by
  unfold gAdd
  rw [List.zip_append h, List.filter_append, List.map_append, List.sum_append]
  congr 1
  show (List.map (fun x => x.2) (List.filter (fun x => x.1 == g) [(k, v)])).sum = _
  rw [List.filter_cons]
  by_cases e : k = g
  · subst e
    simp
  · rw [if_neg e]
    have : ¬ ((k == g) = true) := by rw [beq_iff_eq]; exact e
    rw [if_neg this]
    rfl
theorem grouped_len (s ks vs : List Nat) : (Sv11.grouped s ks vs).length = s.length := by
  rw [grouped_eq, List.length_map, List.length_range]
theorem grouped_get {s ks vs : List Nat} {g : Nat} (h : g < s.length) : (Sv11.grouped s ks vs)[g]? = some ((s.getD g 0 + gAdd ks vs g) % 2 ^ 32) := by
  rw [grouped_eq, List.getElem?_map, List.getElem?_range h]
  rfl
theorem grouped_nil {s : List Nat} (h : ∀ k ∈ s, k < 2 ^ 32) : Sv11.grouped s [] [] = s := by
  apply List.ext_getElem?
  intro i
  by_cases hi : i < s.length
  · rw [grouped_get hi, List.getElem?_eq_getElem hi]
    have e : s.getD i 0 = s[i] := by
      rw [List.getD_eq_getElem?_getD, List.getElem?_eq_getElem hi]; rfl
    show some ((s.getD i 0 + 0) % 2 ^ 32) = _
    rw [Nat.add_zero, e, Nat.mod_eq_of_lt (h _ (List.getElem_mem hi))]
  · rw [List.getElem?_eq_none (by rw [grouped_len]; omega), List.getElem?_eq_none (by omega)]
/-- a key below: its sum is set -/
theorem grouped_set {s ks vs : List Nat} (h : ks.length = vs.length) {k : Nat} (hk : k < s.length) (v : Nat) :
    Sv11.grouped s (ks ++ [k]) (vs ++ [v]) = (Sv11.grouped s ks vs).set k (((Sv11.grouped s ks vs).getD k 0 + v) % 2 ^ 32) := by
  have hg : (Sv11.grouped s ks vs).getD k 0 = (s.getD k 0 + gAdd ks vs k) % 2 ^ 32 := by
    rw [List.getD_eq_getElem?_getD, grouped_get hk]; rfl
  apply List.ext_getElem?
  intro i
  by_cases hi : i < s.length
  · rw [grouped_get hi, gAdd_snoc h]
    by_cases e : k = i
    · subst e
      rw [List.getElem?_set_self (by rw [grouped_len]; exact hk), hg, if_pos rfl, Nat.mod_add_mod, Nat.add_assoc]
    · rw [if_neg e, List.getElem?_set_ne e, grouped_get hi, Nat.add_zero]
  · rw [List.getElem?_eq_none (by rw [grouped_len]; omega), List.getElem?_eq_none (by rw [List.length_set, grouped_len]; omega)]
/-- a key above: nothing changes -/
theorem grouped_over {s ks vs : List Nat} (h : ks.length = vs.length) {k : Nat} (hk : s.length ≤ k) (v : Nat) : Sv11.grouped s (ks ++ [k]) (vs ++ [v]) = Sv11.grouped s ks vs := by
  rw [grouped_eq, grouped_eq]
  refine List.map_congr_left fun g hg => ?_
  have := List.mem_range.mp hg
  rw [gAdd_snoc h, if_neg (by omega), Nat.add_zero]
/-- ascending: place by place -/
theorem ascends_iff (l : List Nat) : Sv11.ascends l = true ↔ ∀ i, i + 1 < l.length → l.getD i 0 < l.getD (i + 1) 0 := by
  unfold Sv11.ascends
  rw [List.all_eq_true]
  refine ⟨fun h i hi => ?_, fun h x hx => ?_⟩
  · have e : (l.zip (l.drop 1))[i]? = some (l.getD i 0, l.getD (i + 1) 0) := by
      rw [List.getElem?_zip_eq_some]
      refine ⟨?_, ?_⟩
      · show l[i]? = some (l.getD i 0)
        rw [List.getD_eq_getElem?_getD, List.getElem?_eq_getElem (by omega)]; rfl
      · show (l.drop 1)[i]? = some (l.getD (i + 1) 0)
        rw [List.getElem?_drop, Nat.add_comm 1 i, List.getD_eq_getElem?_getD, List.getElem?_eq_getElem hi]; rfl
    exact of_decide_eq_true (h _ (List.mem_of_getElem? e))
  · obtain ⟨i, hi, e⟩ := List.mem_iff_getElem.mp hx
    rw [List.length_zip, List.length_drop] at hi
    rw [List.getElem_zip, List.getElem_drop] at e
    have := h i (by omega)
    rw [List.getD_eq_getElem?_getD, List.getD_eq_getElem?_getD, List.getElem?_eq_getElem (by omega), List.getElem?_eq_getElem (show i + 1 < l.length by omega)] at this
    refine decide_eq_true ?_
    rw [← e]
    have hc : l[1 + i]'(by omega) = l[i + 1]'(by omega) := getElem_congr_idx (Nat.add_comm 1 i)
    show l[i]'(by omega) < l[1 + i]'(by omega)
    rw [hc]
    exact this
end My
namespace My
open PySem PySem.Spec PyProof.Rows L2
def topS (i : Nat) : Stmt := PySem.Challenge.pw_sixteenwordsdesk_s20_meet.main.body.getD i (.Pass ⟨0, 0, 0, 0⟩)
abbrev s_is_ascending : Stmt := topS 2
abbrev s_meet : Stmt := topS 3
structure Txt (K : PySem.W.Frag) (mg : Str → Option Value) : Prop where
  c_MOST_WORDS : ∃ t, mg "MOST_WORDS" = some (.int 65536 t)
  n_all : mg "all" = none
  n_len : mg "len" = none
  n_range : mg "range" = none
section
variable {P : Program} {w : World} {K : PySem.W.Frag} {mg : Str → Option Value} {base : Heap}
/-! ### is_ascending -/
theorem sc_is_ascending : FnScope ["words", "i"] ["words"] (defScope s_is_ascending) := ⟨rfl, rfl, rfl, by decide +kernel, rfl, by decide +kernel, by decide +kernel⟩
abbrev rnLt : V → V → Hp → VK → Prop := fun x y H Q => ∃ n m : Nat, x = nI n ∧ y = nI m ∧ Q (.bl (decide (n < m))) H
theorem asc_all (l : List Nat) : ((List.range (l.length - 1)).map fun i => decide (l.getD (1 + i - 1) 0 < l.getD (1 + i) 0)).all id = Sv11.ascends l := by
  rw [Bool.eq_iff_iff, ascends_iff, List.all_map, List.all_eq_true]
  refine ⟨fun h i hi => ?_, fun h i hi => ?_⟩
  · have h := of_decide_eq_true (h i (List.mem_range.mpr (by omega)))
    rw [Nat.add_sub_cancel_left, Nat.add_comm 1 i] at h
    exact h
  · have hi := List.mem_range.mp hi
    have h := h i (by omega)
    refine decide_eq_true ?_
    rw [Nat.add_sub_cancel_left, Nat.add_comm 1 i]
    exact h
def sp_is_ascending (K : PySem.W.Frag) : Sp := fun vs H Q _ => ∃ (a : Addr) (l : List Nat), vs = [.ref a] ∧ SqL K H a (nv l) ∧ l.length ≤ 500 ∧ ∀ H', Same H H' → Q (.bl (Sv11.ascends l)) H'
theorem ok_is_ascending {f : Addr} {fd : FuncData} (T : Txt K mg) (F : Fun K "is_ascending" "is_ascending" s_is_ascending f fd) : FnOk P w K mg base CX0 1 f fd ["words"] (sp_is_ascending K) := by
  refine F.ok sc_is_ascending (fun vs H Q E h => ?_) (fun cdv A outer s H vs Q E hr h => ?_)
  · obtain ⟨a, l, rfl, _⟩ := h
    rfl
  · obtain ⟨a, l, rfl, hS, hl, q⟩ := h
    refine ⟨_, pss_one (ps_ret (pe_callB (cr_all rfl) (by rfl) T.n_all (by decide +kernel) (pa_cons (pe_lc (own := [("i", 1)]) (g := gName 1) (tt := tYes)
          (te := tOp rnLt (tOp (rIxL K) (tVar 0) (tOp rnSub (tVar 1) (tC (V.int 1)))) (tOp (rIxL K) (tVar 0) (tVar 1))) (by rfl) sc_is_ascending.nd
          (pi_range2 (by rfl) T.n_range (pa_cons pe_int (pa_cons (pe_callB call_len_seq (by rfl) T.n_len PySem.boot_len (pa_cons (pv 0) pa_nil)) pa_nil)))
          (blkOk_by (own := [("i", 1)]) (N := ["words", "i"]) (sc := defScope s_is_ascending) (by decide +kernel))
          (fun _ _ _ _ _ => pg_name (i := 1) sc_is_ascending.nd rfl (Or.inl rfl)) (fun _ _ _ _ _ => pts_nil)
          (fun _ _ _ _ _ => pe_cmpR on_lt (pe_ix ix_list (pv 0) (pe_op on_sub (pv 1) pe_int) (fun _ _ => rfl)) (pe_ix ix_list (pv 0) (pv 1) (fun _ _ => rfl)) (nomark _))) pa_nil))), ?_⟩
    have hz : ((((nv l).length : Nat) : Int) - 1).toNat = l.length - 1 := by rw [nv_length]; omega
    have hz2 : (nv l).length = l.length := nv_length l
    refine ⟨.ref a, rfl, a, nv l, rfl, .inl hS, (1 : Int), (((nv l).length : Nat) : Int), rfl, ⟨by omega, by omega, by omega, by omega⟩, fun D hD => ?_⟩
    refine lcMapF 1 (fun i => V.bl (decide (l.getD (1 + i - 1) 0 < l.getD (1 + i) 0))) _ (by omega) hD ?_ ?_
    · intro i H' hi sm Q' hq
      refine ⟨.ref a, rfl, _, rfl, 1 + i, 1, rfl, rfl, by omega, a, nv l, _, nI (l.getD (1 + i - 1) 0), rfl, rfl, sm.seq hS, at_nv (get_D (by omega)), ?_⟩
      refine ⟨.ref a, rfl, _, rfl, a, nv l, _, nI (l.getD (1 + i) 0), rfl, rfl, sm.seq hS, at_nv (get_D (by omega)), ?_⟩
      exact ⟨_, _, rfl, rfl, hq _ (same_refl _)⟩
    · intro H3 s3 e3
      rw [hz] at e3
      refine ⟨D, (List.range (l.length - 1)).map fun i => decide (l.getD (1 + i - 1) 0 < l.getD (1 + i) 0), rfl, SqL.of ?_, ?_⟩
      · rw [e3, List.map_map]
        rfl
      · rw [asc_all]
        exact q H3 s3
/-! ### meet -/
theorem sc_meet : FnScope ["n", "k", "a", "b", "known", "word", "common"] ["n", "k", "a", "b"] (defScope s_meet) := ⟨rfl, rfl, rfl, by decide +kernel, rfl, by decide +kernel, by decide +kernel⟩
def metM (x y : List Nat) : List Nat := x.filter fun v => y.contains v
def meetM (n k : Nat) (x y : List Nat) : List Int := if 65536 < n ∨ 65536 < k then [-1] else if Sv11.ascends x = false ∨ Sv11.ascends y = false then [-2] else zl ((metM x y).length :: metM x y)
def Knows (l : List Nat) (i : Nat) (kvs : List (Key × V)) : Prop := kvs.length ≤ i ∧ ∀ v : Nat, (valV kvs (Sum.inl (v : Int))).isSome = (l.take i).contains v
theorem knows_put {l : List Nat} {i v : Nat} {kvs : List (Key × V)} (h : l[i]? = some v) (k : Knows l i kvs) : Knows l (i + 1) (putK kvs (Sum.inl (v : Int)) (.bl true)) := by
  obtain ⟨k1, k2⟩ := k
  refine ⟨by have := length_putK kvs (Sum.inl (v : Int)) (V.bl true); omega, fun u => ?_⟩
  rw [valV_put, List.take_add_one, h]
  by_cases e : u = v
  · subst e
    rw [if_pos rfl]
    simp
  · have e2 : ¬ ((Sum.inl (u : Int) : Key) = Sum.inl (v : Int)) := fun z => by
      injection z with z
      omega
    rw [if_neg e2, k2]
    simp [e]
def sp_meet (K : PySem.W.Frag) : Sp := fun vs H Q _ => ∃ (n k : Nat) (a b : Addr) (x y : List Nat), vs = [nI n, nI k, .ref a, .ref b] ∧ SqL K H a (nv x) ∧ SqL K H b (nv y) ∧ (x.length ≤ 500 ∧ y.length ≤ 500) ∧ ∀ H' p, H' p = some (.lst ((meetM n k x y).map V.int)) → Q (.ref p) H'
theorem ok_meet {f fA : Addr} {fd fdA : FuncData} (T : Txt K mg) (F : Fun K "meet" "meet" s_meet f fd) (DA : DefAt K mg "is_ascending" s_is_ascending ["words"] fA fdA) : FnOk P w K mg base CX0 2 f fd ["n", "k", "a", "b"] (sp_meet K) := by
  have GA : FnOk P w K mg base CX0 1 fA fdA ["words"] (sp_is_ascending K) := ok_is_ascending T DA.F
  obtain ⟨tM, hM⟩ := T.c_MOST_WORDS
  refine F.ok sc_meet (fun vs H Q E h => ?_) (fun cdv A outer s H vs Q E hr h => ?_)
  · obtain ⟨n, k, a, b, x, y, rfl, _⟩ := h
    rfl
  · obtain ⟨n, k, a, b, x, y, rfl, hA, hB, ⟨l1, l2⟩, q⟩ := h
    have hu := hu_of hr
    refine ⟨_, pss_cons (ps_if (PW.pt (pw_or (pt_cmpR on_gt (pv 0) (pe_glob (v := nI 65536) (by rfl) hM ⟨_, rfl⟩) (nomark _)) (pw_or1 (pt_cmpR on_gt (pv 1) (pe_glob (v := nI 65536) (by rfl) hM ⟨_, rfl⟩) (nomark _)))))
        (pss_one (ps_ret (pe_lst (pa_cons (pe_un un_neg pe_int) pa_nil)))) pss_nil)
      (pss_cons (ps_if (PW.pt (pw_or (pt_not (pt_val (pe_call (E := EN) GA hr (by rfl) DA.g DA.F.kp DA.b .nil pass0 (pa_cons (pv 2) pa_nil)))) (pw_or1 (pt_not (pt_val (pe_call (E := EN) GA hr (by rfl) DA.g DA.F.kp DA.b .nil pass0 (pa_cons (pv 3) pa_nil)))))))
        (pss_one (ps_ret (pe_lst (pa_cons (pe_un un_neg pe_int) pa_nil)))) pss_nil)
      (pss_cons (ps_set (i := 4) sc_meet.nd rfl (.inr rfl) pe_dnewK)
      (pss_cons (ps_for PassesOwn.never rfl (pi_list (pv 3)) (pg_name (i := 5) sc_meet.nd rfl (Or.inl rfl)) (pss_one (ps_dput hu (pv 4) (pv 5) pe_bl rfl)))
      (pss_cons (ps_setLc (i := 6) (own := [("word", 5)]) (g := gName 5) (te := tVar 5) (by rfl) sc_meet.nd rfl rfl (sw_true rfl rfl rfl (by decide +kernel))
        (pi_list (pv 2))
        (blkOk_by (own := [("word", 5)]) (N := ["n", "k", "a", "b", "known", "word", "common"]) (sc := defScope s_meet) (by decide +kernel))
        (fun _ _ _ _ _ => pg_name (i := 5) sc_meet.nd rfl (Or.inl rfl))
        (fun _ _ _ _ _ => pts_one (pt_cmp (pc_din hu (pv 5) (pv 4))))
        (fun _ _ _ _ _ => pv 5))
      (pss_one (ps_ret (pe_op op_cat (pe_lst (pa_cons (pe_callB call_len_seq (by rfl) T.n_len PySem.boot_len (pa_cons (pv 6) pa_nil)) pa_nil)) (pv 6)))))))), ?_⟩
    unfold meetM at q
    refine ⟨_, rfl, n, 65536, rfl, rfl, _, rfl, ?_⟩
    by_cases h1 : 65536 < n
    · refine ifT (decide_eq_true h1) (ifT rfl ?_)
      rw [if_pos (.inl h1)] at q
      exact ⟨1, rfl, by show 1 ≤ sizeLine; decide, fun p np => q _ p upd_same⟩
    refine ifF (by rw [decide_eq_false h1]; decide) ?_
    refine ⟨_, rfl, k, 65536, rfl, rfl, _, rfl, ?_⟩
    by_cases h2 : 65536 < k
    · refine ifT (decide_eq_true h2) ?_
      rw [if_pos (.inr h2)] at q
      exact ⟨1, rfl, by show 1 ≤ sizeLine; decide, fun p np => q _ p upd_same⟩
    refine ifF (by rw [decide_eq_false h2]; decide) ?_
    rw [if_neg (fun z => z.elim h1 h2)] at q
    refine ⟨.ref a, rfl, a, x, rfl, hA, l1, fun H1 s1 => ⟨_, rfl, ?_⟩⟩
    by_cases ax : Sv11.ascends x = false
    · refine ifT (by rw [ax]; rfl) (ifT rfl ?_)
      rw [if_pos (.inl ax)] at q
      exact ⟨2, rfl, by show 1 ≤ sizeLine; decide, fun p np => q _ p upd_same⟩
    refine ifF (by intro z; rw [Bool.not_eq_true'] at z; exact ax z) ?_
    refine ⟨.ref b, rfl, b, y, rfl, s1.seq hB, l2, fun H2 s2 => ⟨_, rfl, ?_⟩⟩
    by_cases ay : Sv11.ascends y = false
    · refine ifT (by rw [ay]; rfl) ?_
      rw [if_pos (.inr ay)] at q
      exact ⟨2, rfl, by show 1 ≤ sizeLine; decide, fun p np => q _ p upd_same⟩
    refine ifF (by intro z; rw [Bool.not_eq_true'] at z; exact ay z) ?_
    rw [if_neg (fun z => z.elim ax ay), zl_int] at q
    have hA2 := (s1.trans s2).seq hA
    have hB2 := (s1.trans s2).seq hB
    intro d hd
    refine ⟨.ref b, rfl, b, rfl, ⟨_, (same_upd hd).seq hB2⟩, ?_⟩
    refine for_list (xs := nv y) (fun i σ H' => ∃ v kvs, σ = [some (nI n), some (nI k), some (.ref a), some (.ref b), some (.ref d), v, none] ∧ Same H2 H' ∧ H' d = some (.dK kvs) ∧ Knows y i kvs)
      ⟨none, [], rfl, same_upd hd, upd_same, Nat.le_refl _, fun v => rfl⟩ (fun i σ H' _ hP => ?_) (fun i u σ H' hu' hP => ?_) (fun σ H' hP => ?_)
    · obtain ⟨v, kvs, _, sm, _⟩ := hP
      exact sm.seq hB2
    · obtain ⟨v, kvs, rfl, sm, ed, kn⟩ := hP
      obtain ⟨z, hz, rfl⟩ := nv_at hu'
      have hi : i < y.length := (List.getElem?_eq_some_iff.mp hz).1
      refine ⟨.ref d, rfl, _, rfl, d, _, rfl, DPut.k (k := Sum.inl (z : Int)) ed (sizeSmall (by have := kn.1; omega)), ?_⟩
      exact ⟨some (nI z), _, rfl, same_put hd sm, upd_same, knows_put hz kn⟩
    · obtain ⟨v, kvs, rfl, sm, ed, kn⟩ := hP
      rw [nv_length] at kn
      have kn : ∀ v : Nat, (valV kvs (Sum.inl (v : Int))).isSome = y.contains v := fun v => by
        have := kn.2 v
        rw [List.take_length] at this
        exact this
      have hA3 := sm.seq hA2
      refine ⟨.ref a, rfl, a, rfl, ⟨_, hA3⟩, fun D hD => ?_⟩
      refine lcFilL x nI (fun v => y.contains v) (by omega) hA3 hD ?_ ?_ ?_
      · intro u H3 hv sm3 Q' hq
        have hq := hq _ (same_refl _)
        rw [← kn u] at hq
        exact ⟨_, rfl, _, rfl, d, _, rfl, DGet.k (k := Sum.inl (u : Int)) (sm3 _ _ ed), _, rfl, hq⟩
      · intro u H3 hv hp sm3 Q' hq
        exact ⟨_, rfl, hq _ (same_refl _)⟩
      · intro H3 s3 e3
        have e3 : H3 D = some (.lst (nv (metM x y))) := e3
        refine ⟨.ref D, rfl, D, nv (metM x y), rfl, .inl (SqL.of e3), ?_⟩
        refine ⟨by show 1 ≤ sizeLine; decide, fun p np => ?_⟩
        have npD : p ≠ D := fun z => by subst z; rw [e3] at np; cases np
        refine ⟨.ref D, rfl, p, D, _, _, rfl, rfl, upd_same, by rw [upd_ne (Ne.symm npD)]; exact e3, ?_, fun p2 np2 => ?_⟩
        · have h1 : (metM x y).length ≤ x.length := List.length_filter_le ..
          rw [nv_length]
          show 1 + (metM x y).length ≤ sizeLine
          exact Nat.le_of_lt (sizeSmall (by omega))
        · refine q _ p2 ?_
          rw [upd_same, nv_length]
          rfl
end
theorem all_mk {P : Program} {w : World} {K : PySem.W.Frag} {h : Heap} {mg : Str → Option Value} {fa f1 f2 : Addr} (X : K.In h) (G : h.Ns mainGlobals mg) (hfa : mg "meet" = some (.ref fa))
    {od1 an1 od2 an2 : Option Addr} {sl1 sl2 : Array (Option Value)} {oc1 kV1 dc1 pm1 cd1 ct1 oc2 kV2 dc2 pm2 cd2 ct2 : Value}
    {t_MOST_WORDS : Tok}
    (a1 : PySem.W.nsIn K mainGlobals "is_ascending" = some (some (.ref f1))) (l1 : K.lookup f1 = some ⟨oc1, od1, .func (PySem.W.fnOf "is_ascending" "is_ascending" (defArgs s_is_ascending) (defBody s_is_ascending) (defScope s_is_ascending) .none kV1 dc1 pm1 an1 cd1 ct1), sl1⟩) (c1 : PySem.W.codeIn K cd1 "is_ascending" = true) (k1 : PySem.W.keepIn K (.ref f1) = true)
    (a2 : PySem.W.nsIn K mainGlobals "meet" = some (some (.ref f2))) (l2 : K.lookup f2 = some ⟨oc2, od2, .func (PySem.W.fnOf "meet" "meet" (defArgs s_meet) (defBody s_meet) (defScope s_meet) .none kV2 dc2 pm2 an2 cd2 ct2), sl2⟩) (c2 : PySem.W.codeIn K cd2 "meet" = true) (k2 : PySem.W.keepIn K (.ref f2) = true)
    (v_MOST_WORDS : PySem.W.nsIn K mainGlobals "MOST_WORDS" = some (some (.int 65536 t_MOST_WORDS)))
    (z_all : PySem.W.nsIn K mainGlobals "all" = some none)
    (z_len : PySem.W.nsIn K mainGlobals "len" = some none)
    (z_range : PySem.W.nsIn K mainGlobals "range" = some none)
    : ∃ fd : FuncData, (∀ (s : Shared) (us : List Value), us.length = (["n", "k", "a", "b"] : List Str).length → BindsTo s fd ⟨us, []⟩ ((["n", "k", "a", "b"] : List Str).zip us)) ∧ ∀ base : Heap, K.In base → base.Ns mainGlobals mg → FnOk P w K mg base CX0 2 fa fd ["n", "k", "a", "b"] (sp_meet K) := by
  have e := hfa.symm.trans (PySem.W.mg_of X G a2)
  cases e
  have T : Txt K mg := ⟨⟨_, PySem.W.mg_of X G v_MOST_WORDS⟩, PySem.W.mg_none_of X G z_all, PySem.W.mg_none_of X G z_len, PySem.W.mg_none_of X G z_range⟩
  have F1 := fun_mk (st := s_is_ascending) l1 c1 k1
  have b1 := F1.binds (ps := ["words"]) fun _ _ _ _ _ _ us hl => match us, hl with | [_], _ => rfl
  have D1 : DefAt K mg "is_ascending" s_is_ascending ["words"] f1 _ := ⟨F1, b1, PySem.W.mg_of X G a1⟩
  have F2 := fun_mk (st := s_meet) l2 c2 k2
  have b2 := F2.binds (ps := ["n", "k", "a", "b"]) fun _ _ _ _ _ _ us hl => match us, hl with | [_, _, _, _], _ => rfl
  exact ⟨PySem.W.fnOf "meet" "meet" (defArgs s_meet) (defBody s_meet) (defScope s_meet) .none kV2 dc2 pm2 an2 cd2 ct2, fun s us hu => match us, hu with | [_, _, _, _], _ => .of_eq rfl, fun base _ _ => ok_meet T F2 D1⟩
theorem spec_meet (n k : Nat) (x y : List Nat) : PySv11.meet (n : Int) (k : Int) (zl x) (zl y) = meetM n k x y := by
  show ansI (Sv11.spec (.meet (Sv11Neutral.n (zl x)) (Sv11Neutral.n (zl y)) (Int.toNat (n : Int)) (Int.toNat (k : Int)))) = _
  rw [zl_back, zl_back, Int.toNat_natCast, Int.toNat_natCast]
  show ansI (if Sv11.row n = false ∨ Sv11.row k = false then Sv11.no else if Sv11.ascends x = false ∨ Sv11.ascends y = false then Sv11.code (-2) [] else Sv11.code (metM x y).length (metM x y)) = _
  unfold meetM
  by_cases h : 65536 < n ∨ 65536 < k
  · rw [if_pos h, if_pos (by rw [row_no, row_no]; exact h)]
    rfl
  · rw [if_neg h, if_neg (by rw [row_no, row_no]; exact h)]
    split <;> rfl
theorem req_meet {K : PySem.W.Frag} {H : Hp} {xs : List V} {a : PySem.W.Codec.denoteAll PySem.Challenge.rw_sixteenwordsdesk_s20_meet.args}
    (hask : PySem.W.Codec.app PySem.Challenge.rw_sixteenwordsdesk_s20_meet.args PySem.Challenge.rw_sixteenwordsdesk_s20_meet.asked a = true) (hx : DwAll K H xs (PySem.W.Codec.encAll PySem.Challenge.rw_sixteenwordsdesk_s20_meet.args a)) :
    sp_meet K xs H (fun v H' => Dw K H' v (PySem.Challenge.rw_sixteenwordsdesk_s20_meet.ret.enc (PySem.W.Codec.app PySem.Challenge.rw_sixteenwordsdesk_s20_meet.args PySem.Challenge.rw_sixteenwordsdesk_s20_meet.f a))) fun _ _ _ => False := by
  obtain ⟨n, k, x, y, u⟩ := a
  have hask : (Sv11Neutral.most n 65536 && (Sv11Neutral.most k 65536 && (Sv11Neutral.many n (decide (n ≤ 65536 ∧ k ≤ 65536)) x && Sv11Neutral.many k (decide (n ≤ 65536 ∧ k ≤ 65536)) y))) = true := hask
  rw [Bool.and_eq_true, Bool.and_eq_true, Bool.and_eq_true] at hask
  obtain ⟨h1, h2, h3, h4⟩ := hask
  obtain ⟨n, rfl, _, hn⟩ := most_nat h1
  obtain ⟨k, rfl, _, hk⟩ := most_nat h2
  obtain ⟨x, rfl, _, m1⟩ := many_nat h3
  obtain ⟨y, rfl, _, m2⟩ := many_nat h4
  have m1 : (x.length : Int) = if decide ((n : Int) ≤ 65536 ∧ (k : Int) ≤ 65536) = true then (n : Int) else (0 : Int) := m1
  have m2 : (y.length : Int) = if decide ((n : Int) ≤ 65536 ∧ (k : Int) ≤ 65536) = true then (k : Int) else (0 : Int) := m2
  have hl : x.length ≤ 500 ∧ y.length ≤ 500 := by
    by_cases c : (n : Int) ≤ 65536 ∧ (k : Int) ≤ 65536
    · rw [if_pos (decide_eq_true c)] at m1 m2
      omega
    · rw [if_neg (by rw [decide_eq_false c]; decide)] at m1 m2
      omega
  have hx : DwAll K H xs [.int (n : Int), .int (k : Int), .list ((zl x).map PySem.W.WData.int), .list ((zl y).map PySem.W.WData.int)] := hx
  obtain ⟨v1, r1, rfl, g1, hx⟩ := dw_cons hx
  obtain ⟨v2, r2, rfl, g2, hx⟩ := dw_cons hx
  obtain ⟨v3, r3, rfl, g3, hx⟩ := dw_cons hx
  obtain ⟨v4, r4, rfl, g4, hx⟩ := dw_cons hx
  cases hx
  cases g1
  cases g2
  obtain ⟨a3, rfl, s3⟩ := dw_row g3
  obtain ⟨a4, rfl, s4⟩ := dw_row g4
  refine ⟨n, k, _, _, x, y, rfl, s3, s4, hl, fun H' p hp => ?_⟩
  show Dw K H' (.ref p) (.list ((PySv11.meet (n : Int) (k : Int) (zl x) (zl y)).map PySem.W.WData.int))
  rw [spec_meet]
  exact dw_iv hp
end My
open PySem PySem.W PyProof.Rows
set_option maxRecDepth 100000 in
set_option maxHeartbeats 8000000 in
theorem PySem.Challenge.cw_sixteenwordsdesk_s20_meet_holds : PySem.Challenge.rw_sixteenwordsdesk_s20_meet.Holds := by
  w_on; k_headS; (case hw => exact ⟨[.int 0, .int 0, .list [], .list []], by decide +kernel, by decide +kernel⟩)
  k_fillS
  refine L2.walk_specK (r := PySem.Challenge.rw_sixteenwordsdesk_s20_meet) (k := 2) (CX := L2.CX0) (ps := ["n", "k", "a", "b"]) (sp := My.sp_meet) (by decide +kernel) rfl rfl ⟨rfl, by decide, by decide⟩ (fun w h Y => PySem.W.kIn_of Y) ?F ?S (fun _ _ _ _ z => z)
  case F =>
    intro w mg fa h Y KX G hmg
    refine' My.all_mk KX G hmg ?a1 ?l1 ?c1 ?k1 ?a2 ?l2 ?c2 ?k2 ?v_MOST_WORDS ?z_all ?z_len ?z_range
    (case a1 => k_is); (case l1 => k_is); (case c1 => k_is); (case k1 => k_is); (case a2 => k_is); (case l2 => k_is); (case c2 => k_is); (case k2 => k_is); (case v_MOST_WORDS => k_is); (case z_all => k_is); (case z_len => k_is); (case z_range => k_is)
  case S =>
    intro K H xs a hO hwi hask hx
    exact My.req_meet hask hx
#print axioms PySem.Challenge.cw_sixteenwordsdesk_s20_meet_holds
