import PyProof.Rows.All
import Wide.All
import OpenK.AllK
import Wide.FinOn
import Open.SpecLaws
import KE.OsGo
import HandS.Base
import HandS.Call
import HandS.List
import HandS.Ends
import HandS.Spec
import HandS.Words
import HandS.WordsList
import HandS.Comp
import HandS.WideBits
import PySem.Challenge.RW_sixteenwordsdesk_s17_masks
set_option Elab.async false
set_option linter.all false
set_option maxRecDepth 100000
set_option maxHeartbeats 1000000
/-! ### words of my own: naturals as Python ints, rows as lists of naturals -/
namespace My
open PySem PySem.Spec PyProof.Rows L2
abbrev nI (n : Nat) : V := V.int (n : Int)
def nv (l : List Nat) : List V := l.map nI
theorem nv_length (l : List Nat) : (nv l).length = l.length := List.length_map ..
theorem nv_append (a b : List Nat) : nv (a ++ b) = nv a ++ nv b := List.map_append ..
theorem nv_get {l : List Nat} {i n : Nat} (h : l[i]? = some n) : (nv l)[i]? = some (nI n) := by
  unfold nv; rw [List.getElem?_map, h]; rfl
theorem at_nv {l : List Nat} {i n : Nat} (h : l[i]? = some n) : atI (nv l) ((i : Nat) : Int) = some (nI n) := atI_nat (nv_get h)
theorem get_D {l : List Nat} {i : Nat} (h : i < l.length) : l[i]? = some (l.getD i 0) := by
  rw [List.getD_eq_getElem?_getD, List.getElem?_eq_getElem h]; rfl
theorem same_upd {H : Hp} {p : Addr} {o : HO} (h : H p = none) : Same H (upd H p o) := fun b x e => by
  rw [upd_ne (ne_of_none e h)]
  exact e
theorem same_refl (H : Hp) : Same H H := fun _ _ e => e
/-- what was there before p was made stands behind a store at p -/
theorem same_put {H H' : Hp} {p : Addr} {o : HO} (h : H p = none) (s : Same H H') : Same H (upd H' p o) := fun b x e => by
  rw [upd_ne (ne_of_none e h)]
  exact s b x e
theorem ne_made {H H' : Hp} {p q : Addr} {o : HO} (h : H p = some o) (s : Same H H') (hq : H' q = none) : q ≠ p := fun e => by
  subst e
  rw [s _ _ h] at hq
  cases hq
theorem sizeSmall {n : Nat} (h : n ≤ 100000) : n < sizeLine := Nat.lt_of_le_of_lt h (by decide)
section
variable {X : Cx}
theorem pow_castI (k : Nat) : ((2 ^ k : Nat) : Int) = (2 : Int) ^ k := PySem.W.kbt_cast k
theorem on_shr : OpR X (binaryOp .RShift) (fun x y H Q => ∃ n k : Nat, x = nI n ∧ y = nI k ∧ Q (nI (n >>> k)) H) := by
  intro pins s σ H x y v u Q I rx ry h
  obtain ⟨n, k, rfl, rfl, q⟩ := h
  refine op_shrN pins s σ H _ _ v u Q I rx ry ⟨_, k, rfl, rfl, ?_⟩
  rw [Nat.shiftRight_eq_div_pow] at q
  have e : ((n / 2 ^ k : Nat) : Int) = (n : Int) / 2 ^ k := by rw [Int.natCast_ediv, pow_castI]
  rw [← e]
  exact q
theorem on_shl : OpR X (binaryOp .LShift) (fun x y H Q => ∃ n k b : Nat, x = nI n ∧ y = nI k ∧ (n < 2 ^ b ∧ b + k ≤ 134217728) ∧ Q (nI (n <<< k)) H) := by
  intro pins s σ H x y v u Q I rx ry h
  obtain ⟨n, k, b, rfl, rfl, ⟨hb, hk⟩, q⟩ := h
  refine op_shlN pins s σ H _ _ v u Q I rx ry ⟨_, k, rfl, rfl, shl_ok (n := b) (by simpa using hb) hk, ?_⟩
  rw [Nat.shiftLeft_eq] at q
  have e : ((n * 2 ^ k : Nat) : Int) = (n : Int) * 2 ^ k := by rw [Int.natCast_mul, pow_castI]
  rw [← e]
  exact q
theorem on_and : OpR X (binaryOp .BitAnd) (fun x y H Q => ∃ n m : Nat, x = nI n ∧ y = nI m ∧ Q (nI (n &&& m)) H) := by
  intro pins s σ H x y v u Q I rx ry h
  obtain ⟨n, m, rfl, rfl, q⟩ := h
  refine op_and pins s σ H _ _ v u Q I rx ry ⟨_, _, rfl, rfl, ?_⟩
  show Q (V.int (Builtin.bitAnd (n : Int) (m : Int))) H
  rw [bitAnd_pp (Int.natCast_nonneg _) (Int.natCast_nonneg _), Int.toNat_natCast, Int.toNat_natCast]
  exact q
theorem on_or : OpR X (binaryOp .BitOr) (fun x y H Q => ∃ n m : Nat, x = nI n ∧ y = nI m ∧ Q (nI (n ||| m)) H) := by
  intro pins s σ H x y v u Q I rx ry h
  obtain ⟨n, m, rfl, rfl, q⟩ := h
  refine op_or pins s σ H _ _ v u Q I rx ry ⟨_, _, rfl, rfl, ?_⟩
  show Q (V.int (Builtin.bitOr (n : Int) (m : Int))) H
  rw [bitOr_nn (Int.natCast_nonneg _) (Int.natCast_nonneg _), Int.toNat_natCast, Int.toNat_natCast]
  exact q
theorem on_add : OpR X (binaryOp .Add) (fun x y H Q => ∃ n m : Nat, x = nI n ∧ y = nI m ∧ Q (nI (n + m)) H) := op_addN
theorem on_sub : OpR X (binaryOp .Sub) (fun x y H Q => ∃ n m : Nat, x = nI n ∧ y = nI m ∧ m ≤ n ∧ Q (nI (n - m)) H) := op_subN
theorem on_mul : OpR X (binaryOp .Mult) (fun x y H Q => ∃ n m : Nat, x = nI n ∧ y = nI m ∧ n ≤ 4294967296 ∧ Q (nI (n * m)) H) := op_mulN
theorem on_fdiv : OpR X (binaryOp .FloorDiv) (fun x y H Q => ∃ n m : Nat, x = nI n ∧ y = nI m ∧ (1 ≤ m ∧ m < 1073741824) ∧ Q (nI (n / m)) H) := op_fdivNN
theorem on_mod : OpR X (binaryOp .Mod) (fun x y H Q => ∃ n m : Nat, x = nI n ∧ y = nI m ∧ 1 ≤ m ∧ Q (nI (n % m)) H) := by
  intro pins s σ H x y v u Q I rx ry h
  obtain ⟨n, m, rfl, rfl, c, q⟩ := h
  refine op_mod pins s σ H _ _ v u Q I rx ry ⟨_, _, rfl, rfl, show (0 : Int) < (m : Int) by omega, ?_⟩
  have e : ((n % m : Nat) : Int) = (n : Int) % (m : Int) := Int.natCast_emod ..
  show Q (V.int ((n : Int) % (m : Int))) H
  rw [← e]
  exact q
theorem on_eq : OpR X (compareOp .Eq) (fun x y H Q => ∃ n m : Nat, x = nI n ∧ y = nI m ∧ Q (.bl (decide (n = m))) H) := by
  intro pins s σ H x y v u Q I rx ry h
  obtain ⟨n, m, rfl, rfl, q⟩ := h
  refine op_eq pins s σ H _ _ v u Q I rx ry ⟨rfl, ?_⟩
  have e : decide (nI n = nI m) = decide (n = m) := by
    by_cases h : n = m
    · rw [h]; simp
    · rw [decide_eq_false h, decide_eq_false]
      intro z
      injection z with z
      exact h (by omega)
  rw [e]
  exact q
theorem oi_eq : OpR X (compareOp .Eq) (fun x y H Q => ∃ i j : Int, x = .int i ∧ y = .int j ∧ Q (.bl (decide (i = j))) H) := by
  intro pins s σ H x y v u Q I rx ry h
  obtain ⟨n, m, rfl, rfl, q⟩ := h
  refine op_eq pins s σ H _ _ v u Q I rx ry ⟨rfl, ?_⟩
  have e : decide (V.int n = V.int m) = decide (n = m) := by
    by_cases h : n = m
    · rw [h]; simp
    · rw [decide_eq_false h, decide_eq_false]
      intro z
      injection z with z
      exact h z
  rw [e]
  exact q
theorem oi_ne : OpR X (compareOp .NotEq) (fun x y H Q => ∃ i j : Int, x = .int i ∧ y = .int j ∧ Q (.bl (!decide (i = j))) H) := by
  intro pins s σ H x y v u Q I rx ry h
  obtain ⟨n, m, rfl, rfl, q⟩ := h
  refine op_ne pins s σ H _ _ v u Q I rx ry ⟨rfl, ?_⟩
  have e : decide (V.int n = V.int m) = decide (n = m) := by
    by_cases h : n = m
    · rw [h]; simp
    · rw [decide_eq_false h, decide_eq_false]
      intro z
      injection z with z
      exact h z
  have e2 : decide (V.int n ≠ V.int m) = !decide (n = m) := by rw [← e, decide_not]
  first
    | (rw [e2]; exact q)
    | (rw [e]; exact q)
end
abbrev EN : XK := fun _ _ _ => False
/-- what a call finds: the def stands at f, bound by its name -/
structure DefAt (K : PySem.W.Frag) (mg : Str → Option Value) (nm : Str) (st : Stmt) (ps : List Str) (f : Addr) (fd : FuncData) : Prop where
  F : Fun K nm nm st f fd
  b : Binds K fd ps []
  g : mg nm = some (.ref f)
theorem tYes_of {σ : L2.St} {H : Hp} {Q : Bool → Hp → Prop} (h : Q true H) : tYes σ H Q := h
theorem ifT {c : Bool} {a b : Prop} (hc : c = true) (h : a) : (if c = true then a else b) := by rw [if_pos hc]; exact h
theorem ifF {c : Bool} {a b : Prop} (hc : ¬ c = true) (h : b) : (if c = true then a else b) := by rw [if_neg hc]; exact h
theorem wipe_in {σ : L2.St} {j : Nat} {v : Option V} : wipe ((wipe σ [j]).set j v) [j] = wipe σ [j] := by
  show ((σ.set j none).set j v).set j none = σ.set j none
  rw [List.set_set, List.set_set]
/-- [e for i in range(n)], the element a value by the place; what stood stands -/
theorem lcMap {te : TE} {j : Nat} {σ : L2.St} {H1 : Hp} {D : Addr} {Qd : Hp → Prop} (f : Nat → V) (n : Nat) (hn : n ≤ 100000) (hD : H1 D = none)
    (hs : ∀ i H, i < n → Same H1 H → ∀ Q : VK, (∀ H', Same H H' → Q (f i) H') → te ((wipe σ [j]).set j (some (nI i))) H Q)
    (hd : ∀ H3, Same H1 H3 → H3 D = some (.lst ((List.range n).map f)) → Qd H3) :
    ∃ W : Nat → Nat → Hp → Prop, (∃ m, W 0 m (upd H1 D (.lst []))) ∧ ∀ i m H, W i m H →
      ((Itr 0 n).stop i H ∧ Qd H) ∨ ((Itr 0 n).go i H ∧ ∃ Nx : Hp → Prop, (∀ H', Nx H' → ∃ m', m' < m ∧ W (i + 1) m' H') ∧ ∀ x H', (Itr 0 n).yld i H x H' → gName j x (wipe σ [j]) H' fun σ2 H2 => wipe σ2 [j] = wipe σ [j] ∧ tYes σ2 H2 fun b H3 =>
        if b = true then te σ2 H3 fun y H4 => ∃ acc, H4 D = some (.lst acc) ∧ acc.length < sizeLine ∧ Nx (upd H4 D (.lst (acc ++ [y]))) else Nx H3) := by
  refine lc_range (fun i H => Same H1 H ∧ H D = some (.lst ((List.range i).map f))) ⟨same_upd hD, upd_same⟩ (fun i H hi ⟨s, e⟩ => ?_) (fun H ⟨s, e⟩ => hd H s e)
  rw [Int.zero_add]
  refine ⟨wipe_in, ?_⟩
  refine tYes_of (ifT rfl ?_)
  refine hs i H hi s _ fun H' s' => ⟨_, s' _ _ e, ?_, ?_, ?_⟩
  · rw [List.length_map, List.length_range]
    exact sizeSmall (by omega)
  · exact same_put hD fun b o z => s' _ _ (s _ _ z)
  · rw [upd_same, List.range_succ, List.map_append]
    rfl
/-- [e for v in xs], xs a list of naturals -/
theorem lcMapL {K : PySem.W.Frag} {a : Addr} {te : TE} {j : Nat} {σ : L2.St} {H1 : Hp} {D : Addr} {Qd : Hp → Prop} (l : List Nat) (f : Nat → V) (hn : l.length ≤ 100000) (hS : SqL K H1 a (nv l)) (hD : H1 D = none)
    (hs : ∀ v H, v ∈ l → Same H1 H → ∀ Q : VK, (∀ H', Same H H' → Q (f v) H') → te ((wipe σ [j]).set j (some (nI v))) H Q)
    (hd : ∀ H3, Same H1 H3 → H3 D = some (.lst (l.map f)) → Qd H3) :
    ∃ W : Nat → Nat → Hp → Prop, (∃ m, W 0 m (upd H1 D (.lst []))) ∧ ∀ i m H, W i m H →
      ((Itl K a).stop i H ∧ Qd H) ∨ ((Itl K a).go i H ∧ ∃ Nx : Hp → Prop, (∀ H', Nx H' → ∃ m', m' < m ∧ W (i + 1) m' H') ∧ ∀ x H', (Itl K a).yld i H x H' → gName j x (wipe σ [j]) H' fun σ2 H2 => wipe σ2 [j] = wipe σ [j] ∧ tYes σ2 H2 fun b H3 =>
        if b = true then te σ2 H3 fun y H4 => ∃ acc, H4 D = some (.lst acc) ∧ acc.length < sizeLine ∧ Nx (upd H4 D (.lst (acc ++ [y]))) else Nx H3) := by
  refine lc_list (xs := nv l) (fun i H => Same H1 H ∧ H D = some (.lst ((l.take i).map f))) ⟨same_upd hD, upd_same⟩ (fun i H _ ⟨s, _⟩ => s.seq hS) (fun i x H hx ⟨s, e⟩ => ?_) (fun H ⟨s, e⟩ => hd H s ?_)
  · obtain ⟨v, hv, rfl⟩ : ∃ v, l[i]? = some v ∧ x = nI v := by
      unfold nv at hx
      rw [List.getElem?_map] at hx
      cases e : l[i]? with
      | none => rw [e] at hx; cases hx
      | some v => rw [e] at hx; exact ⟨v, rfl, (Option.some.inj hx).symm⟩
    refine ⟨wipe_in, ?_⟩
    refine tYes_of (ifT rfl ?_)
    refine hs v H (List.mem_of_getElem? hv) s _ fun H' s' => ⟨_, s' _ _ e, ?_, ?_, ?_⟩
    · rw [List.length_map, List.length_take]
      exact sizeSmall (by omega)
    · exact same_put hD fun b o z => s' _ _ (s _ _ z)
    · rw [upd_same, List.take_add_one, hv, List.map_append]
      rfl
  · rw [nv_length, List.take_length] at e
    exact e
theorem range_get {α : Type} {f : Nat → α} {n i : Nat} (h : i < n) : ((List.range n).map f)[i]? = some (f i) := by
  rw [List.getElem?_map, List.getElem?_range h]
  rfl
theorem map_nI (f : Nat → Nat) (l : List Nat) : l.map (fun i => nI (f i)) = nv (l.map f) := by
  unfold nv
  rw [List.map_map]
  rfl
theorem at_nvr {f : Nat → Nat} {n i : Nat} (h : i < n) : atI (nv ((List.range n).map f)) (i : Int) = some (nI (f i)) := at_nv (range_get h)
/-- [e for i in range(n) if t] -/
theorem lcFil {tt : TT} {te : TE} {j : Nat} {σ : L2.St} {H1 : Hp} {D : Addr} {Qd : Hp → Prop} (f : Nat → V) (p : Nat → Bool) (n : Nat) (hn : n ≤ 100000) (hD : H1 D = none)
    (ht : ∀ i H, i < n → Same H1 H → ∀ Q : Bool → Hp → Prop, (∀ H', Same H H' → Q (p i) H') → tt ((wipe σ [j]).set j (some (nI i))) H Q)
    (hs : ∀ i H, i < n → p i = true → Same H1 H → ∀ Q : VK, (∀ H', Same H H' → Q (f i) H') → te ((wipe σ [j]).set j (some (nI i))) H Q)
    (hd : ∀ H3, Same H1 H3 → H3 D = some (.lst (((List.range n).filter p).map f)) → Qd H3) :
    ∃ W : Nat → Nat → Hp → Prop, (∃ m, W 0 m (upd H1 D (.lst []))) ∧ ∀ i m H, W i m H →
      ((Itr 0 n).stop i H ∧ Qd H) ∨ ((Itr 0 n).go i H ∧ ∃ Nx : Hp → Prop, (∀ H', Nx H' → ∃ m', m' < m ∧ W (i + 1) m' H') ∧ ∀ x H', (Itr 0 n).yld i H x H' → gName j x (wipe σ [j]) H' fun σ2 H2 => wipe σ2 [j] = wipe σ [j] ∧ tt σ2 H2 fun b H3 =>
        if b = true then te σ2 H3 fun y H4 => ∃ acc, H4 D = some (.lst acc) ∧ acc.length < sizeLine ∧ Nx (upd H4 D (.lst (acc ++ [y]))) else Nx H3) := by
  refine lc_range (fun i H => Same H1 H ∧ H D = some (.lst (((List.range i).filter p).map f))) ⟨same_upd hD, upd_same⟩ (fun i H hi ⟨s, e⟩ => ?_) (fun H ⟨s, e⟩ => hd H s e)
  rw [Int.zero_add]
  refine ⟨wipe_in, ?_⟩
  refine ht i H hi s _ fun H' s' => ?_
  have sH : Same H1 H' := fun b o z => s' _ _ (s _ _ z)
  have ef : (List.range (i + 1)).filter p = (List.range i).filter p ++ (if p i = true then [i] else []) := by
    rw [List.range_succ, List.filter_append]
    cases hp : p i <;> simp [hp]
  by_cases hp : p i = true
  · rw [if_pos hp]
    refine hs i H' hi hp sH _ fun H2 s2 => ⟨_, s2 _ _ (s' _ _ e), ?_, ?_, ?_⟩
    · have h1 := List.length_filter_le p (List.range i)
      rw [List.length_range] at h1
      rw [List.length_map]
      exact sizeSmall (by omega)
    · exact same_put hD fun b o z => s2 _ _ (sH _ _ z)
    · rw [upd_same, ef, if_pos hp, List.map_append]
      rfl
  · rw [if_neg hp]
    refine ⟨sH, ?_⟩
    rw [ef, if_neg hp, List.append_nil]
    exact s' _ _ e
end My
/-! ### more operations: lists that may be the caller's own, comparisons, xor -/
namespace My
open PySem PySem.Spec PyProof.Rows L2
section
variable {X : Cx}
def rCatS (K : PySem.W.Frag) : V → V → Hp → VK → Prop := fun x y H Q => ∃ l b xs zs, x = .ref l ∧ y = .ref b ∧ SqL K H l xs ∧ SqL K H b zs ∧ xs.length + zs.length ≤ sizeLine ∧ ∀ p, H p = none → Q (.ref p) (upd H p (.lst (xs ++ zs)))
theorem op_catS : OpR X (binaryOp .Add) (rCatS X.K) := by
  intro pins s σ H x y v u Q I rx ry h
  obtain ⟨l, b, xs, zs, rfl, rfl, hH, hB, hz, q⟩ := h
  cases rx
  cases ry
  obtain ⟨its, r, ⟨⟨cls, dd, data, sl⟩, n, ho, hc, hd0, hd⟩, z⟩ := I.list hH
  obtain ⟨its2, r2, ⟨⟨cls2, dd2, data2, sl2⟩, n2, ho2, hc2, hd02, hd2⟩, z2⟩ := I.list hB
  simp only at hc hd hc2 hd2
  subst hc hd hc2 hd2
  have hl := r.length
  have hl2 := r2.length
  refine concat_meets ⟨_, ho, rfl⟩ ⟨_, ho2, rfl⟩ noFill_list_add seq_list_add PySem.F.slot_list_add PySem.F.entry_list_add (PySem.F.args_list_add_2 _ _) (list_addW l b its.toArray its2.toArray n n2 dd dd2 sl sl2 (by rw [List.size_toArray, List.size_toArray]; omega)) ⟨ho, ho2, ?_⟩
  have ea : its.toArray ++ its2.toArray = (its ++ its2).toArray := by simp
  rw [ea]
  exact ⟨.ref _, _, I.lnew (t' := s.toks) (r.append r2) (by rw [List.length_append]; omega), rfl, q _ I.fresh⟩
theorem on_lt : OpR X (compareOp .Lt) (fun x y H Q => ∃ n m : Nat, x = nI n ∧ y = nI m ∧ Q (.bl (decide (n < m))) H) := by
  intro pins s σ H x y v u Q I rx ry h
  obtain ⟨n, m, rfl, rfl, q⟩ := h
  have e : decide ((n : Int) < (m : Int)) = decide (n < m) := decide_eq_decide.mpr (by omega)
  refine op_lt pins s σ H _ _ v u Q I rx ry ⟨_, _, rfl, rfl, ?_⟩
  show Q (.bl (decide ((n : Int) < (m : Int)))) H
  rw [e]; exact q
theorem on_le : OpR X (compareOp .LtE) (fun x y H Q => ∃ n m : Nat, x = nI n ∧ y = nI m ∧ Q (.bl (decide (n ≤ m))) H) := by
  intro pins s σ H x y v u Q I rx ry h
  obtain ⟨n, m, rfl, rfl, q⟩ := h
  have e : decide ((n : Int) ≤ (m : Int)) = decide (n ≤ m) := decide_eq_decide.mpr (by omega)
  refine op_le pins s σ H _ _ v u Q I rx ry ⟨_, _, rfl, rfl, ?_⟩
  show Q (.bl (decide ((n : Int) ≤ (m : Int)))) H
  rw [e]; exact q
theorem on_gt : OpR X (compareOp .Gt) (fun x y H Q => ∃ n m : Nat, x = nI n ∧ y = nI m ∧ Q (.bl (decide (m < n))) H) := by
  intro pins s σ H x y v u Q I rx ry h
  obtain ⟨n, m, rfl, rfl, q⟩ := h
  have e : decide ((m : Int) < (n : Int)) = decide (m < n) := decide_eq_decide.mpr (by omega)
  refine op_gt pins s σ H _ _ v u Q I rx ry ⟨_, _, rfl, rfl, ?_⟩
  show Q (.bl (decide ((m : Int) < (n : Int)))) H
  rw [e]; exact q
theorem on_ge : OpR X (compareOp .GtE) (fun x y H Q => ∃ n m : Nat, x = nI n ∧ y = nI m ∧ Q (.bl (decide (m ≤ n))) H) := by
  intro pins s σ H x y v u Q I rx ry h
  obtain ⟨n, m, rfl, rfl, q⟩ := h
  have e : decide ((m : Int) ≤ (n : Int)) = decide (m ≤ n) := decide_eq_decide.mpr (by omega)
  refine op_ge pins s σ H _ _ v u Q I rx ry ⟨_, _, rfl, rfl, ?_⟩
  show Q (.bl (decide ((m : Int) ≤ (n : Int)))) H
  rw [e]; exact q
theorem on_ne : OpR X (compareOp .NotEq) (fun x y H Q => ∃ n m : Nat, x = nI n ∧ y = nI m ∧ Q (.bl (!decide (n = m))) H) := by
  intro pins s σ H x y v u Q I rx ry h
  obtain ⟨n, m, rfl, rfl, q⟩ := h
  have e : decide ((n : Int) = (m : Int)) = decide (n = m) := decide_eq_decide.mpr (by omega)
  refine oi_ne pins s σ H _ _ v u Q I rx ry ⟨_, _, rfl, rfl, ?_⟩
  rw [e]; exact q
theorem on_xor : OpR X (binaryOp .BitXor) (fun x y H Q => ∃ n m : Nat, x = nI n ∧ y = nI m ∧ Q (nI (n ^^^ m)) H) := by
  intro pins s σ H x y v u Q I rx ry h
  obtain ⟨n, m, rfl, rfl, q⟩ := h
  refine op_xor pins s σ H _ _ v u Q I rx ry ⟨_, _, rfl, rfl, ?_⟩
  have e : Builtin.bitXor (n : Int) (m : Int) = ((n ^^^ m : Nat) : Int) := by
    rw [bitXor_and, bitAnd_pp (Int.natCast_nonneg _) (Int.natCast_nonneg _), Int.toNat_natCast, Int.toNat_natCast]
    have k : ∀ n m : Nat, (n ^^^ m) + 2 * (n &&& m) = n + m := fun n m => by
      induction n using Nat.strongRecOn generalizing m with
      | _ n ih =>
        by_cases h0 : n = 0
        · subst h0; simp
        · have i1 := ih (n / 2) (by omega) (m / 2)
          have x1 : (n ^^^ m) / 2 = n / 2 ^^^ m / 2 := Nat.xor_div_two
          have a1 : (n &&& m) / 2 = n / 2 &&& m / 2 := Nat.and_div_two
          have x2 : (n ^^^ m) % 2 = (n + m) % 2 := by
            have hh := Nat.xor_mod_two_pow (a := n) (b := m) (n := 1)
            rw [Nat.pow_one] at hh
            rw [hh]
            rcases Nat.mod_two_eq_zero_or_one n with p | p <;> rcases Nat.mod_two_eq_zero_or_one m with p2 | p2 <;> rw [p, p2] <;> simp <;> omega
          have a2 : (n &&& m) % 2 = n % 2 * (m % 2) := by
            have hh := Nat.and_mod_two_pow (a := n) (b := m) (n := 1)
            rw [Nat.pow_one] at hh
            rw [hh]
            rcases Nat.mod_two_eq_zero_or_one n with p | p <;> rcases Nat.mod_two_eq_zero_or_one m with p2 | p2 <;> rw [p, p2] <;> rfl
          rcases Nat.mod_two_eq_zero_or_one n with p | p <;> rcases Nat.mod_two_eq_zero_or_one m with p2 | p2 <;> (rw [p, p2] at a2; omega)
    have := k n m
    omega
  show Q (V.int (Builtin.bitXor (n : Int) (m : Int))) H
  rw [e]; exact q
theorem on_mulW : OpR X (binaryOp .Mult) (fun x y H Q => ∃ n m : Nat, x = nI n ∧ y = nI m ∧ n < 2 ^ 64 ∧ Q (nI (n * m)) H) := by
  intro pins s σ H x y v u Q I rx ry h
  obtain ⟨n, m, rfl, rfl, c, q⟩ := h
  refine op_mul pins s σ H _ _ v u Q I rx ry ⟨_, _, rfl, rfl, .inl ⟨by omega, by omega⟩, ?_⟩
  show Q (V.int ((n : Int) * (m : Int))) H
  rw [← Int.natCast_mul]; exact q
theorem on_fdivW : OpR X (binaryOp .FloorDiv) (fun x y H Q => ∃ n m : Nat, x = nI n ∧ y = nI m ∧ (1 ≤ m ∧ m < 2 ^ 64) ∧ Q (nI (n / m)) H) := by
  intro pins s σ H x y v u Q I rx ry h
  obtain ⟨n, m, rfl, rfl, ⟨c1, c2⟩, q⟩ := h
  refine op_fdivW pins s σ H _ _ v u Q I rx ry ⟨_, _, rfl, rfl, wide_div (b := 64) (by omega) (by rw [Int.natAbs_natCast]; exact c2) (by decide) (by decide), ?_⟩
  show Q (V.int ((n : Int) / (m : Int))) H
  rw [← Int.natCast_ediv]; exact q
end
abbrev rnOr : V → V → Hp → VK → Prop := fun x y H Q => ∃ n m : Nat, x = nI n ∧ y = nI m ∧ Q (nI (n ||| m)) H
abbrev rnAnd : V → V → Hp → VK → Prop := fun x y H Q => ∃ n m : Nat, x = nI n ∧ y = nI m ∧ Q (nI (n &&& m)) H
abbrev rnAdd : V → V → Hp → VK → Prop := fun x y H Q => ∃ n m : Nat, x = nI n ∧ y = nI m ∧ Q (nI (n + m)) H
abbrev rnSub : V → V → Hp → VK → Prop := fun x y H Q => ∃ n m : Nat, x = nI n ∧ y = nI m ∧ m ≤ n ∧ Q (nI (n - m)) H
abbrev rnMul : V → V → Hp → VK → Prop := fun x y H Q => ∃ n m : Nat, x = nI n ∧ y = nI m ∧ n ≤ 4294967296 ∧ Q (nI (n * m)) H
abbrev rnMod : V → V → Hp → VK → Prop := fun x y H Q => ∃ n m : Nat, x = nI n ∧ y = nI m ∧ 1 ≤ m ∧ Q (nI (n % m)) H
abbrev rnShr : V → V → Hp → VK → Prop := fun x y H Q => ∃ n k : Nat, x = nI n ∧ y = nI k ∧ Q (nI (n >>> k)) H
abbrev rnShl : V → V → Hp → VK → Prop := fun x y H Q => ∃ n k b : Nat, x = nI n ∧ y = nI k ∧ (n < 2 ^ b ∧ b + k ≤ 134217728) ∧ Q (nI (n <<< k)) H
theorem cut_mid (l : List Nat) {a b : Nat} (h : a ≤ b) (hb : b ≤ l.length) : cutV (nv l) (some (a : Int)) (some (b : Int)) = nv ((l.drop a).take (b - a)) := by
  unfold cutV
  rw [HT.sIx_nat, HT.sIx_nat, nv_length]
  show ((nv l).drop (min a l.length)).take (min b l.length - min a l.length) = _
  rw [Nat.min_eq_left hb, Nat.min_eq_left (Nat.le_trans h hb)]
  unfold nv
  rw [List.map_take, List.map_drop]
theorem map_range16 {x : List Nat} (h : x.length = 16) (f : Nat → Nat) : x.map f = (List.range 16).map fun i => f (x.getD i 0) := by
  apply List.ext_getElem?
  intro i
  by_cases hi : i < 16
  · rw [range_get hi, List.getElem?_map, get_D (by omega)]
    rfl
  · rw [List.getElem?_eq_none (by simp; omega), List.getElem?_eq_none (by simp; omega)]
end My
/-! ### the request's numbers as naturals -/
namespace My
open PySem PySem.Spec PyProof.Rows L2
open PySem.W (WData Codec)
def zl (x : List Nat) : List Int := x.map fun (k : Nat) => (k : Int)
theorem zl_int (x : List Nat) : (zl x).map V.int = nv x := by unfold zl nv; rw [List.map_map]; rfl
theorem zl_back (x : List Nat) : Sv11Neutral.n (zl x) = x := by
  unfold Sv11Neutral.n zl
  rw [List.map_map]
  conv => rhs; rw [← List.map_id x]
  exact List.map_congr_left fun a _ => Int.toNat_natCast a
theorem nat_of {l : List Int} (h : ∀ z ∈ l, 0 ≤ z) : ∃ x : List Nat, l = zl x := by
  refine ⟨l.map Int.toNat, ?_⟩
  unfold zl
  rw [List.map_map]
  conv => lhs; rw [← List.map_id l]
  exact List.map_congr_left fun a ha => by
    have := h a ha
    show a = ((a.toNat : Nat) : Int)
    omega
theorem word_nat {z : Int} (h : Sv11Neutral.word z = true) : ∃ n : Nat, z = (n : Int) ∧ n < 2 ^ 32 := by
  unfold Sv11Neutral.word at h
  rw [Bool.and_eq_true, decide_eq_true_eq, decide_eq_true_eq] at h
  exact ⟨z.toNat, by omega, by omega⟩
theorem mask_nat {z : Int} (h : Sv11Neutral.mask z = true) : ∃ n : Nat, z = (n : Int) ∧ n < 65536 := by
  unfold Sv11Neutral.mask at h
  rw [Bool.and_eq_true, decide_eq_true_eq, decide_eq_true_eq] at h
  exact ⟨z.toNat, by omega, by omega⟩
theorem words_nat {l : List Int} (h : l.all Sv11Neutral.word = true) : ∃ x : List Nat, l = zl x ∧ ∀ k ∈ x, k < 2 ^ 32 := by
  rw [List.all_eq_true] at h
  obtain ⟨x, rfl⟩ := nat_of fun z hz => by
    obtain ⟨n, e, _⟩ := word_nat (h z hz)
    omega
  refine ⟨x, rfl, fun k hk => ?_⟩
  obtain ⟨n, e, hn⟩ := word_nat (h (k : Int) (List.mem_map.mpr ⟨k, hk, rfl⟩))
  have : k = n := by omega
  omega
theorem row_nat {l : List Int} (h : Sv11Neutral.row l = true) : ∃ x : List Nat, l = zl x ∧ x.length = 16 ∧ ∀ k ∈ x, k < 2 ^ 32 := by
  unfold Sv11Neutral.row at h
  rw [Bool.and_eq_true, decide_eq_true_eq] at h
  obtain ⟨x, rfl, hx⟩ := words_nat h.1
  refine ⟨x, rfl, ?_, hx⟩
  have e := h.2
  unfold zl at e
  rw [List.length_map] at e
  exact e
/-- a row's word as the specification reads it -/
theorem word_eq {x : List Nat} (h : ∀ k ∈ x, k < 2 ^ 32) (i : Nat) : Sv11.word x i = x.getD i 0 := by
  unfold Sv11.word
  apply Nat.mod_eq_of_lt
  rw [List.getD_eq_getElem?_getD]
  cases e : x[i]? with
  | none => show 0 < 2 ^ 32; decide
  | some v => exact h v (List.mem_of_getElem? e)
theorem getD_lt {x : List Nat} (h : ∀ k ∈ x, k < 2 ^ 32) (i : Nat) : x.getD i 0 < 2 ^ 32 := by
  rw [List.getD_eq_getElem?_getD]
  cases e : x[i]? with
  | none => show 0 < 2 ^ 32; decide
  | some v => exact h v (List.mem_of_getElem? e)
theorem words_eq {f g : Nat → Nat} (h : ∀ i, i < 16 → f i = g i ∧ g i < 2 ^ 32) : Sv11.words f = (List.range 16).map g := by
  unfold Sv11.words
  refine List.map_congr_left fun i hi => ?_
  obtain ⟨e, l⟩ := h i (List.mem_range.mp hi)
  rw [e, Nat.mod_eq_of_lt l]
theorem dw_nv {K : PySem.W.Frag} {H : Hp} {p : Addr} {l : List Nat} (h : H p = some (.lst (nv l))) : Dw K H (.ref p) (.list ((zl l).map WData.int)) := by
  rw [← zl_int] at h
  exact .lst (SqL.of h) (dw_ints _)
theorem dw_cons {K : PySem.W.Frag} {H : Hp} {xs : List V} {d : WData} {ds : List WData} (h : DwAll K H xs (d :: ds)) : ∃ v vs, xs = v :: vs ∧ Dw K H v d ∧ DwAll K H vs ds := by
  cases h with
  | cons h1 h2 => exact ⟨_, _, rfl, h1, h2⟩
theorem dw_row {K : PySem.W.Frag} {H : Hp} {v : V} {x : List Nat} (h : Dw K H v (.list ((zl x).map WData.int))) : ∃ a, v = .ref a ∧ SqL K H a (nv x) := by
  cases h with
  | lst hs ha =>
    have e := L2.ints_dw (zl x) _ ha
    subst e
    rw [zl_int] at hs
    exact ⟨_, rfl, hs⟩
end My
/-! ### comprehensions over a list with a test, over range(1, n); answers as ints -/
namespace My
open PySem PySem.Spec PyProof.Rows L2
theorem nv_at {l : List Nat} {i : Nat} {x : V} (hx : (nv l)[i]? = some x) : ∃ v, l[i]? = some v ∧ x = nI v := by
  unfold nv at hx
  rw [List.getElem?_map] at hx
  cases e : l[i]? with
  | none => rw [e] at hx; cases hx
  | some v => rw [e] at hx; exact ⟨v, rfl, (Option.some.inj hx).symm⟩
/-- [e for v in xs if t], xs a list of naturals -/
theorem lcFilL {K : PySem.W.Frag} {a : Addr} {tt : TT} {te : TE} {j : Nat} {σ : L2.St} {H1 : Hp} {D : Addr} {Qd : Hp → Prop} (l : List Nat) (f : Nat → V) (p : Nat → Bool) (hn : l.length ≤ 100000) (hS : SqL K H1 a (nv l)) (hD : H1 D = none)
    (ht : ∀ v H, v ∈ l → Same H1 H → ∀ Q : Bool → Hp → Prop, (∀ H', Same H H' → Q (p v) H') → tt ((wipe σ [j]).set j (some (nI v))) H Q)
    (hs : ∀ v H, v ∈ l → p v = true → Same H1 H → ∀ Q : VK, (∀ H', Same H H' → Q (f v) H') → te ((wipe σ [j]).set j (some (nI v))) H Q)
    (hd : ∀ H3, Same H1 H3 → H3 D = some (.lst ((l.filter p).map f)) → Qd H3) :
    ∃ W : Nat → Nat → Hp → Prop, (∃ m, W 0 m (upd H1 D (.lst []))) ∧ ∀ i m H, W i m H →
      ((Itl K a).stop i H ∧ Qd H) ∨ ((Itl K a).go i H ∧ ∃ Nx : Hp → Prop, (∀ H', Nx H' → ∃ m', m' < m ∧ W (i + 1) m' H') ∧ ∀ x H', (Itl K a).yld i H x H' → gName j x (wipe σ [j]) H' fun σ2 H2 => wipe σ2 [j] = wipe σ [j] ∧ tt σ2 H2 fun b H3 =>
        if b = true then te σ2 H3 fun y H4 => ∃ acc, H4 D = some (.lst acc) ∧ acc.length < sizeLine ∧ Nx (upd H4 D (.lst (acc ++ [y]))) else Nx H3) := by
  refine lc_list (xs := nv l) (fun i H => Same H1 H ∧ H D = some (.lst (((l.take i).filter p).map f))) ⟨same_upd hD, upd_same⟩ (fun i H _ ⟨s, _⟩ => s.seq hS) (fun i x H hx ⟨s, e⟩ => ?_) (fun H ⟨s, e⟩ => hd H s ?_)
  · obtain ⟨v, hv, rfl⟩ := nv_at hx
    refine ⟨wipe_in, ?_⟩
    have hm := List.mem_of_getElem? hv
    refine ht v H hm s _ fun H' s' => ?_
    have sH : Same H1 H' := fun b o z => s' _ _ (s _ _ z)
    have ef : (l.take (i + 1)).filter p = (l.take i).filter p ++ (if p v = true then [v] else []) := by
      rw [List.take_add_one, hv, List.filter_append]
      cases hp : p v <;> simp [hp]
    by_cases hp : p v = true
    · rw [if_pos hp]
      refine hs v H' hm hp sH _ fun H2 s2 => ⟨_, s2 _ _ (s' _ _ e), ?_, ?_, ?_⟩
      · have h1 := List.length_filter_le p (l.take i)
        rw [List.length_take] at h1
        rw [List.length_map]
        exact sizeSmall (by omega)
      · exact same_put hD fun b o z => s2 _ _ (sH _ _ z)
      · rw [upd_same, ef, if_pos hp, List.map_append]
        rfl
    · rw [if_neg hp]
      refine ⟨sH, ?_⟩
      rw [ef, if_neg hp, List.append_nil]
      exact s' _ _ e
  · rw [nv_length, List.take_length] at e
    exact e
/-- [e for i in range(lo, lo + n)] -/
theorem lcMapF {te : TE} {j : Nat} {σ : L2.St} {H1 : Hp} {D : Addr} {Qd : Hp → Prop} (lo : Nat) (f : Nat → V) (n : Nat) (hn : n ≤ 100000) (hD : H1 D = none)
    (hs : ∀ i H, i < n → Same H1 H → ∀ Q : VK, (∀ H', Same H H' → Q (f i) H') → te ((wipe σ [j]).set j (some (nI (lo + i)))) H Q)
    (hd : ∀ H3, Same H1 H3 → H3 D = some (.lst ((List.range n).map f)) → Qd H3) :
    ∃ W : Nat → Nat → Hp → Prop, (∃ m, W 0 m (upd H1 D (.lst []))) ∧ ∀ i m H, W i m H →
      ((Itr (lo : Int) n).stop i H ∧ Qd H) ∨ ((Itr (lo : Int) n).go i H ∧ ∃ Nx : Hp → Prop, (∀ H', Nx H' → ∃ m', m' < m ∧ W (i + 1) m' H') ∧ ∀ x H', (Itr (lo : Int) n).yld i H x H' → gName j x (wipe σ [j]) H' fun σ2 H2 => wipe σ2 [j] = wipe σ [j] ∧ tYes σ2 H2 fun b H3 =>
        if b = true then te σ2 H3 fun y H4 => ∃ acc, H4 D = some (.lst acc) ∧ acc.length < sizeLine ∧ Nx (upd H4 D (.lst (acc ++ [y]))) else Nx H3) := by
  refine lc_range (fun i H => Same H1 H ∧ H D = some (.lst ((List.range i).map f))) ⟨same_upd hD, upd_same⟩ (fun i H hi ⟨s, e⟩ => ?_) (fun H ⟨s, e⟩ => hd H s e)
  rw [show ((lo : Int) + (i : Int)) = ((lo + i : Nat) : Int) from (Int.natCast_add lo i).symm]
  refine ⟨wipe_in, ?_⟩
  refine tYes_of (ifT rfl ?_)
  refine hs i H hi s _ fun H' s' => ⟨_, s' _ _ e, ?_, ?_, ?_⟩
  · rw [List.length_map, List.length_range]
    exact sizeSmall (by omega)
  · exact same_put hD fun b o z => s' _ _ (s _ _ z)
  · rw [upd_same, List.range_succ, List.map_append]
    rfl
/-- an answer of the specification as the list that is given back -/
def ansI (y : Sv11.Ans) : List Int := match y.value with
  | some v => v :: zl y.l
  | none => zl y.l
theorem ix_at {n j : Nat} (h : j < n) : ixN n (j : Int) = some j := by
  unfold ixN
  rw [if_pos (Int.natCast_nonneg j), if_pos (by omega), Int.toNat_natCast]
theorem nv_set (l : List Nat) (j v : Nat) : (nv l).set j (nI v) = nv (l.set j v) := by
  unfold nv
  rw [List.map_set]
theorem take_snoc {l : List Nat} {i : Nat} (h : i < l.length) : l.take (i + 1) = l.take i ++ [l.getD i 0] := by
  rw [List.take_add_one, get_D h]
  rfl
theorem none_back {H H' : Hp} {p : Addr} (s : Same H H') (h : H' p = none) : H p = none := by
  cases e : H p with
  | none => rfl
  | some o => rw [s _ _ e] at h; cases h
theorem rep_nv (k v : Nat) : (List.replicate k [nI v]).flatten = nv (List.replicate k v) := by
  unfold nv
  rw [List.map_replicate, List.flatten_replicate_singleton]
theorem cut_pre (l : List Nat) {b : Nat} (hb : b ≤ l.length) : cutV (nv l) none (some (b : Int)) = nv (l.take b) := by
  unfold cutV
  rw [HT.sIx_none, HT.sIx_nat, nv_length, Nat.min_eq_left hb, Nat.sub_zero, List.drop_zero]
  unfold nv
  rw [List.map_take]
theorem row_no {n : Nat} : Sv11.row n = false ↔ 65536 < n := by
  unfold Sv11.row Sv11.MOST
  rw [decide_eq_false_iff_not]
  omega
end My
/-! ### the request of rows of n -/
namespace My
open PySem PySem.Spec PyProof.Rows L2
open PySem.W (WData Codec)
theorem most_nat {z t : Int} (h : Sv11Neutral.most z t = true) : ∃ n : Nat, z = (n : Int) ∧ n < 2 ^ 32 ∧ (n ≤ 500 ∨ t < (n : Int)) := by
  unfold Sv11Neutral.most at h
  rw [Bool.and_eq_true, decide_eq_true_eq] at h
  obtain ⟨n, rfl, hn⟩ := word_nat h.1
  refine ⟨n, rfl, hn, ?_⟩
  rcases h.2 with h | h
  · exact .inl (by omega)
  · exact .inr h
theorem many_nat {k : Int} {yes : Bool} {l : List Int} (h : Sv11Neutral.many k yes l = true) : ∃ x : List Nat, l = zl x ∧ (∀ k ∈ x, k < 2 ^ 32) ∧ (x.length : Int) = if yes = true then k else 0 := by
  unfold Sv11Neutral.many at h
  rw [Bool.and_eq_true, decide_eq_true_eq] at h
  obtain ⟨x, rfl, hb⟩ := words_nat h.1
  refine ⟨x, rfl, hb, ?_⟩
  have := h.2
  unfold zl at this
  rw [List.length_map] at this
  exact this
theorem dw_iv {K : PySem.W.Frag} {H : Hp} {p : Addr} {l : List Int} (h : H p = some (.lst (l.map V.int))) : Dw K H (.ref p) (.list (l.map WData.int)) := .lst (SqL.of h) (dw_ints _)
theorem whole_int {z : Int} (h : Sv11Neutral.whole32 z = true) : -(2 ^ 31) ≤ z ∧ z < 2 ^ 31 := by
  unfold Sv11Neutral.whole32 at h
  rw [Bool.and_eq_true, decide_eq_true_eq, decide_eq_true_eq] at h
  exact h
end My
/-! ### the ten ways of masks -/
namespace My
open PySem PySem.Spec PyProof.Rows L2
theorem and_rest : ∀ (n a b : Nat), a < 2 ^ n → b < 2 ^ n → (b &&& (2 ^ n - 1 - a)) + (b &&& a) = b
  | 0, a, b, ha, hb => by
    have h1 : a = 0 := by rw [Nat.pow_zero] at ha; omega
    have h2 : b = 0 := by rw [Nat.pow_zero] at hb; omega
    subst h1 h2
    rfl
  | n + 1, a, b, ha, hb => by
    rw [Nat.pow_succ] at ha hb ⊢
    have ih := and_rest n (a / 2) (b / 2) (by omega) (by omega)
    have hp := Nat.two_pow_pos n
    have d1 : (b &&& (2 ^ n * 2 - 1 - a)) / 2 = b / 2 &&& (2 ^ n * 2 - 1 - a) / 2 := Nat.and_div_two
    have d2 : (b &&& a) / 2 = b / 2 &&& a / 2 := Nat.and_div_two
    have e : (2 ^ n * 2 - 1 - a) / 2 = 2 ^ n - 1 - a / 2 := by omega
    rw [e] at d1
    have m : ∀ x y : Nat, (x &&& y) % 2 = x % 2 * (y % 2) := fun x y => by
      have hh := Nat.and_mod_two_pow (a := x) (b := y) (n := 1)
      rw [Nat.pow_one] at hh
      rw [hh]
      rcases Nat.mod_two_eq_zero_or_one x with p | p <;> rcases Nat.mod_two_eq_zero_or_one y with p2 | p2 <;> rw [p, p2] <;> rfl
    have m1 := m b (2 ^ n * 2 - 1 - a)
    have m2 := m b a
    have e2 : (2 ^ n * 2 - 1 - a) % 2 = 1 - a % 2 := by omega
    rw [e2] at m1
    rcases Nat.mod_two_eq_zero_or_one a with p | p <;> rcases Nat.mod_two_eq_zero_or_one b with p2 | p2 <;> (rw [p, p2] at m1 m2; omega)
def byOp (a b : Nat) : List Int := [((a &&& b : Nat) : Int), Builtin.bitAnd (b : Int) (Builtin.bitNot (a : Int)), ((a ||| b : Nat) : Int), ((a ^^^ b : Nat) : Int), Builtin.bitNot ((a ^^^ b : Nat) : Int),
  ((a + b : Nat) : Int), ((a <<< min b 16 : Nat) : Int), ((a >>> b : Nat) : Int), ((((a &&& 255) <<< 8) ||| (b &&& 255) : Nat) : Int), Builtin.bitNot (a : Int)]
def byOpS (a b : Nat) : List Nat := [Nat.land a b, Nat.land b (65535 - a), Nat.lor a b, Nat.xor a b, 65535 - Nat.xor a b, (a + b) % 65536, if b < 16 then a * 2 ^ b % 65536 else 0, if b < 16 then a / 2 ^ b else 0, a % 256 * 256 + b % 256, 65535 - a]
theorem byOp_at {a b : Nat} (ha : a < 65536) (hb : b < 65536) {k : Nat} (hk : k < 10) : (byOp a b).getD k 0 % 65536 = (((byOpS a b).getD k 0 : Nat) : Int) := by
  have hand : a &&& b < 65536 := Nat.lt_of_le_of_lt Nat.and_le_left ha
  have hor : a ||| b < 65536 := Nat.or_lt_two_pow (n := 16) ha hb
  have hxor : a ^^^ b < 65536 := Nat.xor_lt_two_pow (n := 16) ha hb
  match k, hk with
  | 0, _ =>
    show ((a &&& b : Nat) : Int) % 65536 = ((a &&& b : Nat) : Int)
    omega
  | 1, _ =>
    show Builtin.bitAnd (b : Int) (Builtin.bitNot (a : Int)) % 65536 = ((b &&& (65535 - a) : Nat) : Int)
    rw [bitAnd_not, bitAnd_pp (Int.natCast_nonneg _) (Int.natCast_nonneg _), Int.toNat_natCast, Int.toNat_natCast]
    have h : (b &&& (65535 - a)) + (b &&& a) = b := and_rest 16 a b ha hb
    omega
  | 2, _ =>
    show ((a ||| b : Nat) : Int) % 65536 = ((a ||| b : Nat) : Int)
    omega
  | 3, _ =>
    show ((a ^^^ b : Nat) : Int) % 65536 = ((a ^^^ b : Nat) : Int)
    omega
  | 4, _ =>
    show (-((a ^^^ b : Nat) : Int) - 1) % 65536 = ((65535 - (a ^^^ b) : Nat) : Int)
    omega
  | 5, _ =>
    show ((a + b : Nat) : Int) % 65536 = (((a + b) % 65536 : Nat) : Int)
    omega
  | 6, _ =>
    show ((a <<< min b 16 : Nat) : Int) % 65536 = ((if b < 16 then a * 2 ^ b % 65536 else 0 : Nat) : Int)
    rw [Nat.shiftLeft_eq]
    by_cases h : b < 16
    · rw [if_pos h, Nat.min_eq_left (by omega)]
      omega
    · rw [if_neg h, Nat.min_eq_right (by omega)]
      omega
  | 7, _ =>
    show ((a >>> b : Nat) : Int) % 65536 = ((if b < 16 then a / 2 ^ b else 0 : Nat) : Int)
    rw [Nat.shiftRight_eq_div_pow]
    have h0 : a / 2 ^ b ≤ a := Nat.div_le_self ..
    by_cases h : b < 16
    · rw [if_pos h]
      generalize a / 2 ^ b = c at *
      omega
    · have hp : 2 ^ 16 ≤ 2 ^ b := Nat.pow_le_pow_right (by decide) (by omega)
      rw [if_neg h, Nat.div_eq_of_lt (Nat.lt_of_lt_of_le ha hp)]
      rfl
  | 8, _ =>
    show ((((a &&& 255) <<< 8) ||| (b &&& 255) : Nat) : Int) % 65536 = ((a % 256 * 256 + b % 256 : Nat) : Int)
    have e1 : a &&& 255 = a % 256 := Nat.and_two_pow_sub_one_eq_mod a 8
    have e2 : b &&& 255 = b % 256 := Nat.and_two_pow_sub_one_eq_mod b 8
    rw [e1, e2]
    have h := Nat.two_pow_add_eq_or_of_lt (i := 8) (b := b % 256) (by omega) (a % 256)
    rw [Nat.shiftLeft_eq, Nat.mul_comm (a % 256) (2 ^ 8), ← h]
    omega
  | 9, _ =>
    show (-(a : Int) - 1) % 65536 = ((65535 - a : Nat) : Int)
    omega
theorem byOp_get (a b : Nat) {k : Nat} (hk : k < 10) : atI ((byOp a b).map V.int) (k : Int) = some (V.int ((byOp a b).getD k 0)) := by
  refine atI_nat ?_
  rw [List.getElem?_map, List.getD_eq_getElem?_getD, List.getElem?_eq_getElem (show k < (byOp a b).length from hk)]
  rfl
theorem min_nI (b : Nat) : V.int (if (16 : Int) < (b : Int) then (16 : Int) else (b : Int)) = nI (min b 16) := by
  show V.int _ = V.int _
  congr 1
  split <;> omega
end My
namespace My
open PySem PySem.Spec PyProof.Rows L2
def topS (i : Nat) : Stmt := PySem.Challenge.pw_sixteenwordsdesk_s17_masks.main.body.getD i (.Pass ⟨0, 0, 0, 0⟩)
abbrev s_masks : Stmt := topS 4
structure Txt (K : PySem.W.Frag) (mg : Str → Option Value) : Prop where
  c_WORDS : ∃ t, mg "WORDS" = some (.int 16 t)
  c_TOP_BYTE : ∃ t, mg "TOP_BYTE" = some (.int 255 t)
  c_TOP_MASK : ∃ t, mg "TOP_MASK" = some (.int 65535 t)
  n_min : mg "min" = none
section
variable {P : Program} {w : World} {K : PySem.W.Frag} {mg : Str → Option Value} {base : Heap}
/-! ### masks -/
theorem sc_masks : FnScope ["a", "b", "op", "by_op", "r"] ["a", "b", "op"] (defScope s_masks) := ⟨rfl, rfl, rfl, by decide +kernel, rfl, by decide +kernel, by decide +kernel⟩
def masksR (a b : Nat) (op : Int) : Int := Builtin.bitAnd ((byOp a b).getD op.toNat 0) 65535
def masksM (a b : Nat) (op : Int) : List Int := if op < 0 ∨ 9 < op then [-1] else if masksR a b op = 0 then [masksR a b op + 65536] else if masksR a b op = 65535 then [masksR a b op + 131072] else [masksR a b op]
def sp_masks (K : PySem.W.Frag) : Sp := fun vs H Q _ => ∃ (a b : Nat) (op : Int), vs = [nI a, nI b, .int op] ∧ (a < 65536 ∧ b < 65536) ∧ ∀ H' p, H' p = some (.lst ((masksM a b op).map V.int)) → Q (.ref p) H'
theorem ok_masks {f : Addr} {fd : FuncData} (T : Txt K mg) (F : Fun K "masks" "masks" s_masks f fd) : FnOk P w K mg base CX0 1 f fd ["a", "b", "op"] (sp_masks K) := by
  obtain ⟨tW, hW⟩ := T.c_WORDS
  obtain ⟨tB, hB⟩ := T.c_TOP_BYTE
  obtain ⟨tM, hM⟩ := T.c_TOP_MASK
  refine F.ok sc_masks (fun vs H Q E h => ?_) (fun cdv A outer s H vs Q E hr h => ?_)
  · obtain ⟨a, b, op, rfl, _⟩ := h
    rfl
  · obtain ⟨a, b, op, rfl, ⟨ha, hb⟩, q⟩ := h
    refine ⟨_, pss_cons (ps_if (PW.pt (pw_or (pt_cmpR op_lt (pv 2) pe_int (nomark _)) (pw_or1 (pt_cmpR op_gt (pv 2) pe_int (nomark _))))) (pss_one (ps_ret (pe_lst (pa_cons (pe_un un_neg pe_int) pa_nil)))) pss_nil)
      (pss_cons (ps_set (i := 3) sc_masks.nd rfl (.inl rfl) (pe_lst
        (pa_cons (pe_op on_and (pv 0) (pv 1))
        (pa_cons (pe_op op_and (pv 1) (pe_un un_inv (pv 0)))
        (pa_cons (pe_op on_or (pv 0) (pv 1))
        (pa_cons (pe_op on_xor (pv 0) (pv 1))
        (pa_cons (pe_un un_inv (pe_op on_xor (pv 0) (pv 1)))
        (pa_cons (pe_op on_add (pv 0) (pv 1))
        (pa_cons (pe_op on_shl (pv 0) (pe_callB (call_min2 rfl) (by rfl) T.n_min (by decide +kernel) (pa_cons (pv 1) (pa_cons (pe_glob (v := nI 16) (by rfl) hW ⟨_, rfl⟩) pa_nil))))
        (pa_cons (pe_op on_shr (pv 0) (pv 1))
        (pa_cons (pe_op on_or (pe_op on_shl (pe_op on_and (pv 0) (pe_glob (v := nI 255) (by rfl) hB ⟨_, rfl⟩)) pe_int) (pe_op on_and (pv 1) (pe_glob (v := nI 255) (by rfl) hB ⟨_, rfl⟩)))
        (pa_cons (pe_un un_inv (pv 0)) pa_nil))))))))))))
      (pss_cons (ps_set (i := 4) sc_masks.nd rfl (.inl rfl) (pe_op op_and (pe_ix ix_list (pv 3) (pv 2) (fun _ _ => rfl)) (pe_glob (v := nI 65535) (by rfl) hM ⟨_, rfl⟩)))
      (pss_cons (ps_if (pt_cmpR oi_eq (pv 4) pe_int (nomark _)) (pss_one (ps_ret (pe_lst (pa_cons (pe_op op_add (pv 4) pe_int) pa_nil)))) pss_nil)
      (pss_cons (ps_if (pt_cmpR oi_eq (pv 4) (pe_glob (v := nI 65535) (by rfl) hM ⟨_, rfl⟩) (nomark _)) (pss_one (ps_ret (pe_lst (pa_cons (pe_op op_add (pv 4) pe_int) pa_nil)))) pss_nil)
      (pss_one (ps_ret (pe_lst (pa_cons (pv 4) pa_nil)))))))), ?_⟩
    unfold masksM at q
    refine ⟨_, rfl, op, 0, rfl, rfl, _, rfl, ?_⟩
    by_cases h1 : op < 0
    · refine ifT (decide_eq_true h1) (ifT rfl ?_)
      rw [if_pos (.inl h1)] at q
      exact ⟨1, rfl, by show 1 ≤ sizeLine; decide, fun p np => q _ p upd_same⟩
    · refine ifF (by rw [decide_eq_false h1]; decide) ?_
      refine ⟨_, rfl, op, 9, rfl, rfl, _, rfl, ?_⟩
      by_cases h2 : 9 < op
      · refine ifT (decide_eq_true h2) ?_
        rw [if_pos (.inr h2)] at q
        exact ⟨1, rfl, by show 1 ≤ sizeLine; decide, fun p np => q _ p upd_same⟩
      · refine ifF (by rw [decide_eq_false h2]; decide) ?_
        rw [if_neg (fun z => z.elim h1 h2)] at q
        obtain ⟨k, rfl⟩ : ∃ k : Nat, op = (k : Int) := ⟨op.toNat, by omega⟩
        have hk : k < 10 := by omega
        refine ⟨_, rfl, _, rfl, a, b, rfl, rfl, ?_⟩
        refine ⟨_, rfl, _, rfl, (a : Int), rfl, (b : Int), _, rfl, rfl, ?_⟩
        refine ⟨_, rfl, _, rfl, a, b, rfl, rfl, ?_⟩
        refine ⟨_, rfl, _, rfl, a, b, rfl, rfl, ?_⟩
        refine ⟨_, rfl, _, rfl, a, b, rfl, rfl, ((a ^^^ b : Nat) : Int), rfl, ?_⟩
        refine ⟨_, rfl, _, rfl, a, b, rfl, rfl, ?_⟩
        refine ⟨_, rfl, _, rfl, (b : Int), 16, rfl, a, min b 16, 16, rfl, min_nI b, ⟨ha, by omega⟩, ?_⟩
        refine ⟨_, rfl, _, rfl, a, b, rfl, rfl, ?_⟩
        refine ⟨_, rfl, a, 255, rfl, rfl, a &&& 255, 8, 8, rfl, rfl, ⟨Nat.lt_of_le_of_lt Nat.and_le_right (by decide), by decide⟩, ?_⟩
        refine ⟨_, rfl, b, 255, rfl, rfl, (a &&& 255) <<< 8, b &&& 255, rfl, rfl, ?_⟩
        refine ⟨_, rfl, (a : Int), rfl, ?_⟩
        refine ⟨by show 10 ≤ sizeLine; decide, fun D hD => ?_⟩
        refine ⟨.ref D, rfl, _, rfl, D, (byOp a b).map V.int, (k : Int), _, rfl, rfl, SqL.of upd_same, byOp_get a b hk, (byOp a b).getD k 0, 65535, rfl, rfl, ?_⟩
        refine ⟨_, rfl, masksR a b (k : Int), 0, rfl, rfl, _, rfl, ?_⟩
        by_cases w0 : masksR a b (k : Int) = 0
        · refine ifT (decide_eq_true w0) ?_
          rw [if_pos w0] at q
          exact ⟨_, rfl, masksR a b (k : Int), 65536, rfl, rfl, by show 1 ≤ sizeLine; decide, fun p np => q _ p upd_same⟩
        · refine ifF (by rw [decide_eq_false w0]; decide) ?_
          rw [if_neg w0] at q
          refine ⟨_, rfl, masksR a b (k : Int), 65535, rfl, rfl, _, rfl, ?_⟩
          by_cases w1 : masksR a b (k : Int) = 65535
          · refine ifT (decide_eq_true w1) ?_
            rw [if_pos w1] at q
            exact ⟨_, rfl, masksR a b (k : Int), 131072, rfl, rfl, by show 1 ≤ sizeLine; decide, fun p np => q _ p upd_same⟩
          · refine ifF (by rw [decide_eq_false w1]; decide) ?_
            rw [if_neg w1] at q
            exact ⟨_, rfl, by show 1 ≤ sizeLine; decide, fun p np => q _ p upd_same⟩
end
theorem all_mk {P : Program} {w : World} {K : PySem.W.Frag} {h : Heap} {mg : Str → Option Value} {fa f1 : Addr} (X : K.In h) (G : h.Ns mainGlobals mg) (hfa : mg "masks" = some (.ref fa))
    {od1 an1 : Option Addr} {sl1 : Array (Option Value)} {oc1 kV1 dc1 pm1 cd1 ct1 : Value}
    {t_WORDS t_TOP_BYTE t_TOP_MASK : Tok}
    (a1 : PySem.W.nsIn K mainGlobals "masks" = some (some (.ref f1))) (l1 : K.lookup f1 = some ⟨oc1, od1, .func (PySem.W.fnOf "masks" "masks" (defArgs s_masks) (defBody s_masks) (defScope s_masks) .none kV1 dc1 pm1 an1 cd1 ct1), sl1⟩) (c1 : PySem.W.codeIn K cd1 "masks" = true) (k1 : PySem.W.keepIn K (.ref f1) = true)
    (v_WORDS : PySem.W.nsIn K mainGlobals "WORDS" = some (some (.int 16 t_WORDS)))
    (v_TOP_BYTE : PySem.W.nsIn K mainGlobals "TOP_BYTE" = some (some (.int 255 t_TOP_BYTE)))
    (v_TOP_MASK : PySem.W.nsIn K mainGlobals "TOP_MASK" = some (some (.int 65535 t_TOP_MASK)))
    (z_min : PySem.W.nsIn K mainGlobals "min" = some none)
    : ∃ fd : FuncData, (∀ (s : Shared) (us : List Value), us.length = (["a", "b", "op"] : List Str).length → BindsTo s fd ⟨us, []⟩ ((["a", "b", "op"] : List Str).zip us)) ∧ ∀ base : Heap, K.In base → base.Ns mainGlobals mg → FnOk P w K mg base CX0 1 fa fd ["a", "b", "op"] (sp_masks K) := by
  have e := hfa.symm.trans (PySem.W.mg_of X G a1)
  cases e
  have T : Txt K mg := ⟨⟨_, PySem.W.mg_of X G v_WORDS⟩, ⟨_, PySem.W.mg_of X G v_TOP_BYTE⟩, ⟨_, PySem.W.mg_of X G v_TOP_MASK⟩, PySem.W.mg_none_of X G z_min⟩
  have F1 := fun_mk (st := s_masks) l1 c1 k1
  have b1 := F1.binds (ps := ["a", "b", "op"]) fun _ _ _ _ _ _ us hl => match us, hl with | [_, _, _], _ => rfl
  exact ⟨PySem.W.fnOf "masks" "masks" (defArgs s_masks) (defBody s_masks) (defScope s_masks) .none kV1 dc1 pm1 an1 cd1 ct1, fun s us hu => match us, hu with | [_, _, _], _ => .of_eq rfl, fun base _ _ => ok_masks T F1 ⟩
theorem spec_masks {a b : Nat} (op : Int) (ha : a < 65536) (hb : b < 65536) : PySv11.masks (a : Int) (b : Int) op = masksM a b op := by
  show ansI (Sv11.spec (.masks (Int.toNat (a : Int)) (Int.toNat (b : Int)) op)) = _
  rw [Int.toNat_natCast, Int.toNat_natCast]
  show [if op < 0 ∨ 9 < op then (-1 : Int) else (((byOpS a b).getD op.toNat 0 + (if (byOpS a b).getD op.toNat 0 = 0 then 65536 else 0) + (if (byOpS a b).getD op.toNat 0 = 65535 then 131072 else 0) : Nat) : Int)] = _
  unfold masksM
  by_cases h : op < 0 ∨ 9 < op
  · rw [if_pos h, if_pos h]
  · rw [if_neg h, if_neg h]
    have hr : masksR a b op = (((byOpS a b).getD op.toNat 0 : Nat) : Int) := by
      unfold masksR
      rw [bitAnd_m16]
      exact byOp_at ha hb (by omega)
    rw [hr]
    generalize (byOpS a b).getD op.toNat 0 = r
    by_cases w0 : r = 0
    · subst w0
      rfl
    · rw [if_neg w0, if_neg (show ¬ ((r : Int) = 0) by omega)]
      by_cases w1 : r = 65535
      · subst w1
        rfl
      · rw [if_neg w1, if_neg (show ¬ ((r : Int) = 65535) by omega)]
        rfl
theorem req_masks {K : PySem.W.Frag} {H : Hp} {xs : List V} {a : PySem.W.Codec.denoteAll PySem.Challenge.rw_sixteenwordsdesk_s17_masks.args}
    (hask : PySem.W.Codec.app PySem.Challenge.rw_sixteenwordsdesk_s17_masks.args PySem.Challenge.rw_sixteenwordsdesk_s17_masks.asked a = true) (hx : DwAll K H xs (PySem.W.Codec.encAll PySem.Challenge.rw_sixteenwordsdesk_s17_masks.args a)) :
    sp_masks K xs H (fun v H' => Dw K H' v (PySem.Challenge.rw_sixteenwordsdesk_s17_masks.ret.enc (PySem.W.Codec.app PySem.Challenge.rw_sixteenwordsdesk_s17_masks.args PySem.Challenge.rw_sixteenwordsdesk_s17_masks.f a))) fun _ _ _ => False := by
  obtain ⟨a, b, op, u⟩ := a
  have hask : (Sv11Neutral.mask a && (Sv11Neutral.mask b && Sv11Neutral.whole32 op)) = true := hask
  rw [Bool.and_eq_true, Bool.and_eq_true] at hask
  obtain ⟨h1, h2, h3⟩ := hask
  obtain ⟨a, rfl, ha⟩ := mask_nat h1
  obtain ⟨b, rfl, hb⟩ := mask_nat h2
  have hx : DwAll K H xs [.int (a : Int), .int (b : Int), .int op] := hx
  obtain ⟨v1, r1, rfl, g1, hx⟩ := dw_cons hx
  obtain ⟨v2, r2, rfl, g2, hx⟩ := dw_cons hx
  obtain ⟨v3, r3, rfl, g3, hx⟩ := dw_cons hx
  cases hx
  cases g1
  cases g2
  cases g3
  refine ⟨a, b, op, rfl, ⟨ha, hb⟩, fun H' p hp => ?_⟩
  show Dw K H' (.ref p) (.list ((PySv11.masks (a : Int) (b : Int) op).map PySem.W.WData.int))
  rw [spec_masks op ha hb]
  exact dw_iv hp
end My
open PySem PySem.W PyProof.Rows
set_option maxRecDepth 100000 in
set_option maxHeartbeats 8000000 in
theorem PySem.Challenge.cw_sixteenwordsdesk_s17_masks_holds : PySem.Challenge.rw_sixteenwordsdesk_s17_masks.Holds := by
  w_on; k_headS; (case hw => exact ⟨[.int 0, .int 0, .int 0], by decide +kernel, by decide +kernel⟩)
  k_fillS
  refine L2.walk_specK (r := PySem.Challenge.rw_sixteenwordsdesk_s17_masks) (k := 1) (CX := L2.CX0) (ps := ["a", "b", "op"]) (sp := My.sp_masks) (by decide +kernel) rfl rfl ⟨rfl, by decide, by decide⟩ (fun w h Y => PySem.W.kIn_of Y) ?F ?S (fun _ _ _ _ z => z)
  case F =>
    intro w mg fa h Y KX G hmg
    refine' My.all_mk KX G hmg ?a1 ?l1 ?c1 ?k1 ?v_WORDS ?v_TOP_BYTE ?v_TOP_MASK ?z_min
    (case a1 => k_is); (case l1 => k_is); (case c1 => k_is); (case k1 => k_is); (case v_WORDS => k_is); (case v_TOP_BYTE => k_is); (case v_TOP_MASK => k_is); (case z_min => k_is)
  case S =>
    intro K H xs a hO hwi hask hx
    exact My.req_masks hask hx
#print axioms PySem.Challenge.cw_sixteenwordsdesk_s17_masks_holds
