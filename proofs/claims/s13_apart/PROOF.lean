import PyProof.Rows.All
import Wide.All
import OpenK.AllK
import Wide.FinOn
import Open.SpecLaws
import KE.OsGo
import HandS.Base
import HandS.Call
import HandS.List
import HandS.Ends
import HandS.Spec
import HandS.Words
import HandS.WordsList
import HandS.Comp
import HandS.WideBits
import PySem.Challenge.RW_sixteenwordsdesk_s13_apart
set_option Elab.async false
set_option linter.all false
set_option maxRecDepth 100000
set_option maxHeartbeats 1000000
/-! ### words of my own: naturals as Python ints, rows as lists of naturals -/
namespace My
open PySem PySem.Spec PyProof.Rows L2
abbrev nI (n : Nat) : V := V.int (n : Int)
def nv (l : List Nat) : List V := l.map nI
theorem nv_length (l : List Nat) : (nv l).length = l.length := List.length_map ..
theorem nv_append (a b : List Nat) : nv (a ++ b) = nv a ++ nv b := List.map_append ..
theorem nv_get {l : List Nat} {i n : Nat} (h : l[i]? = some n) : (nv l)[i]? = some (nI n) := by
  unfold nv; rw [List.getElem?_map, h]; rfl
theorem at_nv {l : List Nat} {i n : Nat} (h : l[i]? = some n) : atI (nv l) ((i : Nat) : Int) = some (nI n) := atI_nat (nv_get h)
theorem get_D {l : List Nat} {i : Nat} (h : i < l.length) : l[i]? = some (l.getD i 0) := by
  rw [List.getD_eq_getElem?_getD, List.getElem?_eq_getElem h]; rfl
theorem same_upd {H : Hp} {p : Addr} {o : HO} (h : H p = none) : Same H (upd H p o) := fun b x e => by
  rw [upd_ne (ne_of_none e h)]
  exact e
theorem same_refl (H : Hp) : Same H H := fun _ _ e => e
/-- what was there before p was made stands behind a store at p -/
theorem same_put {H H' : Hp} {p : Addr} {o : HO} (h : H p = none) (s : Same H H') : Same H (upd H' p o) := fun b x e => by
  rw [upd_ne (ne_of_none e h)]
  exact s b x e
theorem ne_made {H H' : Hp} {p q : Addr} {o : HO} (h : H p = some o) (s : Same H H') (hq : H' q = none) : q ≠ p := fun e => by
  subst e
  rw [s _ _ h] at hq
  cases hq
theorem sizeSmall {n : Nat} (h : n ≤ 100000) : n < sizeLine := Nat.lt_of_le_of_lt h (by decide)
section
variable {X : Cx}
theorem pow_castI (k : Nat) : ((2 ^ k : Nat) : Int) = (2 : Int) ^ k := PySem.W.kbt_cast k
theorem on_shr : OpR X (binaryOp .RShift) (fun x y H Q => ∃ n k : Nat, x = nI n ∧ y = nI k ∧ Q (nI (n >>> k)) H) := by
  intro pins s σ H x y v u Q I rx ry h
  obtain ⟨n, k, rfl, rfl, q⟩ := h
  refine op_shrN pins s σ H _ _ v u Q I rx ry ⟨_, k, rfl, rfl, ?_⟩
  rw [Nat.shiftRight_eq_div_pow] at q
  have e : ((n / 2 ^ k : Nat) : Int) = (n : Int) / 2 ^ k := by rw [Int.natCast_ediv, pow_castI]
  rw [← e]
  exact q
theorem on_shl : OpR X (binaryOp .LShift) (fun x y H Q => ∃ n k b : Nat, x = nI n ∧ y = nI k ∧ (n < 2 ^ b ∧ b + k ≤ 134217728) ∧ Q (nI (n <<< k)) H) := by
  intro pins s σ H x y v u Q I rx ry h
  obtain ⟨n, k, b, rfl, rfl, ⟨hb, hk⟩, q⟩ := h
  refine op_shlN pins s σ H _ _ v u Q I rx ry ⟨_, k, rfl, rfl, shl_ok (n := b) (by simpa using hb) hk, ?_⟩
  rw [Nat.shiftLeft_eq] at q
  have e : ((n * 2 ^ k : Nat) : Int) = (n : Int) * 2 ^ k := by rw [Int.natCast_mul, pow_castI]
  rw [← e]
  exact q
theorem on_and : OpR X (binaryOp .BitAnd) (fun x y H Q => ∃ n m : Nat, x = nI n ∧ y = nI m ∧ Q (nI (n &&& m)) H) := by
  intro pins s σ H x y v u Q I rx ry h
  obtain ⟨n, m, rfl, rfl, q⟩ := h
  refine op_and pins s σ H _ _ v u Q I rx ry ⟨_, _, rfl, rfl, ?_⟩
  show Q (V.int (Builtin.bitAnd (n : Int) (m : Int))) H
  rw [bitAnd_pp (Int.natCast_nonneg _) (Int.natCast_nonneg _), Int.toNat_natCast, Int.toNat_natCast]
  exact q
theorem on_or : OpR X (binaryOp .BitOr) (fun x y H Q => ∃ n m : Nat, x = nI n ∧ y = nI m ∧ Q (nI (n ||| m)) H) := by
  intro pins s σ H x y v u Q I rx ry h
  obtain ⟨n, m, rfl, rfl, q⟩ := h
  refine op_or pins s σ H _ _ v u Q I rx ry ⟨_, _, rfl, rfl, ?_⟩
  show Q (V.int (Builtin.bitOr (n : Int) (m : Int))) H
  rw [bitOr_nn (Int.natCast_nonneg _) (Int.natCast_nonneg _), Int.toNat_natCast, Int.toNat_natCast]
  exact q
theorem on_add : OpR X (binaryOp .Add) (fun x y H Q => ∃ n m : Nat, x = nI n ∧ y = nI m ∧ Q (nI (n + m)) H) := op_addN
theorem on_sub : OpR X (binaryOp .Sub) (fun x y H Q => ∃ n m : Nat, x = nI n ∧ y = nI m ∧ m ≤ n ∧ Q (nI (n - m)) H) := op_subN
theorem on_mul : OpR X (binaryOp .Mult) (fun x y H Q => ∃ n m : Nat, x = nI n ∧ y = nI m ∧ n ≤ 4294967296 ∧ Q (nI (n * m)) H) := op_mulN
theorem on_fdiv : OpR X (binaryOp .FloorDiv) (fun x y H Q => ∃ n m : Nat, x = nI n ∧ y = nI m ∧ (1 ≤ m ∧ m < 1073741824) ∧ Q (nI (n / m)) H) := op_fdivNN
theorem on_mod : OpR X (binaryOp .Mod) (fun x y H Q => ∃ n m : Nat, x = nI n ∧ y = nI m ∧ 1 ≤ m ∧ Q (nI (n % m)) H) := by
  intro pins s σ H x y v u Q I rx ry h
  obtain ⟨n, m, rfl, rfl, c, q⟩ := h
  refine op_mod pins s σ H _ _ v u Q I rx ry ⟨_, _, rfl, rfl, show (0 : Int) < (m : Int) by omega, ?_⟩
  have e : ((n % m : Nat) : Int) = (n : Int) % (m : Int) := Int.natCast_emod ..
  show Q (V.int ((n : Int) % (m : Int))) H
  rw [← e]
  exact q
theorem on_eq : OpR X (compareOp .Eq) (fun x y H Q => ∃ n m : Nat, x = nI n ∧ y = nI m ∧ Q (.bl (decide (n = m))) H) := by
  intro pins s σ H x y v u Q I rx ry h
  obtain ⟨n, m, rfl, rfl, q⟩ := h
  refine op_eq pins s σ H _ _ v u Q I rx ry ⟨rfl, ?_⟩
  have e : decide (nI n = nI m) = decide (n = m) := by
    by_cases h : n = m
    · rw [h]; simp
    · rw [decide_eq_false h, decide_eq_false]
      intro z
      injection z with z
      exact h (by omega)
  rw [e]
  exact q
theorem oi_eq : OpR X (compareOp .Eq) (fun x y H Q => ∃ i j : Int, x = .int i ∧ y = .int j ∧ Q (.bl (decide (i = j))) H) := by
  intro pins s σ H x y v u Q I rx ry h
  obtain ⟨n, m, rfl, rfl, q⟩ := h
  refine op_eq pins s σ H _ _ v u Q I rx ry ⟨rfl, ?_⟩
  have e : decide (V.int n = V.int m) = decide (n = m) := by
    by_cases h : n = m
    · rw [h]; simp
    · rw [decide_eq_false h, decide_eq_false]
      intro z
      injection z with z
      exact h z
  rw [e]
  exact q
theorem oi_ne : OpR X (compareOp .NotEq) (fun x y H Q => ∃ i j : Int, x = .int i ∧ y = .int j ∧ Q (.bl (!decide (i = j))) H) := by
  intro pins s σ H x y v u Q I rx ry h
  obtain ⟨n, m, rfl, rfl, q⟩ := h
  refine op_ne pins s σ H _ _ v u Q I rx ry ⟨rfl, ?_⟩
  have e : decide (V.int n = V.int m) = decide (n = m) := by
    by_cases h : n = m
    · rw [h]; simp
    · rw [decide_eq_false h, decide_eq_false]
      intro z
      injection z with z
      exact h z
  have e2 : decide (V.int n ≠ V.int m) = !decide (n = m) := by rw [← e, decide_not]
  first
    | (rw [e2]; exact q)
    | (rw [e]; exact q)
end
abbrev EN : XK := fun _ _ _ => False
/-- what a call finds: the def stands at f, bound by its name -/
structure DefAt (K : PySem.W.Frag) (mg : Str → Option Value) (nm : Str) (st : Stmt) (ps : List Str) (f : Addr) (fd : FuncData) : Prop where
  F : Fun K nm nm st f fd
  b : Binds K fd ps []
  g : mg nm = some (.ref f)
theorem tYes_of {σ : L2.St} {H : Hp} {Q : Bool → Hp → Prop} (h : Q true H) : tYes σ H Q := h
theorem ifT {c : Bool} {a b : Prop} (hc : c = true) (h : a) : (if c = true then a else b) := by rw [if_pos hc]; exact h
theorem ifF {c : Bool} {a b : Prop} (hc : ¬ c = true) (h : b) : (if c = true then a else b) := by rw [if_neg hc]; exact h
theorem wipe_in {σ : L2.St} {j : Nat} {v : Option V} : wipe ((wipe σ [j]).set j v) [j] = wipe σ [j] := by
  show ((σ.set j none).set j v).set j none = σ.set j none
  rw [List.set_set, List.set_set]
/-- [e for i in range(n)], the element a value by the place; what stood stands -/
theorem lcMap {te : TE} {j : Nat} {σ : L2.St} {H1 : Hp} {D : Addr} {Qd : Hp → Prop} (f : Nat → V) (n : Nat) (hn : n ≤ 100000) (hD : H1 D = none)
    (hs : ∀ i H, i < n → Same H1 H → ∀ Q : VK, (∀ H', Same H H' → Q (f i) H') → te ((wipe σ [j]).set j (some (nI i))) H Q)
    (hd : ∀ H3, Same H1 H3 → H3 D = some (.lst ((List.range n).map f)) → Qd H3) :
    ∃ W : Nat → Nat → Hp → Prop, (∃ m, W 0 m (upd H1 D (.lst []))) ∧ ∀ i m H, W i m H →
      ((Itr 0 n).stop i H ∧ Qd H) ∨ ((Itr 0 n).go i H ∧ ∃ Nx : Hp → Prop, (∀ H', Nx H' → ∃ m', m' < m ∧ W (i + 1) m' H') ∧ ∀ x H', (Itr 0 n).yld i H x H' → gName j x (wipe σ [j]) H' fun σ2 H2 => wipe σ2 [j] = wipe σ [j] ∧ tYes σ2 H2 fun b H3 =>
        if b = true then te σ2 H3 fun y H4 => ∃ acc, H4 D = some (.lst acc) ∧ acc.length < sizeLine ∧ Nx (upd H4 D (.lst (acc ++ [y]))) else Nx H3) := by
  refine lc_range (fun i H => Same H1 H ∧ H D = some (.lst ((List.range i).map f))) ⟨same_upd hD, upd_same⟩ (fun i H hi ⟨s, e⟩ => ?_) (fun H ⟨s, e⟩ => hd H s e)
  rw [Int.zero_add]
  refine ⟨wipe_in, ?_⟩
  refine tYes_of (ifT rfl ?_)
  refine hs i H hi s _ fun H' s' => ⟨_, s' _ _ e, ?_, ?_, ?_⟩
  · rw [List.length_map, List.length_range]
    exact sizeSmall (by omega)
  · exact same_put hD fun b o z => s' _ _ (s _ _ z)
  · rw [upd_same, List.range_succ, List.map_append]
    rfl
/-- [e for v in xs], xs a list of naturals -/
theorem lcMapL {K : PySem.W.Frag} {a : Addr} {te : TE} {j : Nat} {σ : L2.St} {H1 : Hp} {D : Addr} {Qd : Hp → Prop} (l : List Nat) (f : Nat → V) (hn : l.length ≤ 100000) (hS : SqL K H1 a (nv l)) (hD : H1 D = none)
    (hs : ∀ v H, v ∈ l → Same H1 H → ∀ Q : VK, (∀ H', Same H H' → Q (f v) H') → te ((wipe σ [j]).set j (some (nI v))) H Q)
    (hd : ∀ H3, Same H1 H3 → H3 D = some (.lst (l.map f)) → Qd H3) :
    ∃ W : Nat → Nat → Hp → Prop, (∃ m, W 0 m (upd H1 D (.lst []))) ∧ ∀ i m H, W i m H →
      ((Itl K a).stop i H ∧ Qd H) ∨ ((Itl K a).go i H ∧ ∃ Nx : Hp → Prop, (∀ H', Nx H' → ∃ m', m' < m ∧ W (i + 1) m' H') ∧ ∀ x H', (Itl K a).yld i H x H' → gName j x (wipe σ [j]) H' fun σ2 H2 => wipe σ2 [j] = wipe σ [j] ∧ tYes σ2 H2 fun b H3 =>
        if b = true then te σ2 H3 fun y H4 => ∃ acc, H4 D = some (.lst acc) ∧ acc.length < sizeLine ∧ Nx (upd H4 D (.lst (acc ++ [y]))) else Nx H3) := by
  refine lc_list (xs := nv l) (fun i H => Same H1 H ∧ H D = some (.lst ((l.take i).map f))) ⟨same_upd hD, upd_same⟩ (fun i H _ ⟨s, _⟩ => s.seq hS) (fun i x H hx ⟨s, e⟩ => ?_) (fun H ⟨s, e⟩ => hd H s ?_)
  · obtain ⟨v, hv, rfl⟩ : ∃ v, l[i]? = some v ∧ x = nI v := by
      unfold nv at hx
      rw [List.getElem?_map] at hx
      cases e : l[i]? with
      | none => rw [e] at hx; cases hx
      | some v => rw [e] at hx; exact ⟨v, rfl, (Option.some.inj hx).symm⟩
    refine ⟨wipe_in, ?_⟩
    refine tYes_of (ifT rfl ?_)
    refine hs v H (List.mem_of_getElem? hv) s _ fun H' s' => ⟨_, s' _ _ e, ?_, ?_, ?_⟩
    · rw [List.length_map, List.length_take]
      exact sizeSmall (by omega)
    · exact same_put hD fun b o z => s' _ _ (s _ _ z)
    · rw [upd_same, List.take_add_one, hv, List.map_append]
      rfl
  · rw [nv_length, List.take_length] at e
    exact e
theorem range_get {α : Type} {f : Nat → α} {n i : Nat} (h : i < n) : ((List.range n).map f)[i]? = some (f i) := by
  rw [List.getElem?_map, List.getElem?_range h]
  rfl
theorem map_nI (f : Nat → Nat) (l : List Nat) : l.map (fun i => nI (f i)) = nv (l.map f) := by
  unfold nv
  rw [List.map_map]
  rfl
theorem at_nvr {f : Nat → Nat} {n i : Nat} (h : i < n) : atI (nv ((List.range n).map f)) (i : Int) = some (nI (f i)) := at_nv (range_get h)
/-- [e for i in range(n) if t] -/
theorem lcFil {tt : TT} {te : TE} {j : Nat} {σ : L2.St} {H1 : Hp} {D : Addr} {Qd : Hp → Prop} (f : Nat → V) (p : Nat → Bool) (n : Nat) (hn : n ≤ 100000) (hD : H1 D = none)
    (ht : ∀ i H, i < n → Same H1 H → ∀ Q : Bool → Hp → Prop, (∀ H', Same H H' → Q (p i) H') → tt ((wipe σ [j]).set j (some (nI i))) H Q)
    (hs : ∀ i H, i < n → p i = true → Same H1 H → ∀ Q : VK, (∀ H', Same H H' → Q (f i) H') → te ((wipe σ [j]).set j (some (nI i))) H Q)
    (hd : ∀ H3, Same H1 H3 → H3 D = some (.lst (((List.range n).filter p).map f)) → Qd H3) :
    ∃ W : Nat → Nat → Hp → Prop, (∃ m, W 0 m (upd H1 D (.lst []))) ∧ ∀ i m H, W i m H →
      ((Itr 0 n).stop i H ∧ Qd H) ∨ ((Itr 0 n).go i H ∧ ∃ Nx : Hp → Prop, (∀ H', Nx H' → ∃ m', m' < m ∧ W (i + 1) m' H') ∧ ∀ x H', (Itr 0 n).yld i H x H' → gName j x (wipe σ [j]) H' fun σ2 H2 => wipe σ2 [j] = wipe σ [j] ∧ tt σ2 H2 fun b H3 =>
        if b = true then te σ2 H3 fun y H4 => ∃ acc, H4 D = some (.lst acc) ∧ acc.length < sizeLine ∧ Nx (upd H4 D (.lst (acc ++ [y]))) else Nx H3) := by
  refine lc_range (fun i H => Same H1 H ∧ H D = some (.lst (((List.range i).filter p).map f))) ⟨same_upd hD, upd_same⟩ (fun i H hi ⟨s, e⟩ => ?_) (fun H ⟨s, e⟩ => hd H s e)
  rw [Int.zero_add]
  refine ⟨wipe_in, ?_⟩
  refine ht i H hi s _ fun H' s' => ?_
  have sH : Same H1 H' := fun b o z => s' _ _ (s _ _ z)
  have ef : (List.range (i + 1)).filter p = (List.range i).filter p ++ (if p i = true then [i] else []) := by
    rw [List.range_succ, List.filter_append]
    cases hp : p i <;> simp [hp]
  by_cases hp : p i = true
  · rw [if_pos hp]
    refine hs i H' hi hp sH _ fun H2 s2 => ⟨_, s2 _ _ (s' _ _ e), ?_, ?_, ?_⟩
    · have h1 := List.length_filter_le p (List.range i)
      rw [List.length_range] at h1
      rw [List.length_map]
      exact sizeSmall (by omega)
    · exact same_put hD fun b o z => s2 _ _ (sH _ _ z)
    · rw [upd_same, ef, if_pos hp, List.map_append]
      rfl
  · rw [if_neg hp]
    refine ⟨sH, ?_⟩
    rw [ef, if_neg hp, List.append_nil]
    exact s' _ _ e
end My
/-! ### more operations: lists that may be the caller's own, comparisons, xor -/
namespace My
open PySem PySem.Spec PyProof.Rows L2
section
variable {X : Cx}
def rCatS (K : PySem.W.Frag) : V → V → Hp → VK → Prop := fun x y H Q => ∃ l b xs zs, x = .ref l ∧ y = .ref b ∧ SqL K H l xs ∧ SqL K H b zs ∧ xs.length + zs.length ≤ sizeLine ∧ ∀ p, H p = none → Q (.ref p) (upd H p (.lst (xs ++ zs)))
theorem op_catS : OpR X (binaryOp .Add) (rCatS X.K) := by
  intro pins s σ H x y v u Q I rx ry h
  obtain ⟨l, b, xs, zs, rfl, rfl, hH, hB, hz, q⟩ := h
  cases rx
  cases ry
  obtain ⟨its, r, ⟨⟨cls, dd, data, sl⟩, n, ho, hc, hd0, hd⟩, z⟩ := I.list hH
  obtain ⟨its2, r2, ⟨⟨cls2, dd2, data2, sl2⟩, n2, ho2, hc2, hd02, hd2⟩, z2⟩ := I.list hB
  simp only at hc hd hc2 hd2
  subst hc hd hc2 hd2
  have hl := r.length
  have hl2 := r2.length
  refine concat_meets ⟨_, ho, rfl⟩ ⟨_, ho2, rfl⟩ noFill_list_add seq_list_add PySem.F.slot_list_add PySem.F.entry_list_add (PySem.F.args_list_add_2 _ _) (list_addW l b its.toArray its2.toArray n n2 dd dd2 sl sl2 (by rw [List.size_toArray, List.size_toArray]; omega)) ⟨ho, ho2, ?_⟩
  have ea : its.toArray ++ its2.toArray = (its ++ its2).toArray := by simp
  rw [ea]
  exact ⟨.ref _, _, I.lnew (t' := s.toks) (r.append r2) (by rw [List.length_append]; omega), rfl, q _ I.fresh⟩
theorem on_lt : OpR X (compareOp .Lt) (fun x y H Q => ∃ n m : Nat, x = nI n ∧ y = nI m ∧ Q (.bl (decide (n < m))) H) := by
  intro pins s σ H x y v u Q I rx ry h
  obtain ⟨n, m, rfl, rfl, q⟩ := h
  have e : decide ((n : Int) < (m : Int)) = decide (n < m) := decide_eq_decide.mpr (by omega)
  refine op_lt pins s σ H _ _ v u Q I rx ry ⟨_, _, rfl, rfl, ?_⟩
  show Q (.bl (decide ((n : Int) < (m : Int)))) H
  rw [e]; exact q
theorem on_le : OpR X (compareOp .LtE) (fun x y H Q => ∃ n m : Nat, x = nI n ∧ y = nI m ∧ Q (.bl (decide (n ≤ m))) H) := by
  intro pins s σ H x y v u Q I rx ry h
  obtain ⟨n, m, rfl, rfl, q⟩ := h
  have e : decide ((n : Int) ≤ (m : Int)) = decide (n ≤ m) := decide_eq_decide.mpr (by omega)
  refine op_le pins s σ H _ _ v u Q I rx ry ⟨_, _, rfl, rfl, ?_⟩
  show Q (.bl (decide ((n : Int) ≤ (m : Int)))) H
  rw [e]; exact q
theorem on_gt : OpR X (compareOp .Gt) (fun x y H Q => ∃ n m : Nat, x = nI n ∧ y = nI m ∧ Q (.bl (decide (m < n))) H) := by
  intro pins s σ H x y v u Q I rx ry h
  obtain ⟨n, m, rfl, rfl, q⟩ := h
  have e : decide ((m : Int) < (n : Int)) = decide (m < n) := decide_eq_decide.mpr (by omega)
  refine op_gt pins s σ H _ _ v u Q I rx ry ⟨_, _, rfl, rfl, ?_⟩
  show Q (.bl (decide ((m : Int) < (n : Int)))) H
  rw [e]; exact q
theorem on_ge : OpR X (compareOp .GtE) (fun x y H Q => ∃ n m : Nat, x = nI n ∧ y = nI m ∧ Q (.bl (decide (m ≤ n))) H) := by
  intro pins s σ H x y v u Q I rx ry h
  obtain ⟨n, m, rfl, rfl, q⟩ := h
  have e : decide ((m : Int) ≤ (n : Int)) = decide (m ≤ n) := decide_eq_decide.mpr (by omega)
  refine op_ge pins s σ H _ _ v u Q I rx ry ⟨_, _, rfl, rfl, ?_⟩
  show Q (.bl (decide ((m : Int) ≤ (n : Int)))) H
  rw [e]; exact q
theorem on_ne : OpR X (compareOp .NotEq) (fun x y H Q => ∃ n m : Nat, x = nI n ∧ y = nI m ∧ Q (.bl (!decide (n = m))) H) := by
  intro pins s σ H x y v u Q I rx ry h
  obtain ⟨n, m, rfl, rfl, q⟩ := h
  have e : decide ((n : Int) = (m : Int)) = decide (n = m) := decide_eq_decide.mpr (by omega)
  refine oi_ne pins s σ H _ _ v u Q I rx ry ⟨_, _, rfl, rfl, ?_⟩
  rw [e]; exact q
theorem on_xor : OpR X (binaryOp .BitXor) (fun x y H Q => ∃ n m : Nat, x = nI n ∧ y = nI m ∧ Q (nI (n ^^^ m)) H) := by
  intro pins s σ H x y v u Q I rx ry h
  obtain ⟨n, m, rfl, rfl, q⟩ := h
  refine op_xor pins s σ H _ _ v u Q I rx ry ⟨_, _, rfl, rfl, ?_⟩
  have e : Builtin.bitXor (n : Int) (m : Int) = ((n ^^^ m : Nat) : Int) := by
    rw [bitXor_and, bitAnd_pp (Int.natCast_nonneg _) (Int.natCast_nonneg _), Int.toNat_natCast, Int.toNat_natCast]
    have k : ∀ n m : Nat, (n ^^^ m) + 2 * (n &&& m) = n + m := fun n m => by
      induction n using Nat.strongRecOn generalizing m with
      | _ n ih =>
        by_cases h0 : n = 0
        · subst h0; simp
        · have i1 := ih (n / 2) (by omega) (m / 2)
          have x1 : (n ^^^ m) / 2 = n / 2 ^^^ m / 2 := Nat.xor_div_two
          have a1 : (n &&& m) / 2 = n / 2 &&& m / 2 := Nat.and_div_two
          have x2 : (n ^^^ m) % 2 = (n + m) % 2 := by
            have hh := Nat.xor_mod_two_pow (a := n) (b := m) (n := 1)
            rw [Nat.pow_one] at hh
            rw [hh]
            rcases Nat.mod_two_eq_zero_or_one n with p | p <;> rcases Nat.mod_two_eq_zero_or_one m with p2 | p2 <;> rw [p, p2] <;> simp <;> omega
          have a2 : (n &&& m) % 2 = n % 2 * (m % 2) := by
            have hh := Nat.and_mod_two_pow (a := n) (b := m) (n := 1)
            rw [Nat.pow_one] at hh
            rw [hh]
            rcases Nat.mod_two_eq_zero_or_one n with p | p <;> rcases Nat.mod_two_eq_zero_or_one m with p2 | p2 <;> rw [p, p2] <;> rfl
          rcases Nat.mod_two_eq_zero_or_one n with p | p <;> rcases Nat.mod_two_eq_zero_or_one m with p2 | p2 <;> (rw [p, p2] at a2; omega)
    have := k n m
    omega
  show Q (V.int (Builtin.bitXor (n : Int) (m : Int))) H
  rw [e]; exact q
theorem on_mulW : OpR X (binaryOp .Mult) (fun x y H Q => ∃ n m : Nat, x = nI n ∧ y = nI m ∧ n < 2 ^ 64 ∧ Q (nI (n * m)) H) := by
  intro pins s σ H x y v u Q I rx ry h
  obtain ⟨n, m, rfl, rfl, c, q⟩ := h
  refine op_mul pins s σ H _ _ v u Q I rx ry ⟨_, _, rfl, rfl, .inl ⟨by omega, by omega⟩, ?_⟩
  show Q (V.int ((n : Int) * (m : Int))) H
  rw [← Int.natCast_mul]; exact q
theorem on_fdivW : OpR X (binaryOp .FloorDiv) (fun x y H Q => ∃ n m : Nat, x = nI n ∧ y = nI m ∧ (1 ≤ m ∧ m < 2 ^ 64) ∧ Q (nI (n / m)) H) := by
  intro pins s σ H x y v u Q I rx ry h
  obtain ⟨n, m, rfl, rfl, ⟨c1, c2⟩, q⟩ := h
  refine op_fdivW pins s σ H _ _ v u Q I rx ry ⟨_, _, rfl, rfl, wide_div (b := 64) (by omega) (by rw [Int.natAbs_natCast]; exact c2) (by decide) (by decide), ?_⟩
  show Q (V.int ((n : Int) / (m : Int))) H
  rw [← Int.natCast_ediv]; exact q
end
abbrev rnOr : V → V → Hp → VK → Prop := fun x y H Q => ∃ n m : Nat, x = nI n ∧ y = nI m ∧ Q (nI (n ||| m)) H
abbrev rnAnd : V → V → Hp → VK → Prop := fun x y H Q => ∃ n m : Nat, x = nI n ∧ y = nI m ∧ Q (nI (n &&& m)) H
abbrev rnAdd : V → V → Hp → VK → Prop := fun x y H Q => ∃ n m : Nat, x = nI n ∧ y = nI m ∧ Q (nI (n + m)) H
abbrev rnSub : V → V → Hp → VK → Prop := fun x y H Q => ∃ n m : Nat, x = nI n ∧ y = nI m ∧ m ≤ n ∧ Q (nI (n - m)) H
abbrev rnMul : V → V → Hp → VK → Prop := fun x y H Q => ∃ n m : Nat, x = nI n ∧ y = nI m ∧ n ≤ 4294967296 ∧ Q (nI (n * m)) H
abbrev rnMod : V → V → Hp → VK → Prop := fun x y H Q => ∃ n m : Nat, x = nI n ∧ y = nI m ∧ 1 ≤ m ∧ Q (nI (n % m)) H
abbrev rnShr : V → V → Hp → VK → Prop := fun x y H Q => ∃ n k : Nat, x = nI n ∧ y = nI k ∧ Q (nI (n >>> k)) H
abbrev rnShl : V → V → Hp → VK → Prop := fun x y H Q => ∃ n k b : Nat, x = nI n ∧ y = nI k ∧ (n < 2 ^ b ∧ b + k ≤ 134217728) ∧ Q (nI (n <<< k)) H
theorem cut_mid (l : List Nat) {a b : Nat} (h : a ≤ b) (hb : b ≤ l.length) : cutV (nv l) (some (a : Int)) (some (b : Int)) = nv ((l.drop a).take (b - a)) := by
  unfold cutV
  rw [HT.sIx_nat, HT.sIx_nat, nv_length]
  show ((nv l).drop (min a l.length)).take (min b l.length - min a l.length) = _
  rw [Nat.min_eq_left hb, Nat.min_eq_left (Nat.le_trans h hb)]
  unfold nv
  rw [List.map_take, List.map_drop]
theorem map_range16 {x : List Nat} (h : x.length = 16) (f : Nat → Nat) : x.map f = (List.range 16).map fun i => f (x.getD i 0) := by
  apply List.ext_getElem?
  intro i
  by_cases hi : i < 16
  · rw [range_get hi, List.getElem?_map, get_D (by omega)]
    rfl
  · rw [List.getElem?_eq_none (by simp; omega), List.getElem?_eq_none (by simp; omega)]
end My
/-! ### the request's numbers as naturals -/
namespace My
open PySem PySem.Spec PyProof.Rows L2
open PySem.W (WData Codec)
def zl (x : List Nat) : List Int := x.map fun (k : Nat) => (k : Int)
theorem zl_int (x : List Nat) : (zl x).map V.int = nv x := by unfold zl nv; rw [List.map_map]; rfl
theorem zl_back (x : List Nat) : Sv11Neutral.n (zl x) = x := by
  unfold Sv11Neutral.n zl
  rw [List.map_map]
  conv => rhs; rw [← List.map_id x]
  exact List.map_congr_left fun a _ => Int.toNat_natCast a
theorem nat_of {l : List Int} (h : ∀ z ∈ l, 0 ≤ z) : ∃ x : List Nat, l = zl x := by
  refine ⟨l.map Int.toNat, ?_⟩
  unfold zl
  rw [List.map_map]
  conv => lhs; rw [← List.map_id l]
  exact List.map_congr_left fun a ha => by
    have := h a ha
    show a = ((a.toNat : Nat) : Int)
    omega
theorem word_nat {z : Int} (h : Sv11Neutral.word z = true) : ∃ n : Nat, z = (n : Int) ∧ n < 2 ^ 32 := by
  unfold Sv11Neutral.word at h
  rw [Bool.and_eq_true, decide_eq_true_eq, decide_eq_true_eq] at h
  exact ⟨z.toNat, by omega, by omega⟩
theorem mask_nat {z : Int} (h : Sv11Neutral.mask z = true) : ∃ n : Nat, z = (n : Int) ∧ n < 65536 := by
  unfold Sv11Neutral.mask at h
  rw [Bool.and_eq_true, decide_eq_true_eq, decide_eq_true_eq] at h
  exact ⟨z.toNat, by omega, by omega⟩
theorem words_nat {l : List Int} (h : l.all Sv11Neutral.word = true) : ∃ x : List Nat, l = zl x ∧ ∀ k ∈ x, k < 2 ^ 32 := by
  rw [List.all_eq_true] at h
  obtain ⟨x, rfl⟩ := nat_of fun z hz => by
    obtain ⟨n, e, _⟩ := word_nat (h z hz)
    omega
  refine ⟨x, rfl, fun k hk => ?_⟩
  obtain ⟨n, e, hn⟩ := word_nat (h (k : Int) (List.mem_map.mpr ⟨k, hk, rfl⟩))
  have : k = n := by omega
  omega
theorem row_nat {l : List Int} (h : Sv11Neutral.row l = true) : ∃ x : List Nat, l = zl x ∧ x.length = 16 ∧ ∀ k ∈ x, k < 2 ^ 32 := by
  unfold Sv11Neutral.row at h
  rw [Bool.and_eq_true, decide_eq_true_eq] at h
  obtain ⟨x, rfl, hx⟩ := words_nat h.1
  refine ⟨x, rfl, ?_, hx⟩
  have e := h.2
  unfold zl at e
  rw [List.length_map] at e
  exact e
/-- a row's word as the specification reads it -/
theorem word_eq {x : List Nat} (h : ∀ k ∈ x, k < 2 ^ 32) (i : Nat) : Sv11.word x i = x.getD i 0 := by
  unfold Sv11.word
  apply Nat.mod_eq_of_lt
  rw [List.getD_eq_getElem?_getD]
  cases e : x[i]? with
  | none => show 0 < 2 ^ 32; decide
  | some v => exact h v (List.mem_of_getElem? e)
theorem getD_lt {x : List Nat} (h : ∀ k ∈ x, k < 2 ^ 32) (i : Nat) : x.getD i 0 < 2 ^ 32 := by
  rw [List.getD_eq_getElem?_getD]
  cases e : x[i]? with
  | none => show 0 < 2 ^ 32; decide
  | some v => exact h v (List.mem_of_getElem? e)
theorem words_eq {f g : Nat → Nat} (h : ∀ i, i < 16 → f i = g i ∧ g i < 2 ^ 32) : Sv11.words f = (List.range 16).map g := by
  unfold Sv11.words
  refine List.map_congr_left fun i hi => ?_
  obtain ⟨e, l⟩ := h i (List.mem_range.mp hi)
  rw [e, Nat.mod_eq_of_lt l]
theorem dw_nv {K : PySem.W.Frag} {H : Hp} {p : Addr} {l : List Nat} (h : H p = some (.lst (nv l))) : Dw K H (.ref p) (.list ((zl l).map WData.int)) := by
  rw [← zl_int] at h
  exact .lst (SqL.of h) (dw_ints _)
theorem dw_cons {K : PySem.W.Frag} {H : Hp} {xs : List V} {d : WData} {ds : List WData} (h : DwAll K H xs (d :: ds)) : ∃ v vs, xs = v :: vs ∧ Dw K H v d ∧ DwAll K H vs ds := by
  cases h with
  | cons h1 h2 => exact ⟨_, _, rfl, h1, h2⟩
theorem dw_row {K : PySem.W.Frag} {H : Hp} {v : V} {x : List Nat} (h : Dw K H v (.list ((zl x).map WData.int))) : ∃ a, v = .ref a ∧ SqL K H a (nv x) := by
  cases h with
  | lst hs ha =>
    have e := L2.ints_dw (zl x) _ ha
    subst e
    rw [zl_int] at hs
    exact ⟨_, rfl, hs⟩
end My
/-! ### longs -/
namespace My
def lg (x : List Nat) (i : Nat) : Nat := x.getD (2 * i) 0 ||| (x.getD (2 * i + 1) 0 <<< 32)
def longsM (x : List Nat) : List Nat := (List.range 8).map (lg x)
def wordsM (l : List Nat) : List Nat := l.flatMap fun v => [v &&& 4294967295, v >>> 32]
theorem lg_eq {x : List Nat} (h : ∀ k ∈ x, k < 2 ^ 32) (i : Nat) : lg x i = Sv11.long x i := by
  unfold lg Sv11.long
  rw [word_eq h, word_eq h, Nat.shiftLeft_eq, Nat.or_comm, Nat.mul_comm (x.getD (2 * i + 1) 0), ← Nat.two_pow_add_eq_or_of_lt (getD_lt h (2 * i))]
  exact Nat.add_comm _ _
theorem long_lt (x : List Nat) (i : Nat) : Sv11.long x i < 2 ^ 64 := by
  unfold Sv11.long
  have a : Sv11.word x (2 * i) < 2 ^ 32 := Nat.mod_lt _ (by decide)
  have b : Sv11.word x (2 * i + 1) < 2 ^ 32 := Nat.mod_lt _ (by decide)
  generalize Sv11.word x (2 * i) = p at a
  generalize Sv11.word x (2 * i + 1) = q at b
  omega
theorem lg_lt {x : List Nat} (h : ∀ k ∈ x, k < 2 ^ 32) (i : Nat) : lg x i < 2 ^ 64 := by rw [lg_eq h]; exact long_lt x i
/-- a function of eight longs, as words -/
theorem words_longs (f : Nat → Nat) (h : ∀ i, i < 8 → f i < 2 ^ 64) : wordsM ((List.range 8).map f) = Sv11.longs f := by
  have e : ∀ v : Nat, v < 2 ^ 64 → v &&& 4294967295 = v / 2 ^ (32 * 0) % 2 ^ 32 ∧ v >>> 32 = v / 2 ^ (32 * 1) % 2 ^ 32 := fun v hv => by
    refine ⟨?_, ?_⟩
    · have := Nat.and_two_pow_sub_one_eq_mod v 32
      rw [show (2 : Nat) ^ 32 - 1 = 4294967295 by decide] at this
      rw [this]
      simp
    · rw [Nat.shiftRight_eq_div_pow]
      rw [Nat.mul_one, Nat.mod_eq_of_lt]
      omega
  have r8 : List.range 8 = [0, 1, 2, 3, 4, 5, 6, 7] := by decide
  have r16 : List.range 16 = [0, 1, 2, 3, 4, 5, 6, 7, 8, 9, 10, 11, 12, 13, 14, 15] := by decide
  unfold wordsM Sv11.longs Sv11.words
  rw [r8, r16]
  simp only [List.map_cons, List.map_nil, List.flatMap_cons, List.flatMap_nil, List.cons_append, List.nil_append]
  rw [(e _ (h 0 (by decide))).1, (e _ (h 0 (by decide))).2, (e _ (h 1 (by decide))).1, (e _ (h 1 (by decide))).2, (e _ (h 2 (by decide))).1, (e _ (h 2 (by decide))).2, (e _ (h 3 (by decide))).1, (e _ (h 3 (by decide))).2,
    (e _ (h 4 (by decide))).1, (e _ (h 4 (by decide))).2, (e _ (h 5 (by decide))).1, (e _ (h 5 (by decide))).2, (e _ (h 6 (by decide))).1, (e _ (h 6 (by decide))).2, (e _ (h 7 (by decide))).1, (e _ (h 7 (by decide))).2]
/-- two longs, one above the other, shifted -/
def jl (u l a : Nat) : Nat := (u <<< a ||| l >>> (64 - a)) &&& 18446744073709551615
def jr (u l a : Nat) : Nat := (l >>> a ||| u <<< (64 - a)) &&& 18446744073709551615
theorem and_top (v : Nat) : v &&& 18446744073709551615 = v % 2 ^ 64 := Nat.and_two_pow_sub_one_eq_mod v 64
theorem jl_lt (u l a : Nat) : jl u l a < 2 ^ 64 := by unfold jl; rw [and_top]; exact Nat.mod_lt _ (by decide)
theorem jr_lt (u l a : Nat) : jr u l a < 2 ^ 64 := by unfold jr; rw [and_top]; exact Nat.mod_lt _ (by decide)
theorem pow_parts {a : Nat} (h : a ≤ 64) : 2 ^ 64 = 2 ^ a * 2 ^ (64 - a) := by rw [← Nat.pow_add]; congr 1; omega
theorem jl_sum {u l a : Nat} (hl : l < 2 ^ 64) (h : a ≤ 64) : jl u l a = (u * 2 ^ a + l / 2 ^ (64 - a)) % 2 ^ 64 := by
  unfold jl
  have b : l / 2 ^ (64 - a) < 2 ^ a := by
    rw [Nat.div_lt_iff_lt_mul (Nat.two_pow_pos _), ← pow_parts h]
    exact hl
  rw [and_top, Nat.shiftLeft_eq, Nat.shiftRight_eq_div_pow, Nat.mul_comm u, ← Nat.two_pow_add_eq_or_of_lt b]
theorem jr_sum {u l a : Nat} (hl : l < 2 ^ 64) (h : a ≤ 64) : jr u l a = (u * 2 ^ (64 - a) + l / 2 ^ a) % 2 ^ 64 := by
  unfold jr
  have b : l / 2 ^ a < 2 ^ (64 - a) := by
    rw [Nat.div_lt_iff_lt_mul (Nat.two_pow_pos _), Nat.mul_comm, ← pow_parts h]
    exact hl
  rw [and_top, Nat.shiftLeft_eq, Nat.shiftRight_eq_div_pow, Nat.mul_comm u, Nat.or_comm, ← Nat.two_pow_add_eq_or_of_lt b]
theorem jl_eq {u l a : Nat} (hl : l < 2 ^ 64) (h : a ≤ 64) : jl u l a = (u * 2 ^ 64 + l) * 2 ^ a / 2 ^ 64 % 2 ^ 64 := by
  rw [jl_sum hl h]
  congr 1
  have e1 : (u * 2 ^ 64 + l) * 2 ^ a = l * 2 ^ a + 2 ^ 64 * (u * 2 ^ a) := by
    rw [Nat.add_mul, Nat.add_comm, Nat.mul_assoc, Nat.mul_comm u (2 ^ 64 * 2 ^ a), Nat.mul_assoc, Nat.mul_comm (2 ^ a) u]
  have e2 : l * 2 ^ a / 2 ^ 64 = l / 2 ^ (64 - a) := by
    rw [pow_parts h, Nat.mul_comm l, Nat.mul_div_mul_left _ _ (Nat.two_pow_pos a)]
  rw [e1, Nat.add_mul_div_left _ _ (Nat.two_pow_pos 64), e2, Nat.add_comm]
theorem jr_eq {u l a : Nat} (hl : l < 2 ^ 64) (h : a ≤ 64) : jr u l a = (u * 2 ^ 64 + l) / 2 ^ a % 2 ^ 64 := by
  rw [jr_sum hl h]
  congr 1
  have e1 : u * 2 ^ 64 + l = l + 2 ^ a * (u * 2 ^ (64 - a)) := by
    rw [pow_parts h, Nat.add_comm]
    congr 1
    rw [Nat.mul_left_comm]
  rw [e1, Nat.add_mul_div_left _ _ (Nat.two_pow_pos a), Nat.add_comm]
theorem turned_left {x k : Nat} (hx : x < 2 ^ 64) (h : k ≤ 64) : Sv11.turned x k = jl x x k := by
  rw [jl_sum hx h]
  rfl
theorem turned_right {x k : Nat} (hx : x < 2 ^ 64) (h : k < 64) : Sv11.turned x ((64 - k) % 64) = jr x x k := by
  rw [jr_sum hx (by omega)]
  unfold Sv11.turned
  by_cases hk : k = 0
  · subst hk
    have e1 : x / 2 ^ 64 = 0 := Nat.div_eq_of_lt hx
    show (x * 2 ^ 0 + x / 2 ^ 64) % 2 ^ 64 = (x * 2 ^ 64 + x / 2 ^ 0) % 2 ^ 64
    rw [e1, Nat.pow_zero, Nat.mul_one, Nat.div_one, Nat.add_zero, Nat.mul_comm, Nat.mul_add_mod]
  · have e : (64 - k) % 64 = 64 - k := Nat.mod_eq_of_lt (by omega)
    have e2 : 64 - (64 - k) = k := by omega
    rw [e, e2]
theorem longs_congr {f g : Nat → Nat} (h : ∀ i, i < 8 → f i = g i) : Sv11.longs f = Sv11.longs g := by
  unfold Sv11.longs Sv11.words
  refine List.map_congr_left fun i hi => ?_
  have := List.mem_range.mp hi
  show f (i / 2) / 2 ^ (32 * (i % 2)) % 2 ^ 32 = g (i / 2) / 2 ^ (32 * (i % 2)) % 2 ^ 32
  rw [h (i / 2) (by omega)]
theorem words_self {x : List Nat} (hl : x.length = 16) (hx : ∀ k ∈ x, k < 2 ^ 32) : Sv11.words (Sv11.word x) = x := by
  rw [words_eq (g := fun i => x.getD i 0) fun i _ => ⟨word_eq hx i, getD_lt hx i⟩]
  apply List.ext_getElem?
  intro i
  by_cases h : i < 16
  · rw [range_get h, get_D (by omega)]
  · rw [List.getElem?_eq_none (by simp; omega), List.getElem?_eq_none (by omega)]
end My
/-! ### bytes -/
namespace My
def byteN (v k : Nat) : Nat := (v >>> (8 * k)) &&& 255
theorem byteN_eq (v k : Nat) : byteN v k = v / 2 ^ (8 * k) % 256 := by
  unfold byteN
  rw [Nat.shiftRight_eq_div_pow]
  exact Nat.and_two_pow_sub_one_eq_mod _ 8
theorem byteN_lt (v k : Nat) : byteN v k < 256 := by rw [byteN_eq]; exact Nat.mod_lt _ (by decide)
theorem byte_long (z : List Nat) (j k : Nat) (hk : k < 8) : Sv11.byte z (8 * j + k) = byteN (Sv11.long z j) k := by
  rw [byteN_eq]
  unfold Sv11.byte Sv11.long
  have h0 : Sv11.word z (2 * j) < 2 ^ 32 := Nat.mod_lt _ (by decide)
  have h1 : Sv11.word z (2 * j + 1) < 2 ^ 32 := Nat.mod_lt _ (by decide)
  have hc : k < 4 ∨ (4 ≤ k ∧ k < 8) := by omega
  rcases hc with h | ⟨h, h'⟩
  · rw [show (8 * j + k) / 4 = 2 * j by omega, show (8 * j + k) % 4 = k by omega]
    generalize Sv11.word z (2 * j) = p at *
    generalize Sv11.word z (2 * j + 1) = q at *
    have hc : k = 0 ∨ k = 1 ∨ k = 2 ∨ k = 3 := by omega
    rcases hc with rfl | rfl | rfl | rfl <;> simp only [Nat.reduceMul, Nat.reducePow] <;> omega
  · rw [show (8 * j + k) / 4 = 2 * j + 1 by omega, show (8 * j + k) % 4 = k - 4 by omega]
    generalize Sv11.word z (2 * j) = p at *
    generalize Sv11.word z (2 * j + 1) = q at *
    have hc : k = 4 ∨ k = 5 ∨ k = 6 ∨ k = 7 := by omega
    rcases hc with rfl | rfl | rfl | rfl <;> simp only [Nat.reduceMul, Nat.reducePow, Nat.reduceSub] <;> omega
end My
/-! ### sums of distances -/
namespace My
def fourD (a i b j : Nat) : Nat := ((List.range 4).map fun k => Sv11.far (byteN a (i + k)) (byteN b (j + k))).sum
theorem far_lt {a b : Nat} (ha : a < 256) (hb : b < 256) : Sv11.far a b < 256 := by
  unfold Sv11.far
  omega
theorem far_abs (a b : Nat) : (if ((a : Int) - (b : Int)) < 0 then -((a : Int) - (b : Int)) else ((a : Int) - (b : Int))) = ((Sv11.far a b : Nat) : Int) := by
  unfold Sv11.far
  split <;> omega
theorem fourD_lt (a i b j : Nat) : fourD a i b j < 65536 := by
  unfold fourD
  have h := fun k => far_lt (byteN_lt a (i + k)) (byteN_lt b (j + k))
  have h0 := h 0
  have h1 := h 1
  have h2 := h 2
  have h3 := h 3
  rw [show List.range 4 = [0, 1, 2, 3] by decide]
  show Sv11.far (byteN a (i + 0)) (byteN b (j + 0)) + (Sv11.far (byteN a (i + 1)) (byteN b (j + 1)) + (Sv11.far (byteN a (i + 2)) (byteN b (j + 2)) + (Sv11.far (byteN a (i + 3)) (byteN b (j + 3)) + 0))) < 65536
  omega
def sumsL (a b : Nat) : Nat → Nat
  | 0 => 0
  | n + 1 => sumsL a b n ||| (fourD a (4 * (n / 2)) b n <<< (16 * n))
theorem sumsL_lt (a b : Nat) : ∀ n, sumsL a b n < 2 ^ (16 * n) ∧ sumsL a b (n + 1) = sumsL a b n + 2 ^ (16 * n) * fourD a (4 * (n / 2)) b n
  | 0 => ⟨by show 0 < 1; decide, by
      show 0 ||| (fourD a (4 * (0 / 2)) b 0 <<< (16 * 0)) = 0 + 2 ^ (16 * 0) * fourD a (4 * (0 / 2)) b 0
      rw [Nat.zero_or]; simp⟩
  | n + 1 => by
    obtain ⟨h1, h2⟩ := sumsL_lt a b n
    have hb := fourD_lt a (4 * (n / 2)) b n
    have h3 : sumsL a b (n + 1) < 2 ^ (16 * (n + 1)) := by
      rw [h2, show 16 * (n + 1) = 16 * n + 16 by omega, Nat.pow_add]
      have : 2 ^ (16 * n) * fourD a (4 * (n / 2)) b n ≤ 2 ^ (16 * n) * 65535 := Nat.mul_le_mul_left _ (by omega)
      omega
    refine ⟨h3, ?_⟩
    show sumsL a b (n + 1) ||| (fourD a (4 * ((n + 1) / 2)) b (n + 1) <<< (16 * (n + 1))) = _
    rw [Nat.shiftLeft_eq, Nat.mul_comm (fourD a (4 * ((n + 1) / 2)) b (n + 1)), Nat.or_comm, ← Nat.two_pow_add_eq_or_of_lt h3, Nat.add_comm]
theorem sumsL_4 (a b : Nat) : sumsL a b 4 = fourD a 0 b 0 + 2 ^ 16 * fourD a 0 b 1 + 2 ^ 32 * fourD a 4 b 2 + 2 ^ 48 * fourD a 4 b 3 := by
  rw [(sumsL_lt a b 3).2, (sumsL_lt a b 2).2, (sumsL_lt a b 1).2, (sumsL_lt a b 0).2]
  show 0 + 2 ^ (16 * 0) * fourD a 0 b 0 + _ + _ + _ = _
  rw [Nat.mul_zero, Nat.pow_zero, Nat.one_mul, Nat.zero_add]
theorem four_eq (x z : List Nat) (k a b : Nat) (ha : a ≤ 4) (hb : b ≤ 4) : ((List.range 4).map fun i => Sv11.far (Sv11.byte x (8 * k + a + i)) (Sv11.byte z (8 * k + b + i))).sum = fourD (Sv11.long x k) a (Sv11.long z k) b := by
  unfold fourD
  congr 1
  refine List.map_congr_left fun i hi => ?_
  have := List.mem_range.mp hi
  rw [Nat.add_assoc, Nat.add_assoc, byte_long x k (a + i) (by omega), byte_long z k (b + i) (by omega)]
end My
namespace My
open PySem PySem.Spec PyProof.Rows L2
def topS (i : Nat) : Stmt := PySem.Challenge.pw_sixteenwordsdesk_s13_apart.main.body.getD i (.Pass ⟨0, 0, 0, 0⟩)
abbrev s_two_bits : Stmt := topS 7
abbrev s_longs_of : Stmt := topS 8
abbrev s_words_of : Stmt := topS 9
abbrev s_byte_of : Stmt := topS 10
abbrev s_four_distances : Stmt := topS 11
abbrev s_sums_of_distances : Stmt := topS 12
abbrev s_apart : Stmt := topS 13
structure Txt (K : PySem.W.Frag) (mg : Str → Option Value) : Prop where
  c_WORDS : ∃ t, mg "WORDS" = some (.int 16 t)
  c_LONGS : ∃ t, mg "LONGS" = some (.int 8 t)
  c_FOURTH_WORDS : ∃ t, mg "FOURTH_WORDS" = some (.int 4 t)
  c_WORD_BITS : ∃ t, mg "WORD_BITS" = some (.int 32 t)
  c_TOP_WORD : ∃ t, mg "TOP_WORD" = some (.int 4294967295 t)
  c_TOP_BYTE : ∃ t, mg "TOP_BYTE" = some (.int 255 t)
  n_abs : mg "abs" = none
  n_range : mg "range" = none
  n_sum : mg "sum" = none
section
variable {P : Program} {w : World} {K : PySem.W.Frag} {mg : Str → Option Value} {base : Heap}
/-! ### two_bits -/
theorem sc_two_bits : FnScope ["number", "j"] ["number", "j"] (defScope s_two_bits) := ⟨rfl, rfl, rfl, by decide +kernel, rfl, by decide +kernel, by decide +kernel⟩
def twoN (n j : Nat) : Nat := (n >>> (2 * j)) % 4
theorem twoN_lt (n j : Nat) : twoN n j < 4 := Nat.mod_lt _ (by decide)
theorem twoN_eq (n j : Nat) : n / 4 ^ j % 4 = twoN n j := by
  unfold twoN
  rw [Nat.shiftRight_eq_div_pow, Nat.pow_mul]
def sp_two_bits : Sp := fun vs H Q _ => ∃ n j : Nat, vs = [nI n, nI j] ∧ Q (nI (twoN n j)) H
theorem ok_two_bits {f : Addr} {fd : FuncData} (F : Fun K "two_bits" "two_bits" s_two_bits f fd) : FnOk P w K mg base CX0 1 f fd ["number", "j"] sp_two_bits := by
  refine F.ok sc_two_bits (fun vs H Q E h => ?_) (fun cdv A outer s H vs Q E hr h => ?_)
  · obtain ⟨n, j, rfl, _⟩ := h
    rfl
  · obtain ⟨n, j, rfl, q⟩ := h
    refine ⟨_, pss_one (ps_ret (pe_op on_mod (pe_op on_shr (pv 0) (pe_op on_mul pe_int (pv 1))) pe_int)), ?_⟩
    exact ⟨_, rfl, _, rfl, 2, j, rfl, rfl, by decide, n, 2 * j, rfl, rfl, _, 4, rfl, rfl, by decide, q⟩
/-! ### longs_of -/
theorem sc_longs_of : FnScope ["row", "i"] ["row"] (defScope s_longs_of) := ⟨rfl, rfl, rfl, by decide +kernel, rfl, by decide +kernel, by decide +kernel⟩
def sp_longs_of (K : PySem.W.Frag) : Sp := fun vs H Q _ => ∃ (a : Addr) (x : List Nat), vs = [.ref a] ∧ SqL K H a (nv x) ∧ x.length = 16 ∧ (∀ k ∈ x, k < 2 ^ 32) ∧
  ∀ H' p, Same H H' → H p = none → H' p = some (.lst (nv (longsM x))) → Q (.ref p) H'
theorem ok_longs_of {f : Addr} {fd : FuncData} (T : Txt K mg) (F : Fun K "longs_of" "longs_of" s_longs_of f fd) : FnOk P w K mg base CX0 1 f fd ["row"] (sp_longs_of K) := by
  obtain ⟨tL, hL⟩ := T.c_LONGS
  obtain ⟨tW, hW⟩ := T.c_WORD_BITS
  refine F.ok sc_longs_of (fun vs H Q E h => ?_) (fun cdv A outer s H vs Q E hr h => ?_)
  · obtain ⟨a, x, rfl, _⟩ := h
    rfl
  · obtain ⟨a, x, rfl, hA, hl, hb, q⟩ := h
    refine ⟨_, pss_one (ps_ret (pe_lc (own := [("i", 1)]) (g := gName 1) (tt := tYes)
      (te := tOp (fun x y H Q => ∃ n m : Nat, x = nI n ∧ y = nI m ∧ Q (nI (n ||| m)) H) (tOp (rIxL K) (tVar 0) (tOp (fun x y H Q => ∃ n m : Nat, x = nI n ∧ y = nI m ∧ n ≤ 4294967296 ∧ Q (nI (n * m)) H) (tC (.int 2)) (tVar 1)))
        (tOp (fun x y H Q => ∃ n k b : Nat, x = nI n ∧ y = nI k ∧ (n < 2 ^ b ∧ b + k ≤ 134217728) ∧ Q (nI (n <<< k)) H)
          (tOp (rIxL K) (tVar 0) (tOp (fun x y H Q => ∃ n m : Nat, x = nI n ∧ y = nI m ∧ Q (nI (n + m)) H) (tOp (fun x y H Q => ∃ n m : Nat, x = nI n ∧ y = nI m ∧ n ≤ 4294967296 ∧ Q (nI (n * m)) H) (tC (.int 2)) (tVar 1)) (tC (.int 1)))) (tC (nI 32)))) (by rfl) sc_longs_of.nd
        (pi_range1 (by rfl) T.n_range (pa_cons (pe_glob (v := nI 8) (by rfl) hL ⟨_, rfl⟩) pa_nil))
        (blkOk_by (own := [("i", 1)]) (N := ["row", "i"]) (sc := defScope s_longs_of) (by decide +kernel))
        (fun _ _ _ _ _ => pg_name (i := 1) sc_longs_of.nd rfl (Or.inl rfl)) (fun _ _ _ _ _ => pts_nil)
        (fun _ _ _ _ _ => pe_op on_or (pe_ix ix_list (pv 0) (pe_op on_mul pe_int (pv 1)) (fun _ _ => rfl))
          (pe_op on_shl (pe_ix ix_list (pv 0) (pe_op on_add (pe_op on_mul pe_int (pv 1)) pe_int) (fun _ _ => rfl)) (pe_glob (v := nI 32) (by rfl) hW ⟨_, rfl⟩))))), ?_⟩
    refine ⟨8, rfl, by decide, by decide, fun D hD => ?_⟩
    refine lcMap (fun i => nI (lg x i)) 8 (by decide) hD ?_ ?_
    · intro i H' hi sm Q' hq
      have hA' := sm.seq hA
      refine ⟨.ref a, rfl, _, rfl, 2, i, rfl, rfl, by decide, a, nv x, _, nI (x.getD (2 * i) 0), rfl, rfl, hA', at_nv (get_D (by omega)), ?_⟩
      refine ⟨.ref a, rfl, _, rfl, 2, i, rfl, rfl, by decide, _, 1, rfl, rfl, a, nv x, _, nI (x.getD (2 * i + 1) 0), rfl, rfl, hA', at_nv (get_D (by omega)), ?_⟩
      exact ⟨_, 32, 32, rfl, rfl, ⟨getD_lt hb _, by decide⟩, _, _, rfl, rfl, hq _ (same_refl _)⟩
    · intro H3 s3 e3
      rw [map_nI] at e3
      exact q H3 D s3 hD e3
/-! ### words_of -/
theorem sc_words_of : FnScope ["longs", "words", "value"] ["longs"] (defScope s_words_of) := ⟨rfl, rfl, rfl, by decide +kernel, rfl, by decide +kernel, by decide +kernel⟩
theorem wordsM_len (l : List Nat) : (wordsM l).length = 2 * l.length := by
  unfold wordsM
  induction l with
  | nil => rfl
  | cons x r ih =>
    rw [List.flatMap_cons, List.length_append, ih, List.length_cons]
    show 2 + 2 * r.length = 2 * (r.length + 1)
    omega
def sp_words_of (K : PySem.W.Frag) : Sp := fun vs H Q _ => ∃ (a : Addr) (l : List Nat), vs = [.ref a] ∧ SqL K H a (nv l) ∧ l.length ≤ 1000 ∧
  ∀ H' p, Same H H' → H p = none → H' p = some (.lst (nv (wordsM l))) → Q (.ref p) H'
theorem ok_words_of {f : Addr} {fd : FuncData} (T : Txt K mg) (F : Fun K "words_of" "words_of" s_words_of f fd) : FnOk P w K mg base CX0 1 f fd ["longs"] (sp_words_of K) := by
  obtain ⟨tL, hL⟩ := T.c_TOP_WORD
  obtain ⟨tW, hW⟩ := T.c_WORD_BITS
  refine F.ok sc_words_of (fun vs H Q E h => ?_) (fun cdv A outer s H vs Q E hr h => ?_)
  · obtain ⟨a, l, rfl, _⟩ := h
    rfl
  · obtain ⟨a, l, rfl, hA, hl, q⟩ := h
    refine ⟨_, pss_cons (ps_set (i := 1) sc_words_of.nd rfl (.inl rfl) (pe_lst pa_nil))
      (pss_cons (ps_for PassesOwn.never rfl (pi_list (pv 0)) (pg_name (i := 2) sc_words_of.nd rfl (Or.inl rfl))
        (pss_cons (ps_expr (pe_bm PySem.F.plainAttrs_list PySem.F.slot_list_append PySem.F.type_list_append mt_append (pv 1) (pa_cons (pe_op on_and (pv 2) (pe_glob (v := nI 4294967295) (by rfl) hL ⟨_, rfl⟩)) pa_nil)))
        (pss_one (ps_expr (pe_bm PySem.F.plainAttrs_list PySem.F.slot_list_append PySem.F.type_list_append mt_append (pv 1) (pa_cons (pe_op on_shr (pv 2) (pe_glob (v := nI 32) (by rfl) hW ⟨_, rfl⟩)) pa_nil))))))
      (pss_one (ps_ret (pv 1)))), ?_⟩
    refine ⟨Nat.zero_le _, fun D hD => ?_⟩
    refine ⟨.ref a, rfl, a, rfl, ⟨_, (same_upd hD).seq hA⟩, ?_⟩
    refine for_list (K := K) (a := a) (xs := nv l) (fun i σ H' => ∃ v, σ = [some (.ref a), some (.ref D), v] ∧ Same H H' ∧ H' D = some (.lst (nv (wordsM (l.take i)))))
      ⟨none, rfl, same_upd hD, upd_same⟩ (fun i σ H' _ ⟨_, _, sm, _⟩ => sm.seq hA) (fun i x σ H' hx hP => ?_) (fun σ H' hP => ?_)
    · obtain ⟨v, rfl, sm, eD⟩ := hP
      obtain ⟨n, hn, rfl⟩ : ∃ n, l[i]? = some n ∧ x = nI n := by
        unfold nv at hx
        rw [List.getElem?_map] at hx
        cases e : l[i]? with
        | none => rw [e] at hx; cases hx
        | some v => rw [e] at hx; exact ⟨v, rfl, (Option.some.inj hx).symm⟩
      have hlen : (nv (wordsM (l.take i))).length ≤ 2000 := by
        rw [nv_length, wordsM_len, List.length_take]
        omega
      refine ⟨.ref D, rfl, .inl ⟨rfl, _, SqL.of eD⟩, _, rfl, n, 4294967295, rfl, rfl, D, _, _, rfl, rfl, eD, sizeSmall (by omega), ?_⟩
      refine ⟨.ref D, rfl, .inl ⟨rfl, _, SqL.of upd_same⟩, _, rfl, n, 32, rfl, rfl, D, _, _, rfl, rfl, upd_same, ?_, ?_⟩
      · rw [List.length_append]
        exact sizeSmall (by show _ + 1 ≤ _; omega)
      · refine ⟨some (nI n), rfl, same_put hD (same_put hD sm), ?_⟩
        rw [upd_same, List.take_add_one, hn]
        unfold wordsM
        rw [List.flatMap_append, nv_append, List.append_assoc]
        rfl
    · obtain ⟨v, rfl, sm, eD⟩ := hP
      rw [nv_length, List.take_length] at eD
      exact ⟨.ref D, rfl, q H' D sm hD eD⟩
/-! ### byte_of -/
theorem sc_byte_of : FnScope ["value", "k"] ["value", "k"] (defScope s_byte_of) := ⟨rfl, rfl, rfl, by decide +kernel, rfl, by decide +kernel, by decide +kernel⟩
def sp_byte_of : Sp := fun vs H Q _ => ∃ v k : Nat, vs = [nI v, nI k] ∧ Q (nI (byteN v k)) H
theorem ok_byte_of {f : Addr} {fd : FuncData} (T : Txt K mg) (F : Fun K "byte_of" "byte_of" s_byte_of f fd) : FnOk P w K mg base CX0 1 f fd ["value", "k"] sp_byte_of := by
  obtain ⟨tB, hB⟩ := T.c_TOP_BYTE
  refine F.ok sc_byte_of (fun vs H Q E h => ?_) (fun cdv A outer s H vs Q E hr h => ?_)
  · obtain ⟨v, k, rfl, _⟩ := h
    rfl
  · obtain ⟨v, k, rfl, q⟩ := h
    refine ⟨_, pss_one (ps_ret (pe_op on_and (pe_op on_shr (pv 0) (pe_op on_mul pe_int (pv 1))) (pe_glob (v := nI 255) (by rfl) hB ⟨_, rfl⟩))), ?_⟩
    exact ⟨_, rfl, _, rfl, 8, k, rfl, rfl, by decide, v, 8 * k, rfl, rfl, _, 255, rfl, rfl, q⟩
/-! ### four_distances -/
theorem sc_four_distances : FnScope ["one", "one_start", "other", "other_start", "k"] ["one", "one_start", "other", "other_start"] (defScope s_four_distances) := ⟨rfl, rfl, rfl, by decide +kernel, rfl, by decide +kernel, by decide +kernel⟩
theorem zl_sum : ∀ l : List Nat, (zl l).sum = ((l.sum : Nat) : Int)
  | [] => rfl
  | a :: l => by
    show (a : Int) + (zl l).sum = ((a + l.sum : Nat) : Int)
    rw [zl_sum l]
    omega
def sp_four_distances : Sp := fun vs H Q _ => ∃ a i b j : Nat, vs = [nI a, nI i, nI b, nI j] ∧ ∀ H', Same H H' → Q (nI (fourD a i b j)) H'
theorem ok_four_distances {f fB : Addr} {fd fdB : FuncData} (T : Txt K mg) (F : Fun K "four_distances" "four_distances" s_four_distances f fd) (DB : DefAt K mg "byte_of" s_byte_of ["value", "k"] fB fdB) :
    FnOk P w K mg base CX0 2 f fd ["one", "one_start", "other", "other_start"] sp_four_distances := by
  have GB : FnOk P w K mg base CX0 1 fB fdB ["value", "k"] sp_byte_of := ok_byte_of T DB.F
  refine F.ok sc_four_distances (fun vs H Q E h => ?_) (fun cdv A outer s H vs Q E hr h => ?_)
  · obtain ⟨a, i, b, j, rfl, _⟩ := h
    rfl
  · obtain ⟨a, i, b, j, rfl, q⟩ := h
    refine ⟨_, pss_one (ps_ret (pe_callB (cr_sum rfl) (by rfl) T.n_sum (by decide +kernel) (pa_cons (pe_lc (own := [("k", 4)]) (g := gName 4) (tt := tYes) (by rfl) sc_four_distances.nd
          (pi_range1 (by rfl) T.n_range (pa_cons pe_int pa_nil))
          (blkOk_by (own := [("k", 4)]) (N := ["one", "one_start", "other", "other_start", "k"]) (sc := defScope s_four_distances) (by decide +kernel))
          (fun _ _ _ _ _ => pg_name (i := 4) sc_four_distances.nd rfl (Or.inl rfl)) (fun _ _ _ _ _ => pts_nil)
          (fun _ _ _ _ _ => pe_callB call_abs (by rfl) T.n_abs (by decide +kernel) (pa_cons (pe_op op_sub
            (pe_call (E := EN) GB hr (by rfl) DB.g DB.F.kp DB.b .nil pass0 (pa_cons (pv 0) (pa_cons (pe_op on_add (pv 1) (pv 4)) pa_nil)))
            (pe_call (E := EN) GB hr (by rfl) DB.g DB.F.kp DB.b .nil pass0 (pa_cons (pv 2) (pa_cons (pe_op on_add (pv 3) (pv 4)) pa_nil)))) pa_nil))) pa_nil))), ?_⟩
    refine ⟨4, rfl, by decide, by decide, fun D hD => ?_⟩
    refine lcMap (fun k => nI (Sv11.far (byteN a (i + k)) (byteN b (j + k)))) 4 (by decide) hD ?_ ?_
    · intro k H' hk sm Q' hq
      have hq := hq _ (same_refl _)
      refine ⟨_, rfl, _, rfl, _, rfl, i, k, rfl, rfl, a, i + k, rfl, _, rfl, _, rfl, _, rfl, j, k, rfl, rfl, b, j + k, rfl, _, _, rfl, rfl, _, rfl, ?_⟩
      rw [far_abs]
      exact hq
    · intro H3 s3 e3
      rw [map_nI, ← zl_int] at e3
      refine ⟨D, _, rfl, SqL.of e3, ?_⟩
      rw [zl_sum]
      exact q H3 s3
/-! ### sums_of_distances -/
theorem sc_sums_of_distances : FnScope ["one", "other", "answer", "j"] ["one", "other"] (defScope s_sums_of_distances) := ⟨rfl, rfl, rfl, by decide +kernel, rfl, by decide +kernel, by decide +kernel⟩
def sp_sums_of_distances : Sp := fun vs H Q _ => ∃ a b : Nat, vs = [nI a, nI b] ∧ ∀ H', Same H H' → Q (nI (sumsL a b 4)) H'
theorem ok_sums_of_distances {f fD fB : Addr} {fd fdD fdB : FuncData} (T : Txt K mg) (F : Fun K "sums_of_distances" "sums_of_distances" s_sums_of_distances f fd) (DD : DefAt K mg "four_distances" s_four_distances ["one", "one_start", "other", "other_start"] fD fdD) (DB : DefAt K mg "byte_of" s_byte_of ["value", "k"] fB fdB) :
    FnOk P w K mg base CX0 3 f fd ["one", "other"] sp_sums_of_distances := by
  have GD : FnOk P w K mg base CX0 2 fD fdD ["one", "one_start", "other", "other_start"] sp_four_distances := ok_four_distances T DD.F DB
  refine F.ok sc_sums_of_distances (fun vs H Q E h => ?_) (fun cdv A outer s H vs Q E hr h => ?_)
  · obtain ⟨a, b, rfl, _⟩ := h
    rfl
  · obtain ⟨a, b, rfl, q⟩ := h
    refine ⟨_, pss_cons (ps_set (i := 2) sc_sums_of_distances.nd rfl (.inl rfl) pe_int)
      (pss_cons (ps_for PassesOwn.never rfl (pi_range1 (by rfl) T.n_range (pa_cons pe_int pa_nil)) (pg_name (i := 3) sc_sums_of_distances.nd rfl (Or.inl rfl))
        (pss_one (ps_set (i := 2) sc_sums_of_distances.nd rfl (.inl rfl) (pe_op on_or (pv 2) (pe_op on_shl
          (pe_call (E := EN) GD hr (by rfl) DD.g DD.F.kp DD.b .nil pass0 (pa_cons (pv 0) (pa_cons (pe_op on_mul pe_int (pe_op on_fdiv (pv 3) pe_int)) (pa_cons (pv 1) (pa_cons (pv 3) pa_nil)))))
          (pe_op on_mul pe_int (pv 3)))))))
      (pss_one (ps_ret (pv 2)))), ?_⟩
    refine ⟨4, rfl, by decide, by decide, ?_⟩
    refine for_range (lo := 0) (n := 4) (fun i σ H' => ∃ y1, σ = [some (nI a), some (nI b), some (nI (sumsL a b i)), y1] ∧ Same H H')
      ⟨none, rfl, same_refl _⟩ (fun i σ H' hi hP => ?_) (fun σ H' hP => ?_)
    · obtain ⟨y1, rfl, sm⟩ := hP
      rw [Int.zero_add]
      refine ⟨_, rfl, _, rfl, _, rfl, i, 2, rfl, rfl, ⟨by decide, by decide⟩, 4, i / 2, rfl, rfl, by decide, _, rfl, _, rfl, a, 4 * (i / 2), b, i, rfl, fun H2 s2 => ?_⟩
      refine ⟨_, rfl, 16, i, rfl, rfl, by decide, _, _, 16, rfl, rfl, ⟨fourD_lt _ _ _ _, by omega⟩, _, _, rfl, rfl, _, rfl, sm.trans s2⟩
    · obtain ⟨y1, rfl, sm⟩ := hP
      exact ⟨_, rfl, q H' sm⟩
/-! ### apart -/
theorem sc_apart : FnScope ["how", "x", "y", "x_longs", "ordered", "y_longs", "i"] ["how", "x", "y"] (defScope s_apart) := ⟨rfl, rfl, rfl, by decide +kernel, rfl, by decide +kernel, by decide +kernel⟩
def ordG (how : Nat) (y : List Nat) (i : Nat) : Nat := y.getD (i - i % 4 + twoN how (i % 4)) 0
def ordM (how : Nat) (y : List Nat) : List Nat := (List.range 16).map (ordG how y)
def apartG (how : Nat) (x y : List Nat) (k : Nat) : Nat := sumsL (lg x k) (lg (ordM how y) k) 4
def apartM (how : Nat) (x y : List Nat) : List Nat := wordsM ((List.range 8).map (apartG how x y))
theorem ord_bound (how : Nat) {y : List Nat} (hy : ∀ k ∈ y, k < 2 ^ 32) : ∀ k ∈ ordM how y, k < 2 ^ 32 := fun k hk => by
  obtain ⟨i, _, rfl⟩ := List.mem_map.mp hk
  exact getD_lt hy _
def sp_apart (K : PySem.W.Frag) : Sp := fun vs H Q _ => ∃ (how : Nat) (a b : Addr) (x y : List Nat), vs = [nI how, .ref a, .ref b] ∧ how < 2 ^ 32 ∧ SqL K H a (nv x) ∧ SqL K H b (nv y) ∧ (x.length = 16 ∧ y.length = 16) ∧
  ((∀ k ∈ x, k < 2 ^ 32) ∧ (∀ k ∈ y, k < 2 ^ 32)) ∧ ∀ H' p, H' p = some (.lst (nv (apartM how x y))) → Q (.ref p) H'
theorem ok_apart {f fT fO fW fS fD fB : Addr} {fd fdT fdO fdW fdS fdD fdB : FuncData} (T : Txt K mg) (F : Fun K "apart" "apart" s_apart f fd) (DT : DefAt K mg "two_bits" s_two_bits ["number", "j"] fT fdT) (DO : DefAt K mg "longs_of" s_longs_of ["row"] fO fdO) (DW : DefAt K mg "words_of" s_words_of ["longs"] fW fdW)
    (DS : DefAt K mg "sums_of_distances" s_sums_of_distances ["one", "other"] fS fdS) (DD : DefAt K mg "four_distances" s_four_distances ["one", "one_start", "other", "other_start"] fD fdD) (DB : DefAt K mg "byte_of" s_byte_of ["value", "k"] fB fdB) :
    FnOk P w K mg base CX0 4 f fd ["how", "x", "y"] (sp_apart K) := by
  have GT : FnOk P w K mg base CX0 1 fT fdT ["number", "j"] sp_two_bits := ok_two_bits DT.F
  have GO : FnOk P w K mg base CX0 1 fO fdO ["row"] (sp_longs_of K) := ok_longs_of T DO.F
  have GW : FnOk P w K mg base CX0 1 fW fdW ["longs"] (sp_words_of K) := ok_words_of T DW.F
  have GS : FnOk P w K mg base CX0 3 fS fdS ["one", "other"] sp_sums_of_distances := ok_sums_of_distances T DS.F DD DB
  obtain ⟨tW, hW⟩ := T.c_WORDS
  obtain ⟨tL, hL⟩ := T.c_LONGS
  obtain ⟨tF, hF⟩ := T.c_FOURTH_WORDS
  refine F.ok sc_apart (fun vs H Q E h => ?_) (fun cdv A outer s H vs Q E hr h => ?_)
  · obtain ⟨how, a, b, x, y, rfl, _⟩ := h
    rfl
  · obtain ⟨how, a, b, x, y, rfl, hn, hA, hB, ⟨hl1, hl2⟩, ⟨b1, b2⟩, q⟩ := h
    have hr1 : Room 1 _ := hr.mono (by decide)
    refine ⟨_, pss_cons (ps_set (i := 3) sc_apart.nd rfl (.inr rfl) (pe_call (E := EN) GO hr1 (by rfl) DO.g DO.F.kp DO.b .nil pass0 (pa_cons (pv 1) pa_nil)))
      (pss_cons (ps_setLc (i := 4) (own := [("i", 6)]) (g := gName 6)
        (te := tOp (rIxL K) (tVar 2) (tOp rnAdd (tOp rnSub (tVar 6) (tOp rnMod (tVar 6) (tC (nI 4)))) (tCall sp_two_bits [] EN (tCons (tVar 0) (tCons (tOp rnMod (tVar 6) (tC (nI 4))) tNil))))) (by rfl) sc_apart.nd rfl rfl (sw_true rfl rfl rfl (by decide +kernel))
        (pi_range1 (by rfl) T.n_range (pa_cons (pe_glob (v := nI 16) (by rfl) hW ⟨_, rfl⟩) pa_nil))
        (blkOk_by (own := [("i", 6)]) (N := ["how", "x", "y", "x_longs", "ordered", "y_longs", "i"]) (sc := defScope s_apart) (by decide +kernel))
        (fun _ _ _ _ _ => pg_name (i := 6) sc_apart.nd rfl (Or.inl rfl)) (fun _ _ _ _ _ => pts_nil)
        (fun _ _ _ _ _ => pe_ix ix_list (pv 2) (pe_op on_add (pe_op on_sub (pv 6) (pe_op on_mod (pv 6) (pe_glob (v := nI 4) (by rfl) hF ⟨_, rfl⟩)))
          (pe_call GT hr1 (by rfl) DT.g DT.F.kp DT.b .nil pass0 (pa_cons (pv 0) (pa_cons (pe_op on_mod (pv 6) (pe_glob (v := nI 4) (by rfl) hF ⟨_, rfl⟩)) pa_nil)))) (fun _ _ => rfl)))
      (pss_cons (ps_set (i := 5) sc_apart.nd rfl (.inr rfl) (pe_call (E := EN) GO hr1 (by rfl) DO.g DO.F.kp DO.b .nil pass0 (pa_cons (pv 4) pa_nil)))
      (pss_one (ps_ret (pe_call (E := EN) GW hr1 (by rfl) DW.g DW.F.kp DW.b .nil pass0 (pa_cons (pe_lc (own := [("i", 6)]) (g := gName 6) (tt := tYes)
          (te := tCall sp_sums_of_distances [] EN (tCons (tOp (rIxL K) (tVar 3) (tVar 6)) (tCons (tOp (rIxL K) (tVar 5) (tVar 6)) tNil))) (by rfl) sc_apart.nd
          (pi_range1 (by rfl) T.n_range (pa_cons (pe_glob (v := nI 8) (by rfl) hL ⟨_, rfl⟩) pa_nil))
          (blkOk_by (own := [("i", 6)]) (N := ["how", "x", "y", "x_longs", "ordered", "y_longs", "i"]) (sc := defScope s_apart) (by decide +kernel))
          (fun _ _ _ _ _ => pg_name (i := 6) sc_apart.nd rfl (Or.inl rfl)) (fun _ _ _ _ _ => pts_nil)
          (fun _ _ _ _ _ => pe_call GS hr (by rfl) DS.g DS.F.kp DS.b .nil pass0 (pa_cons (pe_ix ix_list (pv 3) (pv 6) (fun _ _ => rfl)) (pa_cons (pe_ix ix_list (pv 5) (pv 6) (fun _ _ => rfl)) pa_nil)))) pa_nil)))))), ?_⟩
    refine ⟨.ref a, rfl, a, x, rfl, hA, hl1, b1, fun H1 p1 s1 n1 e1 => ?_⟩
    have hB1 := s1.seq hB
    refine ⟨16, rfl, by decide, by decide, fun D hD => ?_⟩
    refine lcMap (fun i => nI (ordG how y i)) 16 (by decide) hD ?_ ?_
    · intro i H' hi sm Q' hq
      have t := twoN_lt how (i % 4)
      refine ⟨.ref b, rfl, _, rfl, _, rfl, i, 4, rfl, rfl, by decide, i, i % 4, rfl, rfl, Nat.mod_le _ _, _, rfl, _, rfl, i, 4, rfl, rfl, by decide, how, i % 4, rfl, i - i % 4, twoN how (i % 4), rfl, rfl, b, nv y, _, nI (ordG how y i), rfl, rfl, sm.seq hB1, at_nv (get_D (by omega)), hq _ (same_refl _)⟩
    · intro H2 s2 e2
      rw [map_nI] at e2
      have e1 := s2 _ _ e1
      refine ⟨.ref D, rfl, D, ordM how y, rfl, SqL.of e2, by unfold ordM; rw [List.length_map, List.length_range], ord_bound how b2, fun H3 p3 s3 n3 e3 => ?_⟩
      have e1 := s3 _ _ e1
      refine ⟨8, rfl, by decide, by decide, fun D2 hD2 => ?_⟩
      refine lcMap (fun i => nI (apartG how x y i)) 8 (by decide) hD2 ?_ ?_
      · intro i H' hi sm Q' hq
        refine ⟨.ref p1, rfl, _, rfl, p1, nv (longsM x), _, nI (lg x i), rfl, rfl, SqL.of (sm _ _ e1), at_nvr hi, ?_⟩
        refine ⟨.ref p3, rfl, _, rfl, p3, nv (longsM (ordM how y)), _, nI (lg (ordM how y) i), rfl, rfl, SqL.of (sm _ _ e3), at_nvr hi, ?_⟩
        exact ⟨_, _, rfl, fun H4 s4 => hq _ s4⟩
      · intro H5 s5 e5
        rw [map_nI] at e5
        exact ⟨D2, _, rfl, SqL.of e5, by rw [List.length_map, List.length_range]; decide, fun H' p sm np hp => q H' p hp⟩
end
theorem all_mk {P : Program} {w : World} {K : PySem.W.Frag} {h : Heap} {mg : Str → Option Value} {fa f1 f2 f3 f4 f5 f6 f7 : Addr} (X : K.In h) (G : h.Ns mainGlobals mg) (hfa : mg "apart" = some (.ref fa))
    {od1 an1 od2 an2 od3 an3 od4 an4 od5 an5 od6 an6 od7 an7 : Option Addr} {sl1 sl2 sl3 sl4 sl5 sl6 sl7 : Array (Option Value)} {oc1 kV1 dc1 pm1 cd1 ct1 oc2 kV2 dc2 pm2 cd2 ct2 oc3 kV3 dc3 pm3 cd3 ct3 oc4 kV4 dc4 pm4 cd4 ct4 oc5 kV5 dc5 pm5 cd5 ct5 oc6 kV6 dc6 pm6 cd6 ct6 oc7 kV7 dc7 pm7 cd7 ct7 : Value}
    {t_WORDS t_LONGS t_FOURTH_WORDS t_WORD_BITS t_TOP_WORD t_TOP_BYTE : Tok}
    (a1 : PySem.W.nsIn K mainGlobals "two_bits" = some (some (.ref f1))) (l1 : K.lookup f1 = some ⟨oc1, od1, .func (PySem.W.fnOf "two_bits" "two_bits" (defArgs s_two_bits) (defBody s_two_bits) (defScope s_two_bits) .none kV1 dc1 pm1 an1 cd1 ct1), sl1⟩) (c1 : PySem.W.codeIn K cd1 "two_bits" = true) (k1 : PySem.W.keepIn K (.ref f1) = true)
    (a2 : PySem.W.nsIn K mainGlobals "longs_of" = some (some (.ref f2))) (l2 : K.lookup f2 = some ⟨oc2, od2, .func (PySem.W.fnOf "longs_of" "longs_of" (defArgs s_longs_of) (defBody s_longs_of) (defScope s_longs_of) .none kV2 dc2 pm2 an2 cd2 ct2), sl2⟩) (c2 : PySem.W.codeIn K cd2 "longs_of" = true) (k2 : PySem.W.keepIn K (.ref f2) = true)
    (a3 : PySem.W.nsIn K mainGlobals "words_of" = some (some (.ref f3))) (l3 : K.lookup f3 = some ⟨oc3, od3, .func (PySem.W.fnOf "words_of" "words_of" (defArgs s_words_of) (defBody s_words_of) (defScope s_words_of) .none kV3 dc3 pm3 an3 cd3 ct3), sl3⟩) (c3 : PySem.W.codeIn K cd3 "words_of" = true) (k3 : PySem.W.keepIn K (.ref f3) = true)
    (a4 : PySem.W.nsIn K mainGlobals "byte_of" = some (some (.ref f4))) (l4 : K.lookup f4 = some ⟨oc4, od4, .func (PySem.W.fnOf "byte_of" "byte_of" (defArgs s_byte_of) (defBody s_byte_of) (defScope s_byte_of) .none kV4 dc4 pm4 an4 cd4 ct4), sl4⟩) (c4 : PySem.W.codeIn K cd4 "byte_of" = true) (k4 : PySem.W.keepIn K (.ref f4) = true)
    (a5 : PySem.W.nsIn K mainGlobals "four_distances" = some (some (.ref f5))) (l5 : K.lookup f5 = some ⟨oc5, od5, .func (PySem.W.fnOf "four_distances" "four_distances" (defArgs s_four_distances) (defBody s_four_distances) (defScope s_four_distances) .none kV5 dc5 pm5 an5 cd5 ct5), sl5⟩) (c5 : PySem.W.codeIn K cd5 "four_distances" = true) (k5 : PySem.W.keepIn K (.ref f5) = true)
    (a6 : PySem.W.nsIn K mainGlobals "sums_of_distances" = some (some (.ref f6))) (l6 : K.lookup f6 = some ⟨oc6, od6, .func (PySem.W.fnOf "sums_of_distances" "sums_of_distances" (defArgs s_sums_of_distances) (defBody s_sums_of_distances) (defScope s_sums_of_distances) .none kV6 dc6 pm6 an6 cd6 ct6), sl6⟩) (c6 : PySem.W.codeIn K cd6 "sums_of_distances" = true) (k6 : PySem.W.keepIn K (.ref f6) = true)
    (a7 : PySem.W.nsIn K mainGlobals "apart" = some (some (.ref f7))) (l7 : K.lookup f7 = some ⟨oc7, od7, .func (PySem.W.fnOf "apart" "apart" (defArgs s_apart) (defBody s_apart) (defScope s_apart) .none kV7 dc7 pm7 an7 cd7 ct7), sl7⟩) (c7 : PySem.W.codeIn K cd7 "apart" = true) (k7 : PySem.W.keepIn K (.ref f7) = true)
    (v_WORDS : PySem.W.nsIn K mainGlobals "WORDS" = some (some (.int 16 t_WORDS)))
    (v_LONGS : PySem.W.nsIn K mainGlobals "LONGS" = some (some (.int 8 t_LONGS)))
    (v_FOURTH_WORDS : PySem.W.nsIn K mainGlobals "FOURTH_WORDS" = some (some (.int 4 t_FOURTH_WORDS)))
    (v_WORD_BITS : PySem.W.nsIn K mainGlobals "WORD_BITS" = some (some (.int 32 t_WORD_BITS)))
    (v_TOP_WORD : PySem.W.nsIn K mainGlobals "TOP_WORD" = some (some (.int 4294967295 t_TOP_WORD)))
    (v_TOP_BYTE : PySem.W.nsIn K mainGlobals "TOP_BYTE" = some (some (.int 255 t_TOP_BYTE)))
    (z_abs : PySem.W.nsIn K mainGlobals "abs" = some none)
    (z_range : PySem.W.nsIn K mainGlobals "range" = some none)
    (z_sum : PySem.W.nsIn K mainGlobals "sum" = some none)
    : ∃ fd : FuncData, (∀ (s : Shared) (us : List Value), us.length = (["how", "x", "y"] : List Str).length → BindsTo s fd ⟨us, []⟩ ((["how", "x", "y"] : List Str).zip us)) ∧ ∀ base : Heap, K.In base → base.Ns mainGlobals mg → FnOk P w K mg base CX0 4 fa fd ["how", "x", "y"] (sp_apart K) := by
  have e := hfa.symm.trans (PySem.W.mg_of X G a7)
  cases e
  have T : Txt K mg := ⟨⟨_, PySem.W.mg_of X G v_WORDS⟩, ⟨_, PySem.W.mg_of X G v_LONGS⟩, ⟨_, PySem.W.mg_of X G v_FOURTH_WORDS⟩, ⟨_, PySem.W.mg_of X G v_WORD_BITS⟩, ⟨_, PySem.W.mg_of X G v_TOP_WORD⟩, ⟨_, PySem.W.mg_of X G v_TOP_BYTE⟩, PySem.W.mg_none_of X G z_abs, PySem.W.mg_none_of X G z_range, PySem.W.mg_none_of X G z_sum⟩
  have F1 := fun_mk (st := s_two_bits) l1 c1 k1
  have b1 := F1.binds (ps := ["number", "j"]) fun _ _ _ _ _ _ us hl => match us, hl with | [_, _], _ => rfl
  have D1 : DefAt K mg "two_bits" s_two_bits ["number", "j"] f1 _ := ⟨F1, b1, PySem.W.mg_of X G a1⟩
  have F2 := fun_mk (st := s_longs_of) l2 c2 k2
  have b2 := F2.binds (ps := ["row"]) fun _ _ _ _ _ _ us hl => match us, hl with | [_], _ => rfl
  have D2 : DefAt K mg "longs_of" s_longs_of ["row"] f2 _ := ⟨F2, b2, PySem.W.mg_of X G a2⟩
  have F3 := fun_mk (st := s_words_of) l3 c3 k3
  have b3 := F3.binds (ps := ["longs"]) fun _ _ _ _ _ _ us hl => match us, hl with | [_], _ => rfl
  have D3 : DefAt K mg "words_of" s_words_of ["longs"] f3 _ := ⟨F3, b3, PySem.W.mg_of X G a3⟩
  have F4 := fun_mk (st := s_byte_of) l4 c4 k4
  have b4 := F4.binds (ps := ["value", "k"]) fun _ _ _ _ _ _ us hl => match us, hl with | [_, _], _ => rfl
  have D4 : DefAt K mg "byte_of" s_byte_of ["value", "k"] f4 _ := ⟨F4, b4, PySem.W.mg_of X G a4⟩
  have F5 := fun_mk (st := s_four_distances) l5 c5 k5
  have b5 := F5.binds (ps := ["one", "one_start", "other", "other_start"]) fun _ _ _ _ _ _ us hl => match us, hl with | [_, _, _, _], _ => rfl
  have D5 : DefAt K mg "four_distances" s_four_distances ["one", "one_start", "other", "other_start"] f5 _ := ⟨F5, b5, PySem.W.mg_of X G a5⟩
  have F6 := fun_mk (st := s_sums_of_distances) l6 c6 k6
  have b6 := F6.binds (ps := ["one", "other"]) fun _ _ _ _ _ _ us hl => match us, hl with | [_, _], _ => rfl
  have D6 : DefAt K mg "sums_of_distances" s_sums_of_distances ["one", "other"] f6 _ := ⟨F6, b6, PySem.W.mg_of X G a6⟩
  have F7 := fun_mk (st := s_apart) l7 c7 k7
  have b7 := F7.binds (ps := ["how", "x", "y"]) fun _ _ _ _ _ _ us hl => match us, hl with | [_, _, _], _ => rfl
  exact ⟨PySem.W.fnOf "apart" "apart" (defArgs s_apart) (defBody s_apart) (defScope s_apart) .none kV7 dc7 pm7 an7 cd7 ct7, fun s us hu => match us, hu with | [_, _, _], _ => .of_eq rfl, fun base _ _ => ok_apart T F7 D1 D2 D3 D6 D5 D4⟩
theorem ord_is (how : Nat) {y : List Nat} (hy : ∀ k ∈ y, k < 2 ^ 32) : (Sv11.words fun i => Sv11.word y (i / 4 * 4 + how / 4 ^ (i % 4) % 4)) = ordM how y := by
  refine words_eq fun i _ => ⟨?_, getD_lt hy _⟩
  unfold ordG
  rw [word_eq hy, twoN_eq, show i / 4 * 4 = i - i % 4 by omega]
theorem apart_is (how : Nat) {x y : List Nat} (hx : ∀ k ∈ x, k < 2 ^ 32) (hy : ∀ k ∈ y, k < 2 ^ 32) : Sv11.apart x y how = apartM how x y := by
  unfold apartM
  rw [words_longs (apartG how x y) fun i _ => (sumsL_lt _ _ 4).1]
  unfold Sv11.apart
  rw [ord_is how hy]
  refine longs_congr fun k _ => ?_
  unfold apartG
  rw [sumsL_4, lg_eq hx, lg_eq (ord_bound how hy)]
  have e := fun a b ha hb => four_eq x (ordM how y) k a b ha hb
  simp only []
  rw [e 0 0 (by decide) (by decide), e 0 1 (by decide) (by decide), e 4 2 (by decide) (by decide), e 4 3 (by decide) (by decide)]
theorem spec_apart {x y : List Nat} (how : Nat) (_ : how < 2 ^ 32) (hl : x.length = 16) (hl2 : y.length = 16) (hx : ∀ k ∈ x, k < 2 ^ 32) (hy : ∀ k ∈ y, k < 2 ^ 32) : PySv11.apart (how : Int) (zl x) (zl y) = zl (apartM how x y) := by
  show (Sv11.apart (Sv11Neutral.n (zl x)) (Sv11Neutral.n (zl y)) how).map (fun (k : Nat) => (k : Int)) = _
  rw [zl_back, zl_back, apart_is how hx hy]
  rfl
theorem req_apart {K : PySem.W.Frag} {H : Hp} {xs : List V} {a : PySem.W.Codec.denoteAll PySem.Challenge.rw_sixteenwordsdesk_s13_apart.args}
    (hask : PySem.W.Codec.app PySem.Challenge.rw_sixteenwordsdesk_s13_apart.args PySem.Challenge.rw_sixteenwordsdesk_s13_apart.asked a = true) (hx : DwAll K H xs (PySem.W.Codec.encAll PySem.Challenge.rw_sixteenwordsdesk_s13_apart.args a)) :
    sp_apart K xs H (fun v H' => Dw K H' v (PySem.Challenge.rw_sixteenwordsdesk_s13_apart.ret.enc (PySem.W.Codec.app PySem.Challenge.rw_sixteenwordsdesk_s13_apart.args PySem.Challenge.rw_sixteenwordsdesk_s13_apart.f a))) fun _ _ _ => False := by
  obtain ⟨how, x, y, u⟩ := a
  have hask : (Sv11Neutral.word how && (Sv11Neutral.row x && (Sv11Neutral.row y))) = true := hask
  rw [Bool.and_eq_true, Bool.and_eq_true] at hask
  obtain ⟨how, rfl, hb_how⟩ := word_nat hask.1
  obtain ⟨x, rfl, hl_x, hw_x⟩ := row_nat (hask.2.1)
  obtain ⟨y, rfl, hl_y, hw_y⟩ := row_nat (hask.2.2)
  have hx : DwAll K H xs [.int how, .list ((zl x).map PySem.W.WData.int), .list ((zl y).map PySem.W.WData.int)] := hx
  obtain ⟨v0, r0, rfl, h0, hx⟩ := dw_cons hx
  obtain ⟨v1, r1, rfl, h1, hx⟩ := dw_cons hx
  obtain ⟨v2, r2, rfl, h2, hx⟩ := dw_cons hx
  cases hx
  cases h0
  obtain ⟨a1, rfl, s1⟩ := dw_row h1
  obtain ⟨a2, rfl, s2⟩ := dw_row h2
  refine ⟨how, a1, a2, x, y, rfl, hb_how, s1, s2, ⟨hl_x, hl_y⟩, ⟨hw_x, hw_y⟩, fun H' p hp => ?_⟩
  show Dw K H' (.ref p) (.list ((PySv11.apart (how : Int) (zl x) (zl y)).map PySem.W.WData.int))
  rw [spec_apart how hb_how hl_x hl_y hw_x hw_y]
  exact dw_nv hp
end My
open PySem PySem.W PyProof.Rows
set_option maxRecDepth 100000 in
set_option maxHeartbeats 8000000 in
theorem PySem.Challenge.cw_sixteenwordsdesk_s13_apart_holds : PySem.Challenge.rw_sixteenwordsdesk_s13_apart.Holds := by
  w_on; k_headS; (case hw => exact ⟨[.int 0, .list [.int 0, .int 0, .int 0, .int 0, .int 0, .int 0, .int 0, .int 0, .int 0, .int 0, .int 0, .int 0, .int 0, .int 0, .int 0, .int 0], .list [.int 0, .int 0, .int 0, .int 0, .int 0, .int 0, .int 0, .int 0, .int 0, .int 0, .int 0, .int 0, .int 0, .int 0, .int 0, .int 0]], by decide +kernel, by decide +kernel⟩)
  k_fillS
  refine L2.walk_specK (r := PySem.Challenge.rw_sixteenwordsdesk_s13_apart) (k := 4) (CX := L2.CX0) (ps := ["how", "x", "y"]) (sp := My.sp_apart) (by decide +kernel) rfl rfl ⟨rfl, by decide, by decide⟩ (fun w h Y => PySem.W.kIn_of Y) ?F ?S (fun _ _ _ _ z => z)
  case F =>
    intro w mg fa h Y KX G hmg
    refine' My.all_mk KX G hmg ?a1 ?l1 ?c1 ?k1 ?a2 ?l2 ?c2 ?k2 ?a3 ?l3 ?c3 ?k3 ?a4 ?l4 ?c4 ?k4 ?a5 ?l5 ?c5 ?k5 ?a6 ?l6 ?c6 ?k6 ?a7 ?l7 ?c7 ?k7 ?v_WORDS ?v_LONGS ?v_FOURTH_WORDS ?v_WORD_BITS ?v_TOP_WORD ?v_TOP_BYTE ?z_abs ?z_range ?z_sum
    (case a1 => k_is); (case l1 => k_is); (case c1 => k_is); (case k1 => k_is); (case a2 => k_is); (case l2 => k_is); (case c2 => k_is); (case k2 => k_is); (case a3 => k_is); (case l3 => k_is); (case c3 => k_is); (case k3 => k_is); (case a4 => k_is); (case l4 => k_is); (case c4 => k_is); (case k4 => k_is); (case a5 => k_is); (case l5 => k_is); (case c5 => k_is); (case k5 => k_is); (case a6 => k_is); (case l6 => k_is); (case c6 => k_is); (case k6 => k_is); (case a7 => k_is); (case l7 => k_is); (case c7 => k_is); (case k7 => k_is); (case v_WORDS => k_is); (case v_LONGS => k_is); (case v_FOURTH_WORDS => k_is); (case v_WORD_BITS => k_is); (case v_TOP_WORD => k_is); (case v_TOP_BYTE => k_is); (case z_abs => k_is); (case z_range => k_is); (case z_sum => k_is)
  case S =>
    intro K H xs a hO hwi hask hx
    exact My.req_apart hask hx
#print axioms PySem.Challenge.cw_sixteenwordsdesk_s13_apart_holds
