import PyProof.Rows.All
import Wide.All
import OpenK.AllK
import Wide.FinOn
import Open.SpecLaws
import KE.OsGo
import HandS.Base
import HandS.Call
import HandS.List
import HandS.Ends
import HandS.Spec
import HandS.Words
import HandS.WordsList
import HandS.Comp
import HandS.WideBits
import PySem.Challenge.RW_sixteenwordsdesk_s08_bits
set_option Elab.async false
set_option linter.all false
set_option maxRecDepth 100000
set_option maxHeartbeats 1000000
/-! ### words of my own: naturals as Python ints, rows as lists of naturals -/
namespace My
open PySem PySem.Spec PyProof.Rows L2
abbrev nI (n : Nat) : V := V.int (n : Int)
def nv (l : List Nat) : List V := l.map nI
theorem nv_length (l : List Nat) : (nv l).length = l.length := List.length_map ..
theorem nv_append (a b : List Nat) : nv (a ++ b) = nv a ++ nv b := List.map_append ..
theorem nv_get {l : List Nat} {i n : Nat} (h : l[i]? = some n) : (nv l)[i]? = some (nI n) := by
  unfold nv; rw [List.getElem?_map, h]; rfl
theorem at_nv {l : List Nat} {i n : Nat} (h : l[i]? = some n) : atI (nv l) ((i : Nat) : Int) = some (nI n) := atI_nat (nv_get h)
theorem get_D {l : List Nat} {i : Nat} (h : i < l.length) : l[i]? = some (l.getD i 0) := by
  rw [List.getD_eq_getElem?_getD, List.getElem?_eq_getElem h]; rfl
theorem same_upd {H : Hp} {p : Addr} {o : HO} (h : H p = none) : Same H (upd H p o) := fun b x e => by
  rw [upd_ne (ne_of_none e h)]
  exact e
theorem same_refl (H : Hp) : Same H H := fun _ _ e => e
/-- what was there before p was made stands behind a store at p -/
theorem same_put {H H' : Hp} {p : Addr} {o : HO} (h : H p = none) (s : Same H H') : Same H (upd H' p o) := fun b x e => by
  rw [upd_ne (ne_of_none e h)]
  exact s b x e
theorem ne_made {H H' : Hp} {p q : Addr} {o : HO} (h : H p = some o) (s : Same H H') (hq : H' q = none) : q ≠ p := fun e => by
  subst e
  rw [s _ _ h] at hq
  cases hq
theorem sizeSmall {n : Nat} (h : n ≤ 100000) : n < sizeLine := Nat.lt_of_le_of_lt h (by decide)
section
variable {X : Cx}
theorem pow_castI (k : Nat) : ((2 ^ k : Nat) : Int) = (2 : Int) ^ k := PySem.W.kbt_cast k
theorem on_shr : OpR X (binaryOp .RShift) (fun x y H Q => ∃ n k : Nat, x = nI n ∧ y = nI k ∧ Q (nI (n >>> k)) H) := by
  intro pins s σ H x y v u Q I rx ry h
  obtain ⟨n, k, rfl, rfl, q⟩ := h
  refine op_shrN pins s σ H _ _ v u Q I rx ry ⟨_, k, rfl, rfl, ?_⟩
  rw [Nat.shiftRight_eq_div_pow] at q
  have e : ((n / 2 ^ k : Nat) : Int) = (n : Int) / 2 ^ k := by rw [Int.natCast_ediv, pow_castI]
  rw [← e]
  exact q
theorem on_shl : OpR X (binaryOp .LShift) (fun x y H Q => ∃ n k b : Nat, x = nI n ∧ y = nI k ∧ (n < 2 ^ b ∧ b + k ≤ 134217728) ∧ Q (nI (n <<< k)) H) := by
  intro pins s σ H x y v u Q I rx ry h
  obtain ⟨n, k, b, rfl, rfl, ⟨hb, hk⟩, q⟩ := h
  refine op_shlN pins s σ H _ _ v u Q I rx ry ⟨_, k, rfl, rfl, shl_ok (n := b) (by simpa using hb) hk, ?_⟩
  rw [Nat.shiftLeft_eq] at q
  have e : ((n * 2 ^ k : Nat) : Int) = (n : Int) * 2 ^ k := by rw [Int.natCast_mul, pow_castI]
  rw [← e]
  exact q
theorem on_and : OpR X (binaryOp .BitAnd) (fun x y H Q => ∃ n m : Nat, x = nI n ∧ y = nI m ∧ Q (nI (n &&& m)) H) := by
  intro pins s σ H x y v u Q I rx ry h
  obtain ⟨n, m, rfl, rfl, q⟩ := h
  refine op_and pins s σ H _ _ v u Q I rx ry ⟨_, _, rfl, rfl, ?_⟩
  show Q (V.int (Builtin.bitAnd (n : Int) (m : Int))) H
  rw [bitAnd_pp (Int.natCast_nonneg _) (Int.natCast_nonneg _), Int.toNat_natCast, Int.toNat_natCast]
  exact q
theorem on_or : OpR X (binaryOp .BitOr) (fun x y H Q => ∃ n m : Nat, x = nI n ∧ y = nI m ∧ Q (nI (n ||| m)) H) := by
  intro pins s σ H x y v u Q I rx ry h
  obtain ⟨n, m, rfl, rfl, q⟩ := h
  refine op_or pins s σ H _ _ v u Q I rx ry ⟨_, _, rfl, rfl, ?_⟩
  show Q (V.int (Builtin.bitOr (n : Int) (m : Int))) H
  rw [bitOr_nn (Int.natCast_nonneg _) (Int.natCast_nonneg _), Int.toNat_natCast, Int.toNat_natCast]
  exact q
theorem on_add : OpR X (binaryOp .Add) (fun x y H Q => ∃ n m : Nat, x = nI n ∧ y = nI m ∧ Q (nI (n + m)) H) := op_addN
theorem on_sub : OpR X (binaryOp .Sub) (fun x y H Q => ∃ n m : Nat, x = nI n ∧ y = nI m ∧ m ≤ n ∧ Q (nI (n - m)) H) := op_subN
theorem on_mul : OpR X (binaryOp .Mult) (fun x y H Q => ∃ n m : Nat, x = nI n ∧ y = nI m ∧ n ≤ 4294967296 ∧ Q (nI (n * m)) H) := op_mulN
theorem on_fdiv : OpR X (binaryOp .FloorDiv) (fun x y H Q => ∃ n m : Nat, x = nI n ∧ y = nI m ∧ (1 ≤ m ∧ m < 1073741824) ∧ Q (nI (n / m)) H) := op_fdivNN
theorem on_mod : OpR X (binaryOp .Mod) (fun x y H Q => ∃ n m : Nat, x = nI n ∧ y = nI m ∧ 1 ≤ m ∧ Q (nI (n % m)) H) := by
  intro pins s σ H x y v u Q I rx ry h
  obtain ⟨n, m, rfl, rfl, c, q⟩ := h
  refine op_mod pins s σ H _ _ v u Q I rx ry ⟨_, _, rfl, rfl, show (0 : Int) < (m : Int) by omega, ?_⟩
  have e : ((n % m : Nat) : Int) = (n : Int) % (m : Int) := Int.natCast_emod ..
  show Q (V.int ((n : Int) % (m : Int))) H
  rw [← e]
  exact q
theorem on_eq : OpR X (compareOp .Eq) (fun x y H Q => ∃ n m : Nat, x = nI n ∧ y = nI m ∧ Q (.bl (decide (n = m))) H) := by
  intro pins s σ H x y v u Q I rx ry h
  obtain ⟨n, m, rfl, rfl, q⟩ := h
  refine op_eq pins s σ H _ _ v u Q I rx ry ⟨rfl, ?_⟩
  have e : decide (nI n = nI m) = decide (n = m) := by
    by_cases h : n = m
    · rw [h]; simp
    · rw [decide_eq_false h, decide_eq_false]
      intro z
      injection z with z
      exact h (by omega)
  rw [e]
  exact q
theorem oi_eq : OpR X (compareOp .Eq) (fun x y H Q => ∃ i j : Int, x = .int i ∧ y = .int j ∧ Q (.bl (decide (i = j))) H) := by
  intro pins s σ H x y v u Q I rx ry h
  obtain ⟨n, m, rfl, rfl, q⟩ := h
  refine op_eq pins s σ H _ _ v u Q I rx ry ⟨rfl, ?_⟩
  have e : decide (V.int n = V.int m) = decide (n = m) := by
    by_cases h : n = m
    · rw [h]; simp
    · rw [decide_eq_false h, decide_eq_false]
      intro z
      injection z with z
      exact h z
  rw [e]
  exact q
theorem oi_ne : OpR X (compareOp .NotEq) (fun x y H Q => ∃ i j : Int, x = .int i ∧ y = .int j ∧ Q (.bl (!decide (i = j))) H) := by
  intro pins s σ H x y v u Q I rx ry h
  obtain ⟨n, m, rfl, rfl, q⟩ := h
  refine op_ne pins s σ H _ _ v u Q I rx ry ⟨rfl, ?_⟩
  have e : decide (V.int n = V.int m) = decide (n = m) := by
    by_cases h : n = m
    · rw [h]; simp
    · rw [decide_eq_false h, decide_eq_false]
      intro z
      injection z with z
      exact h z
  have e2 : decide (V.int n ≠ V.int m) = !decide (n = m) := by rw [← e, decide_not]
  first
    | (rw [e2]; exact q)
    | (rw [e]; exact q)
end
abbrev EN : XK := fun _ _ _ => False
/-- what a call finds: the def stands at f, bound by its name -/
structure DefAt (K : PySem.W.Frag) (mg : Str → Option Value) (nm : Str) (st : Stmt) (ps : List Str) (f : Addr) (fd : FuncData) : Prop where
  F : Fun K nm nm st f fd
  b : Binds K fd ps []
  g : mg nm = some (.ref f)
theorem tYes_of {σ : L2.St} {H : Hp} {Q : Bool → Hp → Prop} (h : Q true H) : tYes σ H Q := h
theorem ifT {c : Bool} {a b : Prop} (hc : c = true) (h : a) : (if c = true then a else b) := by rw [if_pos hc]; exact h
theorem ifF {c : Bool} {a b : Prop} (hc : ¬ c = true) (h : b) : (if c = true then a else b) := by rw [if_neg hc]; exact h
theorem wipe_in {σ : L2.St} {j : Nat} {v : Option V} : wipe ((wipe σ [j]).set j v) [j] = wipe σ [j] := by
  show ((σ.set j none).set j v).set j none = σ.set j none
  rw [List.set_set, List.set_set]
/-- [e for i in range(n)], the element a value by the place; what stood stands -/
theorem lcMap {te : TE} {j : Nat} {σ : L2.St} {H1 : Hp} {D : Addr} {Qd : Hp → Prop} (f : Nat → V) (n : Nat) (hn : n ≤ 100000) (hD : H1 D = none)
    (hs : ∀ i H, i < n → Same H1 H → ∀ Q : VK, (∀ H', Same H H' → Q (f i) H') → te ((wipe σ [j]).set j (some (nI i))) H Q)
    (hd : ∀ H3, Same H1 H3 → H3 D = some (.lst ((List.range n).map f)) → Qd H3) :
    ∃ W : Nat → Nat → Hp → Prop, (∃ m, W 0 m (upd H1 D (.lst []))) ∧ ∀ i m H, W i m H →
      ((Itr 0 n).stop i H ∧ Qd H) ∨ ((Itr 0 n).go i H ∧ ∃ Nx : Hp → Prop, (∀ H', Nx H' → ∃ m', m' < m ∧ W (i + 1) m' H') ∧ ∀ x H', (Itr 0 n).yld i H x H' → gName j x (wipe σ [j]) H' fun σ2 H2 => wipe σ2 [j] = wipe σ [j] ∧ tYes σ2 H2 fun b H3 =>
        if b = true then te σ2 H3 fun y H4 => ∃ acc, H4 D = some (.lst acc) ∧ acc.length < sizeLine ∧ Nx (upd H4 D (.lst (acc ++ [y]))) else Nx H3) := by
  refine lc_range (fun i H => Same H1 H ∧ H D = some (.lst ((List.range i).map f))) ⟨same_upd hD, upd_same⟩ (fun i H hi ⟨s, e⟩ => ?_) (fun H ⟨s, e⟩ => hd H s e)
  rw [Int.zero_add]
  refine ⟨wipe_in, ?_⟩
  refine tYes_of (ifT rfl ?_)
  refine hs i H hi s _ fun H' s' => ⟨_, s' _ _ e, ?_, ?_, ?_⟩
  · rw [List.length_map, List.length_range]
    exact sizeSmall (by omega)
  · exact same_put hD fun b o z => s' _ _ (s _ _ z)
  · rw [upd_same, List.range_succ, List.map_append]
    rfl
/-- [e for v in xs], xs a list of naturals -/
theorem lcMapL {K : PySem.W.Frag} {a : Addr} {te : TE} {j : Nat} {σ : L2.St} {H1 : Hp} {D : Addr} {Qd : Hp → Prop} (l : List Nat) (f : Nat → V) (hn : l.length ≤ 100000) (hS : SqL K H1 a (nv l)) (hD : H1 D = none)
    (hs : ∀ v H, v ∈ l → Same H1 H → ∀ Q : VK, (∀ H', Same H H' → Q (f v) H') → te ((wipe σ [j]).set j (some (nI v))) H Q)
    (hd : ∀ H3, Same H1 H3 → H3 D = some (.lst (l.map f)) → Qd H3) :
    ∃ W : Nat → Nat → Hp → Prop, (∃ m, W 0 m (upd H1 D (.lst []))) ∧ ∀ i m H, W i m H →
      ((Itl K a).stop i H ∧ Qd H) ∨ ((Itl K a).go i H ∧ ∃ Nx : Hp → Prop, (∀ H', Nx H' → ∃ m', m' < m ∧ W (i + 1) m' H') ∧ ∀ x H', (Itl K a).yld i H x H' → gName j x (wipe σ [j]) H' fun σ2 H2 => wipe σ2 [j] = wipe σ [j] ∧ tYes σ2 H2 fun b H3 =>
        if b = true then te σ2 H3 fun y H4 => ∃ acc, H4 D = some (.lst acc) ∧ acc.length < sizeLine ∧ Nx (upd H4 D (.lst (acc ++ [y]))) else Nx H3) := by
  refine lc_list (xs := nv l) (fun i H => Same H1 H ∧ H D = some (.lst ((l.take i).map f))) ⟨same_upd hD, upd_same⟩ (fun i H _ ⟨s, _⟩ => s.seq hS) (fun i x H hx ⟨s, e⟩ => ?_) (fun H ⟨s, e⟩ => hd H s ?_)
  · obtain ⟨v, hv, rfl⟩ : ∃ v, l[i]? = some v ∧ x = nI v := by
      unfold nv at hx
      rw [List.getElem?_map] at hx
      cases e : l[i]? with
      | none => rw [e] at hx; cases hx
      | some v => rw [e] at hx; exact ⟨v, rfl, (Option.some.inj hx).symm⟩
    refine ⟨wipe_in, ?_⟩
    refine tYes_of (ifT rfl ?_)
    refine hs v H (List.mem_of_getElem? hv) s _ fun H' s' => ⟨_, s' _ _ e, ?_, ?_, ?_⟩
    · rw [List.length_map, List.length_take]
      exact sizeSmall (by omega)
    · exact same_put hD fun b o z => s' _ _ (s _ _ z)
    · rw [upd_same, List.take_add_one, hv, List.map_append]
      rfl
  · rw [nv_length, List.take_length] at e
    exact e
theorem range_get {α : Type} {f : Nat → α} {n i : Nat} (h : i < n) : ((List.range n).map f)[i]? = some (f i) := by
  rw [List.getElem?_map, List.getElem?_range h]
  rfl
theorem map_nI (f : Nat → Nat) (l : List Nat) : l.map (fun i => nI (f i)) = nv (l.map f) := by
  unfold nv
  rw [List.map_map]
  rfl
theorem at_nvr {f : Nat → Nat} {n i : Nat} (h : i < n) : atI (nv ((List.range n).map f)) (i : Int) = some (nI (f i)) := at_nv (range_get h)
/-- [e for i in range(n) if t] -/
theorem lcFil {tt : TT} {te : TE} {j : Nat} {σ : L2.St} {H1 : Hp} {D : Addr} {Qd : Hp → Prop} (f : Nat → V) (p : Nat → Bool) (n : Nat) (hn : n ≤ 100000) (hD : H1 D = none)
    (ht : ∀ i H, i < n → Same H1 H → ∀ Q : Bool → Hp → Prop, (∀ H', Same H H' → Q (p i) H') → tt ((wipe σ [j]).set j (some (nI i))) H Q)
    (hs : ∀ i H, i < n → p i = true → Same H1 H → ∀ Q : VK, (∀ H', Same H H' → Q (f i) H') → te ((wipe σ [j]).set j (some (nI i))) H Q)
    (hd : ∀ H3, Same H1 H3 → H3 D = some (.lst (((List.range n).filter p).map f)) → Qd H3) :
    ∃ W : Nat → Nat → Hp → Prop, (∃ m, W 0 m (upd H1 D (.lst []))) ∧ ∀ i m H, W i m H →
      ((Itr 0 n).stop i H ∧ Qd H) ∨ ((Itr 0 n).go i H ∧ ∃ Nx : Hp → Prop, (∀ H', Nx H' → ∃ m', m' < m ∧ W (i + 1) m' H') ∧ ∀ x H', (Itr 0 n).yld i H x H' → gName j x (wipe σ [j]) H' fun σ2 H2 => wipe σ2 [j] = wipe σ [j] ∧ tt σ2 H2 fun b H3 =>
        if b = true then te σ2 H3 fun y H4 => ∃ acc, H4 D = some (.lst acc) ∧ acc.length < sizeLine ∧ Nx (upd H4 D (.lst (acc ++ [y]))) else Nx H3) := by
  refine lc_range (fun i H => Same H1 H ∧ H D = some (.lst (((List.range i).filter p).map f))) ⟨same_upd hD, upd_same⟩ (fun i H hi ⟨s, e⟩ => ?_) (fun H ⟨s, e⟩ => hd H s e)
  rw [Int.zero_add]
  refine ⟨wipe_in, ?_⟩
  refine ht i H hi s _ fun H' s' => ?_
  have sH : Same H1 H' := fun b o z => s' _ _ (s _ _ z)
  have ef : (List.range (i + 1)).filter p = (List.range i).filter p ++ (if p i = true then [i] else []) := by
    rw [List.range_succ, List.filter_append]
    cases hp : p i <;> simp [hp]
  by_cases hp : p i = true
  · rw [if_pos hp]
    refine hs i H' hi hp sH _ fun H2 s2 => ⟨_, s2 _ _ (s' _ _ e), ?_, ?_, ?_⟩
    · have h1 := List.length_filter_le p (List.range i)
      rw [List.length_range] at h1
      rw [List.length_map]
      exact sizeSmall (by omega)
    · exact same_put hD fun b o z => s2 _ _ (sH _ _ z)
    · rw [upd_same, ef, if_pos hp, List.map_append]
      rfl
  · rw [if_neg hp]
    refine ⟨sH, ?_⟩
    rw [ef, if_neg hp, List.append_nil]
    exact s' _ _ e
end My
/-! ### the request's numbers as naturals -/
namespace My
open PySem PySem.Spec PyProof.Rows L2
open PySem.W (WData Codec)
def zl (x : List Nat) : List Int := x.map fun (k : Nat) => (k : Int)
theorem zl_int (x : List Nat) : (zl x).map V.int = nv x := by unfold zl nv; rw [List.map_map]; rfl
theorem zl_back (x : List Nat) : Sv11Neutral.n (zl x) = x := by
  unfold Sv11Neutral.n zl
  rw [List.map_map]
  conv => rhs; rw [← List.map_id x]
  exact List.map_congr_left fun a _ => Int.toNat_natCast a
theorem nat_of {l : List Int} (h : ∀ z ∈ l, 0 ≤ z) : ∃ x : List Nat, l = zl x := by
  refine ⟨l.map Int.toNat, ?_⟩
  unfold zl
  rw [List.map_map]
  conv => lhs; rw [← List.map_id l]
  exact List.map_congr_left fun a ha => by
    have := h a ha
    show a = ((a.toNat : Nat) : Int)
    omega
theorem word_nat {z : Int} (h : Sv11Neutral.word z = true) : ∃ n : Nat, z = (n : Int) ∧ n < 2 ^ 32 := by
  unfold Sv11Neutral.word at h
  rw [Bool.and_eq_true, decide_eq_true_eq, decide_eq_true_eq] at h
  exact ⟨z.toNat, by omega, by omega⟩
theorem mask_nat {z : Int} (h : Sv11Neutral.mask z = true) : ∃ n : Nat, z = (n : Int) ∧ n < 65536 := by
  unfold Sv11Neutral.mask at h
  rw [Bool.and_eq_true, decide_eq_true_eq, decide_eq_true_eq] at h
  exact ⟨z.toNat, by omega, by omega⟩
theorem words_nat {l : List Int} (h : l.all Sv11Neutral.word = true) : ∃ x : List Nat, l = zl x ∧ ∀ k ∈ x, k < 2 ^ 32 := by
  rw [List.all_eq_true] at h
  obtain ⟨x, rfl⟩ := nat_of fun z hz => by
    obtain ⟨n, e, _⟩ := word_nat (h z hz)
    omega
  refine ⟨x, rfl, fun k hk => ?_⟩
  obtain ⟨n, e, hn⟩ := word_nat (h (k : Int) (List.mem_map.mpr ⟨k, hk, rfl⟩))
  have : k = n := by omega
  omega
theorem row_nat {l : List Int} (h : Sv11Neutral.row l = true) : ∃ x : List Nat, l = zl x ∧ x.length = 16 ∧ ∀ k ∈ x, k < 2 ^ 32 := by
  unfold Sv11Neutral.row at h
  rw [Bool.and_eq_true, decide_eq_true_eq] at h
  obtain ⟨x, rfl, hx⟩ := words_nat h.1
  refine ⟨x, rfl, ?_, hx⟩
  have e := h.2
  unfold zl at e
  rw [List.length_map] at e
  exact e
/-- a row's word as the specification reads it -/
theorem word_eq {x : List Nat} (h : ∀ k ∈ x, k < 2 ^ 32) (i : Nat) : Sv11.word x i = x.getD i 0 := by
  unfold Sv11.word
  apply Nat.mod_eq_of_lt
  rw [List.getD_eq_getElem?_getD]
  cases e : x[i]? with
  | none => show 0 < 2 ^ 32; decide
  | some v => exact h v (List.mem_of_getElem? e)
theorem getD_lt {x : List Nat} (h : ∀ k ∈ x, k < 2 ^ 32) (i : Nat) : x.getD i 0 < 2 ^ 32 := by
  rw [List.getD_eq_getElem?_getD]
  cases e : x[i]? with
  | none => show 0 < 2 ^ 32; decide
  | some v => exact h v (List.mem_of_getElem? e)
theorem words_eq {f g : Nat → Nat} (h : ∀ i, i < 16 → f i = g i ∧ g i < 2 ^ 32) : Sv11.words f = (List.range 16).map g := by
  unfold Sv11.words
  refine List.map_congr_left fun i hi => ?_
  obtain ⟨e, l⟩ := h i (List.mem_range.mp hi)
  rw [e, Nat.mod_eq_of_lt l]
theorem dw_nv {K : PySem.W.Frag} {H : Hp} {p : Addr} {l : List Nat} (h : H p = some (.lst (nv l))) : Dw K H (.ref p) (.list ((zl l).map WData.int)) := by
  rw [← zl_int] at h
  exact .lst (SqL.of h) (dw_ints _)
theorem dw_cons {K : PySem.W.Frag} {H : Hp} {xs : List V} {d : WData} {ds : List WData} (h : DwAll K H xs (d :: ds)) : ∃ v vs, xs = v :: vs ∧ Dw K H v d ∧ DwAll K H vs ds := by
  cases h with
  | cons h1 h2 => exact ⟨_, _, rfl, h1, h2⟩
theorem dw_row {K : PySem.W.Frag} {H : Hp} {v : V} {x : List Nat} (h : Dw K H v (.list ((zl x).map WData.int))) : ∃ a, v = .ref a ∧ SqL K H a (nv x) := by
  cases h with
  | lst hs ha =>
    have e := L2.ints_dw (zl x) _ ha
    subst e
    rw [zl_int] at hs
    exact ⟨_, rfl, hs⟩
end My
/-! ### masks, bit by bit -/
namespace My
def maskN (f : Nat → Bool) : Nat → Nat
  | 0 => 0
  | n + 1 => if f n = true then maskN f n ||| (1 <<< n) else maskN f n
theorem maskN_congr {f g : Nat → Bool} : ∀ {n : Nat}, (∀ i, i < n → f i = g i) → maskN f n = maskN g n
  | 0, _ => rfl
  | n + 1, h => by
    unfold maskN
    rw [maskN_congr (n := n) fun i hi => h i (by omega), h n (by omega)]
theorem maskN_lt (f : Nat → Bool) : ∀ n, maskN f n < 2 ^ n
  | 0 => by show 0 < 1; decide
  | n + 1 => by
    unfold maskN
    have ih := maskN_lt f n
    have h2 : 2 ^ (n + 1) = 2 ^ n + 2 ^ n := by rw [Nat.pow_succ]; omega
    split
    · exact Nat.or_lt_two_pow (by omega) (by rw [Nat.one_shiftLeft]; omega)
    · omega
theorem maskN_add (f : Nat → Bool) (n : Nat) : maskN f n ||| (1 <<< n) = maskN f n + 2 ^ n := by
  have h := Nat.two_pow_add_eq_or_of_lt (maskN_lt f n) 1
  rw [Nat.mul_one] at h
  rw [Nat.one_shiftLeft, Nat.or_comm, ← h, Nat.add_comm]
theorem mask_succ (f : Nat → Bool) (n : Nat) : Sv11.mask (n + 1) f = Sv11.mask n f + (if f n = true then 2 ^ n else 0) := by
  unfold Sv11.mask
  rw [List.range_succ, List.map_append, List.sum_append]
  simp
theorem maskN_eq (f : Nat → Bool) : ∀ n, maskN f n = Sv11.mask n f
  | 0 => rfl
  | n + 1 => by
    rw [mask_succ, ← maskN_eq f n]
    show (if f n = true then maskN f n ||| (1 <<< n) else maskN f n) = _
    split
    · rw [maskN_add]
    · rfl
theorem mask_split (f : Nat → Bool) (a : Nat) : ∀ b, Sv11.mask (a + b) f = Sv11.mask a f + 2 ^ a * Sv11.mask b fun i => f (a + i)
  | 0 => by show Sv11.mask a f = Sv11.mask a f + 2 ^ a * 0; omega
  | b + 1 => by
    show Sv11.mask ((a + b) + 1) f = _
    rw [mask_succ, mask_split f a b, mask_succ, Nat.mul_add]
    split
    · rw [Nat.pow_add]; omega
    · omega
end My
/-! ### longs -/
namespace My
def lg (x : List Nat) (i : Nat) : Nat := x.getD (2 * i) 0 ||| (x.getD (2 * i + 1) 0 <<< 32)
def longsM (x : List Nat) : List Nat := (List.range 8).map (lg x)
def wordsM (l : List Nat) : List Nat := l.flatMap fun v => [v &&& 4294967295, v >>> 32]
theorem lg_eq {x : List Nat} (h : ∀ k ∈ x, k < 2 ^ 32) (i : Nat) : lg x i = Sv11.long x i := by
  unfold lg Sv11.long
  rw [word_eq h, word_eq h, Nat.shiftLeft_eq, Nat.or_comm, Nat.mul_comm (x.getD (2 * i + 1) 0), ← Nat.two_pow_add_eq_or_of_lt (getD_lt h (2 * i))]
  exact Nat.add_comm _ _
theorem long_lt (x : List Nat) (i : Nat) : Sv11.long x i < 2 ^ 64 := by
  unfold Sv11.long
  have a : Sv11.word x (2 * i) < 2 ^ 32 := Nat.mod_lt _ (by decide)
  have b : Sv11.word x (2 * i + 1) < 2 ^ 32 := Nat.mod_lt _ (by decide)
  generalize Sv11.word x (2 * i) = p at a
  generalize Sv11.word x (2 * i + 1) = q at b
  omega
theorem lg_lt {x : List Nat} (h : ∀ k ∈ x, k < 2 ^ 32) (i : Nat) : lg x i < 2 ^ 64 := by rw [lg_eq h]; exact long_lt x i
/-- a function of eight longs, as words -/
theorem words_longs (f : Nat → Nat) (h : ∀ i, i < 8 → f i < 2 ^ 64) : wordsM ((List.range 8).map f) = Sv11.longs f := by
  have e : ∀ v : Nat, v < 2 ^ 64 → v &&& 4294967295 = v / 2 ^ (32 * 0) % 2 ^ 32 ∧ v >>> 32 = v / 2 ^ (32 * 1) % 2 ^ 32 := fun v hv => by
    refine ⟨?_, ?_⟩
    · have := Nat.and_two_pow_sub_one_eq_mod v 32
      rw [show (2 : Nat) ^ 32 - 1 = 4294967295 by decide] at this
      rw [this]
      simp
    · rw [Nat.shiftRight_eq_div_pow]
      rw [Nat.mul_one, Nat.mod_eq_of_lt]
      omega
  have r8 : List.range 8 = [0, 1, 2, 3, 4, 5, 6, 7] := by decide
  have r16 : List.range 16 = [0, 1, 2, 3, 4, 5, 6, 7, 8, 9, 10, 11, 12, 13, 14, 15] := by decide
  unfold wordsM Sv11.longs Sv11.words
  rw [r8, r16]
  simp only [List.map_cons, List.map_nil, List.flatMap_cons, List.flatMap_nil, List.cons_append, List.nil_append]
  rw [(e _ (h 0 (by decide))).1, (e _ (h 0 (by decide))).2, (e _ (h 1 (by decide))).1, (e _ (h 1 (by decide))).2, (e _ (h 2 (by decide))).1, (e _ (h 2 (by decide))).2, (e _ (h 3 (by decide))).1, (e _ (h 3 (by decide))).2,
    (e _ (h 4 (by decide))).1, (e _ (h 4 (by decide))).2, (e _ (h 5 (by decide))).1, (e _ (h 5 (by decide))).2, (e _ (h 6 (by decide))).1, (e _ (h 6 (by decide))).2, (e _ (h 7 (by decide))).1, (e _ (h 7 (by decide))).2]
/-- two longs, one above the other, shifted -/
def jl (u l a : Nat) : Nat := (u <<< a ||| l >>> (64 - a)) &&& 18446744073709551615
def jr (u l a : Nat) : Nat := (l >>> a ||| u <<< (64 - a)) &&& 18446744073709551615
theorem and_top (v : Nat) : v &&& 18446744073709551615 = v % 2 ^ 64 := Nat.and_two_pow_sub_one_eq_mod v 64
theorem jl_lt (u l a : Nat) : jl u l a < 2 ^ 64 := by unfold jl; rw [and_top]; exact Nat.mod_lt _ (by decide)
theorem jr_lt (u l a : Nat) : jr u l a < 2 ^ 64 := by unfold jr; rw [and_top]; exact Nat.mod_lt _ (by decide)
theorem pow_parts {a : Nat} (h : a ≤ 64) : 2 ^ 64 = 2 ^ a * 2 ^ (64 - a) := by rw [← Nat.pow_add]; congr 1; omega
theorem jl_sum {u l a : Nat} (hl : l < 2 ^ 64) (h : a ≤ 64) : jl u l a = (u * 2 ^ a + l / 2 ^ (64 - a)) % 2 ^ 64 := by
  unfold jl
  have b : l / 2 ^ (64 - a) < 2 ^ a := by
    rw [Nat.div_lt_iff_lt_mul (Nat.two_pow_pos _), ← pow_parts h]
    exact hl
  rw [and_top, Nat.shiftLeft_eq, Nat.shiftRight_eq_div_pow, Nat.mul_comm u, ← Nat.two_pow_add_eq_or_of_lt b]
theorem jr_sum {u l a : Nat} (hl : l < 2 ^ 64) (h : a ≤ 64) : jr u l a = (u * 2 ^ (64 - a) + l / 2 ^ a) % 2 ^ 64 := by
  unfold jr
  have b : l / 2 ^ a < 2 ^ (64 - a) := by
    rw [Nat.div_lt_iff_lt_mul (Nat.two_pow_pos _), Nat.mul_comm, ← pow_parts h]
    exact hl
  rw [and_top, Nat.shiftLeft_eq, Nat.shiftRight_eq_div_pow, Nat.mul_comm u, Nat.or_comm, ← Nat.two_pow_add_eq_or_of_lt b]
theorem jl_eq {u l a : Nat} (hl : l < 2 ^ 64) (h : a ≤ 64) : jl u l a = (u * 2 ^ 64 + l) * 2 ^ a / 2 ^ 64 % 2 ^ 64 := by
  rw [jl_sum hl h]
  congr 1
  have e1 : (u * 2 ^ 64 + l) * 2 ^ a = l * 2 ^ a + 2 ^ 64 * (u * 2 ^ a) := by
    rw [Nat.add_mul, Nat.add_comm, Nat.mul_assoc, Nat.mul_comm u (2 ^ 64 * 2 ^ a), Nat.mul_assoc, Nat.mul_comm (2 ^ a) u]
  have e2 : l * 2 ^ a / 2 ^ 64 = l / 2 ^ (64 - a) := by
    rw [pow_parts h, Nat.mul_comm l, Nat.mul_div_mul_left _ _ (Nat.two_pow_pos a)]
  rw [e1, Nat.add_mul_div_left _ _ (Nat.two_pow_pos 64), e2, Nat.add_comm]
theorem jr_eq {u l a : Nat} (hl : l < 2 ^ 64) (h : a ≤ 64) : jr u l a = (u * 2 ^ 64 + l) / 2 ^ a % 2 ^ 64 := by
  rw [jr_sum hl h]
  congr 1
  have e1 : u * 2 ^ 64 + l = l + 2 ^ a * (u * 2 ^ (64 - a)) := by
    rw [pow_parts h, Nat.add_comm]
    congr 1
    rw [Nat.mul_left_comm]
  rw [e1, Nat.add_mul_div_left _ _ (Nat.two_pow_pos a), Nat.add_comm]
theorem turned_left {x k : Nat} (hx : x < 2 ^ 64) (h : k ≤ 64) : Sv11.turned x k = jl x x k := by
  rw [jl_sum hx h]
  rfl
theorem turned_right {x k : Nat} (hx : x < 2 ^ 64) (h : k < 64) : Sv11.turned x ((64 - k) % 64) = jr x x k := by
  rw [jr_sum hx (by omega)]
  unfold Sv11.turned
  by_cases hk : k = 0
  · subst hk
    have e1 : x / 2 ^ 64 = 0 := Nat.div_eq_of_lt hx
    show (x * 2 ^ 0 + x / 2 ^ 64) % 2 ^ 64 = (x * 2 ^ 64 + x / 2 ^ 0) % 2 ^ 64
    rw [e1, Nat.pow_zero, Nat.mul_one, Nat.div_one, Nat.add_zero, Nat.mul_comm, Nat.mul_add_mod]
  · have e : (64 - k) % 64 = 64 - k := Nat.mod_eq_of_lt (by omega)
    have e2 : 64 - (64 - k) = k := by omega
    rw [e, e2]
theorem longs_congr {f g : Nat → Nat} (h : ∀ i, i < 8 → f i = g i) : Sv11.longs f = Sv11.longs g := by
  unfold Sv11.longs Sv11.words
  refine List.map_congr_left fun i hi => ?_
  have := List.mem_range.mp hi
  show f (i / 2) / 2 ^ (32 * (i % 2)) % 2 ^ 32 = g (i / 2) / 2 ^ (32 * (i % 2)) % 2 ^ 32
  rw [h (i / 2) (by omega)]
theorem words_self {x : List Nat} (hl : x.length = 16) (hx : ∀ k ∈ x, k < 2 ^ 32) : Sv11.words (Sv11.word x) = x := by
  rw [words_eq (g := fun i => x.getD i 0) fun i _ => ⟨word_eq hx i, getD_lt hx i⟩]
  apply List.ext_getElem?
  intro i
  by_cases h : i < 16
  · rw [range_get h, get_D (by omega)]
  · rw [List.getElem?_eq_none (by simp; omega), List.getElem?_eq_none (by omega)]
end My
/-! ### bytes -/
namespace My
def byteN (v k : Nat) : Nat := (v >>> (8 * k)) &&& 255
theorem byteN_eq (v k : Nat) : byteN v k = v / 2 ^ (8 * k) % 256 := by
  unfold byteN
  rw [Nat.shiftRight_eq_div_pow]
  exact Nat.and_two_pow_sub_one_eq_mod _ 8
theorem byteN_lt (v k : Nat) : byteN v k < 256 := by rw [byteN_eq]; exact Nat.mod_lt _ (by decide)
theorem byte_long (z : List Nat) (j k : Nat) (hk : k < 8) : Sv11.byte z (8 * j + k) = byteN (Sv11.long z j) k := by
  rw [byteN_eq]
  unfold Sv11.byte Sv11.long
  have h0 : Sv11.word z (2 * j) < 2 ^ 32 := Nat.mod_lt _ (by decide)
  have h1 : Sv11.word z (2 * j + 1) < 2 ^ 32 := Nat.mod_lt _ (by decide)
  have hc : k < 4 ∨ (4 ≤ k ∧ k < 8) := by omega
  rcases hc with h | ⟨h, h'⟩
  · rw [show (8 * j + k) / 4 = 2 * j by omega, show (8 * j + k) % 4 = k by omega]
    generalize Sv11.word z (2 * j) = p at *
    generalize Sv11.word z (2 * j + 1) = q at *
    have hc : k = 0 ∨ k = 1 ∨ k = 2 ∨ k = 3 := by omega
    rcases hc with rfl | rfl | rfl | rfl <;> simp only [Nat.reduceMul, Nat.reducePow] <;> omega
  · rw [show (8 * j + k) / 4 = 2 * j + 1 by omega, show (8 * j + k) % 4 = k - 4 by omega]
    generalize Sv11.word z (2 * j) = p at *
    generalize Sv11.word z (2 * j + 1) = q at *
    have hc : k = 4 ∨ k = 5 ∨ k = 6 ∨ k = 7 := by omega
    rcases hc with rfl | rfl | rfl | rfl <;> simp only [Nat.reduceMul, Nat.reducePow, Nat.reduceSub] <;> omega
end My
/-! ### bytes of longs -/
namespace My
def told (p k : Nat) : Nat := (p >>> (8 * k)) % 64
theorem told_lt (p k : Nat) : told p k < 64 := Nat.mod_lt _ (by decide)
def fieldB (v p k : Nat) : Nat := jr v v (told p k) &&& 255
def fieldsL (v p : Nat) : Nat → Nat
  | 0 => 0
  | n + 1 => fieldsL v p n ||| ((jr v v (told p n) &&& 255) <<< (8 * n))
theorem fieldB_eq (v p k : Nat) : fieldB v p k = jr v v (told p k) % 256 := Nat.and_two_pow_sub_one_eq_mod _ 8
theorem fieldB_lt (v p k : Nat) : fieldB v p k < 256 := by rw [fieldB_eq]; exact Nat.mod_lt _ (by decide)
theorem fieldsL_lt (v p : Nat) : ∀ n, fieldsL v p n < 2 ^ (8 * n) ∧ fieldsL v p (n + 1) = fieldsL v p n + 2 ^ (8 * n) * fieldB v p n
  | 0 => ⟨by show 0 < 1; decide, by
      show 0 ||| (fieldB v p 0 <<< (8 * 0)) = 0 + 2 ^ (8 * 0) * fieldB v p 0
      rw [Nat.zero_or]; simp⟩
  | n + 1 => by
    obtain ⟨h1, h2⟩ := fieldsL_lt v p n
    have hb := fieldB_lt v p n
    have h3 : fieldsL v p (n + 1) < 2 ^ (8 * (n + 1)) := by
      rw [h2, show 8 * (n + 1) = 8 * n + 8 by omega, Nat.pow_add]
      have : 2 ^ (8 * n) * fieldB v p n ≤ 2 ^ (8 * n) * 255 := Nat.mul_le_mul_left _ (by omega)
      omega
    refine ⟨h3, ?_⟩
    show fieldsL v p (n + 1) ||| (fieldB v p (n + 1) <<< (8 * (n + 1))) = _
    rw [Nat.shiftLeft_eq, Nat.mul_comm (fieldB v p (n + 1)), Nat.or_comm, ← Nat.two_pow_add_eq_or_of_lt h3, Nat.add_comm]
theorem fieldsL_8 (v p : Nat) : fieldsL v p 8 = fieldB v p 0 + 256 * fieldB v p 1 + 65536 * fieldB v p 2 + 16777216 * fieldB v p 3 + 4294967296 * fieldB v p 4 + 1099511627776 * fieldB v p 5 + 281474976710656 * fieldB v p 6 + 72057594037927936 * fieldB v p 7 := by
  rw [(fieldsL_lt v p 7).2, (fieldsL_lt v p 6).2, (fieldsL_lt v p 5).2, (fieldsL_lt v p 4).2, (fieldsL_lt v p 3).2, (fieldsL_lt v p 2).2, (fieldsL_lt v p 1).2, (fieldsL_lt v p 0).2]
  show 0 + 2 ^ (8 * 0) * _ + _ + _ + _ + _ + _ + _ + _ = _
  simp only [Nat.reduceMul, Nat.reducePow, Nat.zero_add, Nat.one_mul]
theorem told_byte (p k : Nat) : byteN p k % 64 = told p k := by
  unfold told
  rw [byteN_eq, Nat.shiftRight_eq_div_pow]
  exact Nat.mod_mod_of_dvd _ (by decide)
theorem byte_told (z : List Nat) (j k : Nat) (hk : k < 8) : Sv11.byte z (8 * j + k) % 64 = told (Sv11.long z j) k := by
  rw [byte_long z j k hk, told_byte]
end My
namespace My
open PySem PySem.Spec PyProof.Rows L2
def topS (i : Nat) : Stmt := PySem.Challenge.pw_sixteenwordsdesk_s08_bits.main.body.getD i (.Pass ⟨0, 0, 0, 0⟩)
abbrev s_has_bit : Stmt := topS 6
abbrev s_longs_of : Stmt := topS 7
abbrev s_byte_of : Stmt := topS 8
abbrev s_place_told : Stmt := topS 9
abbrev s_bits : Stmt := topS 10
structure Txt (K : PySem.W.Frag) (mg : Str → Option Value) : Prop where
  c_LONGS : ∃ t, mg "LONGS" = some (.int 8 t)
  c_LONG_BYTES : ∃ t, mg "LONG_BYTES" = some (.int 8 t)
  c_WORD_BITS : ∃ t, mg "WORD_BITS" = some (.int 32 t)
  c_LONG_BITS : ∃ t, mg "LONG_BITS" = some (.int 64 t)
  c_TOP_BYTE : ∃ t, mg "TOP_BYTE" = some (.int 255 t)
  n_range : mg "range" = none
section
variable {P : Program} {w : World} {K : PySem.W.Frag} {mg : Str → Option Value} {base : Heap}
/-! ### has_bit -/
theorem sc_has_bit : FnScope ["number", "place"] ["number", "place"] (defScope s_has_bit) := ⟨rfl, rfl, rfl, by decide +kernel, rfl, by decide +kernel, by decide +kernel⟩
def sp_has_bit : Sp := fun vs H Q _ => ∃ n k : Nat, vs = [nI n, nI k] ∧ Q (.bl (n.testBit k)) H
theorem and_one_eq (n k : Nat) : decide (n >>> k &&& 1 = 1) = n.testBit k := by
  unfold Nat.testBit
  rw [Nat.and_comm 1]
  have h : n >>> k &&& 1 < 2 := Nat.and_lt_two_pow (n := 1) _ (by decide)
  generalize n >>> k &&& 1 = z at h
  match z, h with
  | 0, _ => rfl
  | 1, _ => rfl
theorem ok_has_bit {f : Addr} {fd : FuncData} (F : Fun K "has_bit" "has_bit" s_has_bit f fd) : FnOk P w K mg base CX0 1 f fd ["number", "place"] sp_has_bit := by
  refine F.ok sc_has_bit (fun vs H Q E h => ?_) (fun cdv A outer s H vs Q E hr h => ?_)
  · obtain ⟨n, k, rfl, _⟩ := h
    rfl
  · obtain ⟨n, k, rfl, q⟩ := h
    refine ⟨_, pss_one (ps_ret (pe_cmpR on_eq (pe_op on_and (pe_op on_shr (pv 0) (pv 1)) pe_int) pe_int (nomark _))), ?_⟩
    refine ⟨_, rfl, _, rfl, n, k, rfl, rfl, _, 1, rfl, rfl, _, 1, rfl, rfl, ?_⟩
    rw [and_one_eq]
    exact q
/-! ### longs_of -/
theorem sc_longs_of : FnScope ["row", "i"] ["row"] (defScope s_longs_of) := ⟨rfl, rfl, rfl, by decide +kernel, rfl, by decide +kernel, by decide +kernel⟩
def sp_longs_of (K : PySem.W.Frag) : Sp := fun vs H Q _ => ∃ (a : Addr) (x : List Nat), vs = [.ref a] ∧ SqL K H a (nv x) ∧ x.length = 16 ∧ (∀ k ∈ x, k < 2 ^ 32) ∧
  ∀ H' p, Same H H' → H p = none → H' p = some (.lst (nv (longsM x))) → Q (.ref p) H'
theorem ok_longs_of {f : Addr} {fd : FuncData} (T : Txt K mg) (F : Fun K "longs_of" "longs_of" s_longs_of f fd) : FnOk P w K mg base CX0 1 f fd ["row"] (sp_longs_of K) := by
  obtain ⟨tL, hL⟩ := T.c_LONGS
  obtain ⟨tW, hW⟩ := T.c_WORD_BITS
  refine F.ok sc_longs_of (fun vs H Q E h => ?_) (fun cdv A outer s H vs Q E hr h => ?_)
  · obtain ⟨a, x, rfl, _⟩ := h
    rfl
  · obtain ⟨a, x, rfl, hA, hl, hb, q⟩ := h
    refine ⟨_, pss_one (ps_ret (pe_lc (own := [("i", 1)]) (g := gName 1) (tt := tYes)
      (te := tOp (fun x y H Q => ∃ n m : Nat, x = nI n ∧ y = nI m ∧ Q (nI (n ||| m)) H) (tOp (rIxL K) (tVar 0) (tOp (fun x y H Q => ∃ n m : Nat, x = nI n ∧ y = nI m ∧ n ≤ 4294967296 ∧ Q (nI (n * m)) H) (tC (.int 2)) (tVar 1)))
        (tOp (fun x y H Q => ∃ n k b : Nat, x = nI n ∧ y = nI k ∧ (n < 2 ^ b ∧ b + k ≤ 134217728) ∧ Q (nI (n <<< k)) H)
          (tOp (rIxL K) (tVar 0) (tOp (fun x y H Q => ∃ n m : Nat, x = nI n ∧ y = nI m ∧ Q (nI (n + m)) H) (tOp (fun x y H Q => ∃ n m : Nat, x = nI n ∧ y = nI m ∧ n ≤ 4294967296 ∧ Q (nI (n * m)) H) (tC (.int 2)) (tVar 1)) (tC (.int 1)))) (tC (nI 32)))) (by rfl) sc_longs_of.nd
        (pi_range1 (by rfl) T.n_range (pa_cons (pe_glob (v := nI 8) (by rfl) hL ⟨_, rfl⟩) pa_nil))
        (blkOk_by (own := [("i", 1)]) (N := ["row", "i"]) (sc := defScope s_longs_of) (by decide +kernel))
        (fun _ _ _ _ _ => pg_name (i := 1) sc_longs_of.nd rfl (Or.inl rfl)) (fun _ _ _ _ _ => pts_nil)
        (fun _ _ _ _ _ => pe_op on_or (pe_ix ix_list (pv 0) (pe_op on_mul pe_int (pv 1)) (fun _ _ => rfl))
          (pe_op on_shl (pe_ix ix_list (pv 0) (pe_op on_add (pe_op on_mul pe_int (pv 1)) pe_int) (fun _ _ => rfl)) (pe_glob (v := nI 32) (by rfl) hW ⟨_, rfl⟩))))), ?_⟩
    refine ⟨8, rfl, by decide, by decide, fun D hD => ?_⟩
    refine lcMap (fun i => nI (lg x i)) 8 (by decide) hD ?_ ?_
    · intro i H' hi sm Q' hq
      have hA' := sm.seq hA
      refine ⟨.ref a, rfl, _, rfl, 2, i, rfl, rfl, by decide, a, nv x, _, nI (x.getD (2 * i) 0), rfl, rfl, hA', at_nv (get_D (by omega)), ?_⟩
      refine ⟨.ref a, rfl, _, rfl, 2, i, rfl, rfl, by decide, _, 1, rfl, rfl, a, nv x, _, nI (x.getD (2 * i + 1) 0), rfl, rfl, hA', at_nv (get_D (by omega)), ?_⟩
      exact ⟨_, 32, 32, rfl, rfl, ⟨getD_lt hb _, by decide⟩, _, _, rfl, rfl, hq _ (same_refl _)⟩
    · intro H3 s3 e3
      rw [map_nI] at e3
      exact q H3 D s3 hD e3
/-! ### byte_of -/
theorem sc_byte_of : FnScope ["value", "k"] ["value", "k"] (defScope s_byte_of) := ⟨rfl, rfl, rfl, by decide +kernel, rfl, by decide +kernel, by decide +kernel⟩
def sp_byte_of : Sp := fun vs H Q _ => ∃ v k : Nat, vs = [nI v, nI k] ∧ Q (nI (byteN v k)) H
theorem ok_byte_of {f : Addr} {fd : FuncData} (T : Txt K mg) (F : Fun K "byte_of" "byte_of" s_byte_of f fd) : FnOk P w K mg base CX0 1 f fd ["value", "k"] sp_byte_of := by
  obtain ⟨tB, hB⟩ := T.c_TOP_BYTE
  refine F.ok sc_byte_of (fun vs H Q E h => ?_) (fun cdv A outer s H vs Q E hr h => ?_)
  · obtain ⟨v, k, rfl, _⟩ := h
    rfl
  · obtain ⟨v, k, rfl, q⟩ := h
    refine ⟨_, pss_one (ps_ret (pe_op on_and (pe_op on_shr (pv 0) (pe_op on_mul pe_int (pv 1))) (pe_glob (v := nI 255) (by rfl) hB ⟨_, rfl⟩))), ?_⟩
    exact ⟨_, rfl, _, rfl, 8, k, rfl, rfl, by decide, v, 8 * k, rfl, rfl, _, 255, rfl, rfl, q⟩
/-! ### place_told -/
theorem sc_place_told : FnScope ["places", "k"] ["places", "k"] (defScope s_place_told) := ⟨rfl, rfl, rfl, by decide +kernel, rfl, by decide +kernel, by decide +kernel⟩
def sp_place_told : Sp := fun vs H Q _ => ∃ p k : Nat, vs = [nI p, nI k] ∧ Q (nI (told p k)) H
theorem ok_place_told {f fB : Addr} {fd fdB : FuncData} (T : Txt K mg) (F : Fun K "place_told" "place_told" s_place_told f fd) (DB : DefAt K mg "byte_of" s_byte_of ["value", "k"] fB fdB) : FnOk P w K mg base CX0 2 f fd ["places", "k"] sp_place_told := by
  have GB : FnOk P w K mg base CX0 1 fB fdB ["value", "k"] sp_byte_of := ok_byte_of T DB.F
  obtain ⟨tB, hB⟩ := T.c_LONG_BITS
  refine F.ok sc_place_told (fun vs H Q E h => ?_) (fun cdv A outer s H vs Q E hr h => ?_)
  · obtain ⟨p, k, rfl, _⟩ := h
    rfl
  · obtain ⟨p, k, rfl, q⟩ := h
    refine ⟨_, pss_one (ps_ret (pe_op on_mod (pe_call (E := EN) GB hr (by rfl) DB.g DB.F.kp DB.b .nil pass0 (pa_cons (pv 0) (pa_cons (pv 1) pa_nil))) (pe_glob (v := nI 64) (by rfl) hB ⟨_, rfl⟩))), ?_⟩
    refine ⟨_, rfl, _, rfl, p, k, rfl, byteN p k, 64, rfl, rfl, by decide, ?_⟩
    rw [told_byte]
    exact q
/-! ### bits -/
theorem sc_bits : FnScope ["x", "which", "x_longs", "which_longs", "answer", "k", "i"] ["x", "which"] (defScope s_bits) := ⟨rfl, rfl, rfl, by decide +kernel, rfl, by decide +kernel, by decide +kernel⟩
def bitsF (x z : List Nat) (k : Nat) : Bool := (lg x (k / 8)).testBit (told (lg z (k / 8)) (k % 8))
def bitsM (x z : List Nat) : Nat := maskN (bitsF x z) 64
def sp_bits (K : PySem.W.Frag) : Sp := fun vs H Q _ => ∃ (a b : Addr) (x y : List Nat), vs = [.ref a, .ref b] ∧ SqL K H a (nv x) ∧ SqL K H b (nv y) ∧ (x.length = 16 ∧ y.length = 16) ∧ ((∀ k ∈ x, k < 2 ^ 32) ∧ (∀ k ∈ y, k < 2 ^ 32)) ∧
  ∀ H' p, H' p = some (.lst (nv [bitsM x y])) → Q (.ref p) H'
theorem ok_bits {f fH fO fP fB : Addr} {fd fdH fdO fdP fdB : FuncData} (T : Txt K mg) (F : Fun K "bits" "bits" s_bits f fd) (DH : DefAt K mg "has_bit" s_has_bit ["number", "place"] fH fdH) (DO : DefAt K mg "longs_of" s_longs_of ["row"] fO fdO)
    (DP : DefAt K mg "place_told" s_place_told ["places", "k"] fP fdP) (DB : DefAt K mg "byte_of" s_byte_of ["value", "k"] fB fdB) : FnOk P w K mg base CX0 3 f fd ["x", "which"] (sp_bits K) := by
  have GH : FnOk P w K mg base CX0 1 fH fdH ["number", "place"] sp_has_bit := ok_has_bit DH.F
  have GO : FnOk P w K mg base CX0 1 fO fdO ["row"] (sp_longs_of K) := ok_longs_of T DO.F
  have GP : FnOk P w K mg base CX0 2 fP fdP ["places", "k"] sp_place_told := ok_place_told T DP.F DB
  obtain ⟨tL, hL⟩ := T.c_LONGS
  obtain ⟨tY, hY⟩ := T.c_LONG_BYTES
  refine F.ok sc_bits (fun vs H Q E h => ?_) (fun cdv A outer s H vs Q E hr h => ?_)
  · obtain ⟨a, b, x, y, rfl, _⟩ := h
    rfl
  · obtain ⟨a, b, x, y, rfl, hA, hB, ⟨hl1, hl2⟩, ⟨b1, b2⟩, q⟩ := h
    refine ⟨_, pss_cons (ps_set (i := 2) sc_bits.nd rfl (.inl rfl) (pe_call (E := EN) GO (hr.mono (by decide)) (by rfl) DO.g DO.F.kp DO.b .nil pass0 (pa_cons (pv 0) pa_nil)))
      (pss_cons (ps_set (i := 3) sc_bits.nd rfl (.inl rfl) (pe_call (E := EN) GO (hr.mono (by decide)) (by rfl) DO.g DO.F.kp DO.b .nil pass0 (pa_cons (pv 1) pa_nil)))
      (pss_cons (ps_set (i := 4) sc_bits.nd rfl (.inl rfl) pe_int)
      (pss_cons (ps_for PassesOwn.never rfl (pi_range1 (by rfl) T.n_range (pa_cons (pe_op on_mul (pe_glob (v := nI 8) (by rfl) hL ⟨_, rfl⟩) (pe_glob (v := nI 8) (by rfl) hY ⟨_, rfl⟩)) pa_nil)) (pg_name (i := 5) sc_bits.nd rfl (Or.inl rfl))
        (pss_cons (ps_set (i := 6) sc_bits.nd rfl (.inl rfl) (pe_op on_fdiv (pv 5) (pe_glob (v := nI 8) (by rfl) hY ⟨_, rfl⟩)))
        (pss_one (ps_if (pt_val (pe_call (E := EN) GH (hr.mono (by decide)) (by rfl) DH.g DH.F.kp DH.b .nil pass0 (pa_cons (pe_ix ix_list (pv 2) (pv 6) (fun _ _ => rfl)) (pa_cons
            (pe_call (E := EN) GP hr (by rfl) DP.g DP.F.kp DP.b .nil pass0 (pa_cons (pe_ix ix_list (pv 3) (pv 6) (fun _ _ => rfl)) (pa_cons (pe_op on_mod (pv 5) (pe_glob (v := nI 8) (by rfl) hY ⟨_, rfl⟩)) pa_nil))) pa_nil))))
          (pss_one (ps_set (i := 4) sc_bits.nd rfl (.inl rfl) (pe_op on_or (pv 4) (pe_op on_shl pe_int (pv 5))))) pss_nil))))
      (pss_one (ps_ret (pe_lst (pa_cons (pv 4) pa_nil))))))), ?_⟩
    refine ⟨.ref a, rfl, a, x, rfl, hA, hl1, b1, fun H1 p1 s1 n1 e1 => ?_⟩
    refine ⟨.ref b, rfl, b, y, rfl, s1.seq hB, hl2, b2, fun H2 p2 s2 n2 e2 => ?_⟩
    have e1 := s2 _ _ e1
    refine ⟨8, 8, rfl, rfl, by decide, 64, rfl, by decide, by decide, ?_⟩
    refine for_range (lo := 0) (n := 64) (fun i σ H' => ∃ y1 y2, σ = [some (.ref a), some (.ref b), some (.ref p1), some (.ref p2), some (nI (maskN (bitsF x y) i)), y1, y2] ∧ H' = H2)
      ⟨none, none, rfl, rfl⟩ (fun i σ H' hi hP => ?_) (fun σ H' hP => ?_)
    · obtain ⟨y1, y2, rfl, rfl⟩ := hP
      rw [Int.zero_add]
      refine ⟨_, rfl, i, 8, rfl, rfl, ⟨by decide, by decide⟩, ?_⟩
      refine ⟨.ref p1, rfl, _, rfl, p1, nv (longsM x), _, nI (lg x (i / 8)), rfl, rfl, SqL.of e1, at_nvr (by omega), ?_⟩
      refine ⟨.ref p2, rfl, _, rfl, p2, nv (longsM y), _, nI (lg y (i / 8)), rfl, rfl, SqL.of e2, at_nvr (by omega), ?_⟩
      refine ⟨_, rfl, i, 8, rfl, rfl, by decide, _, _, rfl, lg x (i / 8), told (lg y (i / 8)) (i % 8), rfl, _, rfl, ?_⟩
      by_cases hb : bitsF x y i = true
      · refine ifT hb ?_
        refine ⟨_, rfl, _, rfl, 1, i, 1, rfl, rfl, ⟨by decide, by omega⟩, maskN (bitsF x y) i, _, rfl, rfl, some (nI i), some (nI (i / 8)), ?_, rfl⟩
        show _ = [_, _, _, _, some (nI (if bitsF x y i = true then maskN (bitsF x y) i ||| (1 <<< i) else maskN (bitsF x y) i)), _, _]
        rw [if_pos hb]
        rfl
      · refine ifF hb ?_
        refine ⟨some (nI i), some (nI (i / 8)), ?_, rfl⟩
        show _ = [_, _, _, _, some (nI (if bitsF x y i = true then maskN (bitsF x y) i ||| (1 <<< i) else maskN (bitsF x y) i)), _, _]
        rw [if_neg hb]
        rfl
    · obtain ⟨y1, y2, rfl, rfl⟩ := hP
      exact ⟨_, rfl, by show 1 ≤ sizeLine; decide, fun p np => q _ p upd_same⟩
end
theorem all_mk {P : Program} {w : World} {K : PySem.W.Frag} {h : Heap} {mg : Str → Option Value} {fa f1 f2 f3 f4 f5 : Addr} (X : K.In h) (G : h.Ns mainGlobals mg) (hfa : mg "bits" = some (.ref fa))
    {od1 an1 od2 an2 od3 an3 od4 an4 od5 an5 : Option Addr} {sl1 sl2 sl3 sl4 sl5 : Array (Option Value)} {oc1 kV1 dc1 pm1 cd1 ct1 oc2 kV2 dc2 pm2 cd2 ct2 oc3 kV3 dc3 pm3 cd3 ct3 oc4 kV4 dc4 pm4 cd4 ct4 oc5 kV5 dc5 pm5 cd5 ct5 : Value}
    {t_LONGS t_LONG_BYTES t_WORD_BITS t_LONG_BITS t_TOP_BYTE : Tok}
    (a1 : PySem.W.nsIn K mainGlobals "has_bit" = some (some (.ref f1))) (l1 : K.lookup f1 = some ⟨oc1, od1, .func (PySem.W.fnOf "has_bit" "has_bit" (defArgs s_has_bit) (defBody s_has_bit) (defScope s_has_bit) .none kV1 dc1 pm1 an1 cd1 ct1), sl1⟩) (c1 : PySem.W.codeIn K cd1 "has_bit" = true) (k1 : PySem.W.keepIn K (.ref f1) = true)
    (a2 : PySem.W.nsIn K mainGlobals "longs_of" = some (some (.ref f2))) (l2 : K.lookup f2 = some ⟨oc2, od2, .func (PySem.W.fnOf "longs_of" "longs_of" (defArgs s_longs_of) (defBody s_longs_of) (defScope s_longs_of) .none kV2 dc2 pm2 an2 cd2 ct2), sl2⟩) (c2 : PySem.W.codeIn K cd2 "longs_of" = true) (k2 : PySem.W.keepIn K (.ref f2) = true)
    (a3 : PySem.W.nsIn K mainGlobals "byte_of" = some (some (.ref f3))) (l3 : K.lookup f3 = some ⟨oc3, od3, .func (PySem.W.fnOf "byte_of" "byte_of" (defArgs s_byte_of) (defBody s_byte_of) (defScope s_byte_of) .none kV3 dc3 pm3 an3 cd3 ct3), sl3⟩) (c3 : PySem.W.codeIn K cd3 "byte_of" = true) (k3 : PySem.W.keepIn K (.ref f3) = true)
    (a4 : PySem.W.nsIn K mainGlobals "place_told" = some (some (.ref f4))) (l4 : K.lookup f4 = some ⟨oc4, od4, .func (PySem.W.fnOf "place_told" "place_told" (defArgs s_place_told) (defBody s_place_told) (defScope s_place_told) .none kV4 dc4 pm4 an4 cd4 ct4), sl4⟩) (c4 : PySem.W.codeIn K cd4 "place_told" = true) (k4 : PySem.W.keepIn K (.ref f4) = true)
    (a5 : PySem.W.nsIn K mainGlobals "bits" = some (some (.ref f5))) (l5 : K.lookup f5 = some ⟨oc5, od5, .func (PySem.W.fnOf "bits" "bits" (defArgs s_bits) (defBody s_bits) (defScope s_bits) .none kV5 dc5 pm5 an5 cd5 ct5), sl5⟩) (c5 : PySem.W.codeIn K cd5 "bits" = true) (k5 : PySem.W.keepIn K (.ref f5) = true)
    (v_LONGS : PySem.W.nsIn K mainGlobals "LONGS" = some (some (.int 8 t_LONGS)))
    (v_LONG_BYTES : PySem.W.nsIn K mainGlobals "LONG_BYTES" = some (some (.int 8 t_LONG_BYTES)))
    (v_WORD_BITS : PySem.W.nsIn K mainGlobals "WORD_BITS" = some (some (.int 32 t_WORD_BITS)))
    (v_LONG_BITS : PySem.W.nsIn K mainGlobals "LONG_BITS" = some (some (.int 64 t_LONG_BITS)))
    (v_TOP_BYTE : PySem.W.nsIn K mainGlobals "TOP_BYTE" = some (some (.int 255 t_TOP_BYTE)))
    (z_range : PySem.W.nsIn K mainGlobals "range" = some none)
    : ∃ fd : FuncData, (∀ (s : Shared) (us : List Value), us.length = (["x", "which"] : List Str).length → BindsTo s fd ⟨us, []⟩ ((["x", "which"] : List Str).zip us)) ∧ ∀ base : Heap, K.In base → base.Ns mainGlobals mg → FnOk P w K mg base CX0 3 fa fd ["x", "which"] (sp_bits K) := by
  have e := hfa.symm.trans (PySem.W.mg_of X G a5)
  cases e
  have T : Txt K mg := ⟨⟨_, PySem.W.mg_of X G v_LONGS⟩, ⟨_, PySem.W.mg_of X G v_LONG_BYTES⟩, ⟨_, PySem.W.mg_of X G v_WORD_BITS⟩, ⟨_, PySem.W.mg_of X G v_LONG_BITS⟩, ⟨_, PySem.W.mg_of X G v_TOP_BYTE⟩, PySem.W.mg_none_of X G z_range⟩
  have F1 := fun_mk (st := s_has_bit) l1 c1 k1
  have b1 := F1.binds (ps := ["number", "place"]) fun _ _ _ _ _ _ us hl => match us, hl with | [_, _], _ => rfl
  have D1 : DefAt K mg "has_bit" s_has_bit ["number", "place"] f1 _ := ⟨F1, b1, PySem.W.mg_of X G a1⟩
  have F2 := fun_mk (st := s_longs_of) l2 c2 k2
  have b2 := F2.binds (ps := ["row"]) fun _ _ _ _ _ _ us hl => match us, hl with | [_], _ => rfl
  have D2 : DefAt K mg "longs_of" s_longs_of ["row"] f2 _ := ⟨F2, b2, PySem.W.mg_of X G a2⟩
  have F3 := fun_mk (st := s_byte_of) l3 c3 k3
  have b3 := F3.binds (ps := ["value", "k"]) fun _ _ _ _ _ _ us hl => match us, hl with | [_, _], _ => rfl
  have D3 : DefAt K mg "byte_of" s_byte_of ["value", "k"] f3 _ := ⟨F3, b3, PySem.W.mg_of X G a3⟩
  have F4 := fun_mk (st := s_place_told) l4 c4 k4
  have b4 := F4.binds (ps := ["places", "k"]) fun _ _ _ _ _ _ us hl => match us, hl with | [_, _], _ => rfl
  have D4 : DefAt K mg "place_told" s_place_told ["places", "k"] f4 _ := ⟨F4, b4, PySem.W.mg_of X G a4⟩
  have F5 := fun_mk (st := s_bits) l5 c5 k5
  have b5 := F5.binds (ps := ["x", "which"]) fun _ _ _ _ _ _ us hl => match us, hl with | [_, _], _ => rfl
  exact ⟨PySem.W.fnOf "bits" "bits" (defArgs s_bits) (defBody s_bits) (defScope s_bits) .none kV5 dc5 pm5 an5 cd5 ct5, fun s us hu => match us, hu with | [_, _], _ => .of_eq rfl, fun base _ _ => ok_bits T F5 D1 D2 D4 D3⟩
theorem bits_is {x z : List Nat} (hx : ∀ k ∈ x, k < 2 ^ 32) (hz : ∀ k ∈ z, k < 2 ^ 32) : Sv11.bits x z = bitsM x z := by
  unfold Sv11.bits bitsM
  rw [← maskN_eq]
  refine maskN_congr fun k hk => ?_
  unfold bitsF
  rw [lg_eq hx, lg_eq hz, ← byte_told z (k / 8) (k % 8) (by omega), show 8 * (k / 8) + k % 8 = k by omega]
theorem spec_bits {x z : List Nat} (hx : ∀ k ∈ x, k < 2 ^ 32) (hz : ∀ k ∈ z, k < 2 ^ 32) : PySv11.bits (zl x) (zl z) = zl [bitsM x z] := by
  show [((Sv11.bits (Sv11Neutral.n (zl x)) (Sv11Neutral.n (zl z)) : Nat) : Int)] = [((bitsM x z : Nat) : Int)]
  rw [zl_back, zl_back, bits_is hx hz]
theorem req_bits {K : PySem.W.Frag} {H : Hp} {xs : List V} {a : PySem.W.Codec.denoteAll PySem.Challenge.rw_sixteenwordsdesk_s08_bits.args}
    (hask : PySem.W.Codec.app PySem.Challenge.rw_sixteenwordsdesk_s08_bits.args PySem.Challenge.rw_sixteenwordsdesk_s08_bits.asked a = true) (hx : DwAll K H xs (PySem.W.Codec.encAll PySem.Challenge.rw_sixteenwordsdesk_s08_bits.args a)) :
    sp_bits K xs H (fun v H' => Dw K H' v (PySem.Challenge.rw_sixteenwordsdesk_s08_bits.ret.enc (PySem.W.Codec.app PySem.Challenge.rw_sixteenwordsdesk_s08_bits.args PySem.Challenge.rw_sixteenwordsdesk_s08_bits.f a))) fun _ _ _ => False := by
  obtain ⟨x, y, u⟩ := a
  have hask : (Sv11Neutral.row x && Sv11Neutral.row y) = true := hask
  rw [Bool.and_eq_true] at hask
  obtain ⟨x, rfl, hl, hw⟩ := row_nat hask.1
  obtain ⟨y, rfl, hl2, hw2⟩ := row_nat hask.2
  have hx : DwAll K H xs [.list ((zl x).map PySem.W.WData.int), .list ((zl y).map PySem.W.WData.int)] := hx
  obtain ⟨v1, r1, rfl, h1, hx⟩ := dw_cons hx
  obtain ⟨v2, r2, rfl, h2, hx⟩ := dw_cons hx
  cases hx
  obtain ⟨a1, rfl, s1⟩ := dw_row h1
  obtain ⟨a2, rfl, s2⟩ := dw_row h2
  refine ⟨a1, a2, x, y, rfl, s1, s2, ⟨hl, hl2⟩, ⟨hw, hw2⟩, fun H' p hp => ?_⟩
  show Dw K H' (.ref p) (.list ((PySv11.bits (zl x) (zl y)).map PySem.W.WData.int))
  rw [spec_bits hw hw2]
  exact dw_nv hp
end My
open PySem PySem.W PyProof.Rows
set_option maxRecDepth 100000 in
set_option maxHeartbeats 8000000 in
theorem PySem.Challenge.cw_sixteenwordsdesk_s08_bits_holds : PySem.Challenge.rw_sixteenwordsdesk_s08_bits.Holds := by
  w_on; k_headS; (case hw => exact ⟨[.list [.int 0, .int 0, .int 0, .int 0, .int 0, .int 0, .int 0, .int 0, .int 0, .int 0, .int 0, .int 0, .int 0, .int 0, .int 0, .int 0], .list [.int 0, .int 0, .int 0, .int 0, .int 0, .int 0, .int 0, .int 0, .int 0, .int 0, .int 0, .int 0, .int 0, .int 0, .int 0, .int 0]], by decide +kernel, by decide +kernel⟩)
  k_fillS
  refine L2.walk_specK (r := PySem.Challenge.rw_sixteenwordsdesk_s08_bits) (k := 3) (CX := L2.CX0) (ps := ["x", "which"]) (sp := My.sp_bits) (by decide +kernel) rfl rfl ⟨rfl, by decide, by decide⟩ (fun w h Y => PySem.W.kIn_of Y) ?F ?S (fun _ _ _ _ z => z)
  case F =>
    intro w mg fa h Y KX G hmg
    refine' My.all_mk KX G hmg ?a1 ?l1 ?c1 ?k1 ?a2 ?l2 ?c2 ?k2 ?a3 ?l3 ?c3 ?k3 ?a4 ?l4 ?c4 ?k4 ?a5 ?l5 ?c5 ?k5 ?v_LONGS ?v_LONG_BYTES ?v_WORD_BITS ?v_LONG_BITS ?v_TOP_BYTE ?z_range
    (case a1 => k_is); (case l1 => k_is); (case c1 => k_is); (case k1 => k_is); (case a2 => k_is); (case l2 => k_is); (case c2 => k_is); (case k2 => k_is); (case a3 => k_is); (case l3 => k_is); (case c3 => k_is); (case k3 => k_is); (case a4 => k_is); (case l4 => k_is); (case c4 => k_is); (case k4 => k_is); (case a5 => k_is); (case l5 => k_is); (case c5 => k_is); (case k5 => k_is); (case v_LONGS => k_is); (case v_LONG_BYTES => k_is); (case v_WORD_BITS => k_is); (case v_LONG_BITS => k_is); (case v_TOP_BYTE => k_is); (case z_range => k_is)
  case S =>
    intro K H xs a hO hwi hask hx
    exact My.req_bits hask hx
#print axioms PySem.Challenge.cw_sixteenwordsdesk_s08_bits_holds
