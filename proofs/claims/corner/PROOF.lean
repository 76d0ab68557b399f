import PyProof.Rows.All
import Wide.All
import OpenK.AllK
import Wide.FinOn
import KE.OsGo
import KE.OsEnd
import KE.OsArgs
import PySem.Challenge.RW_sawteeth_s03_corner
open PySem PySem.W PyProof.Rows
set_option Elab.async false
set_option maxHeartbeats 4000000
namespace Cn
/-- how many of lo, lo + 1, .., m of them, are so -/
def cnt (p : Nat → Bool) (lo : Nat) : Nat → Nat
  | 0 => 0
  | m + 1 => cnt p lo m + (if p (lo + m) = true then 1 else 0)
/-- a sum over 0, 1, .., n of them -/
def sm (f : Nat → Nat) : Nat → Nat
  | 0 => 0
  | n + 1 => sm f n + f n
theorem sm_spec (f : Nat → Nat) : ∀ n : Nat, ((List.range n).map f).sum = sm f n
  | 0 => rfl
  | n + 1 => by
    rw [List.range_succ, List.map_append, List.sum_append, sm_spec f n]
    simp [sm]
theorem sm_congr {f g : Nat → Nat} : ∀ {n : Nat}, (∀ i, i < n → f i = g i) → sm f n = sm g n
  | 0, _ => rfl
  | n + 1, h => by
    show sm f n + f n = sm g n + g n
    rw [sm_congr (fun i hi => h i (by omega)), h n (by omega)]
theorem cnt_congr {p q : Nat → Bool} {lo : Nat} : ∀ {m : Nat}, (∀ j, lo ≤ j → j < lo + m → p j = q j) → cnt p lo m = cnt q lo m
  | 0, _ => rfl
  | m + 1, h => by
    show cnt p lo m + _ = cnt q lo m + _
    rw [cnt_congr (fun j h1 h2 => h j h1 (by omega)), h (lo + m) (by omega) (by omega)]
theorem cnt_range' (p : Nat → Bool) (lo : Nat) : ∀ m : Nat, ((List.range' lo m).filter p).length = cnt p lo m
  | 0 => rfl
  | m + 1 => by
    rw [List.range'_concat, List.filter_append, List.length_append, cnt_range' p lo m]
    show _ = cnt p lo m + _
    simp only [Nat.one_mul, List.filter_cons, List.filter_nil]
    split <;> simp
theorem cnt_range (p : Nat → Bool) (m : Nat) : ((List.range m).filter p).length = cnt p 0 m := by
  rw [List.range_eq_range', cnt_range']
theorem corner_spec (a b c : Nat) : Sv96.corner a b c = sm (fun x => sm (fun y => cnt (fun z => decide (0 < x * (b * c) + y * (a * c) + z * (a * b)) && decide (x * (b * c) + y * (a * c) + z * (a * b) < a * b * c)) 0 c) b) a := by
  unfold Sv96.corner
  rw [List.length_flatMap, sm_spec]
  refine sm_congr fun x _ => ?_
  rw [List.length_flatMap, sm_spec]
  refine sm_congr fun y _ => ?_
  rw [cnt_range]
/-- what h times i leaves by n -/
def left (h : Int) (n i : Nat) : Nat := (h * (i : Int) % (n : Int)).toNat
theorem order_get {h : Int} {n i : Nat} (hi : i < n) : (Sv96.order h n).getD i 0 = left h n i := by
  unfold Sv96.order
  rw [List.getD_eq_getElem?_getD, List.getElem?_map, List.getElem?_range hi]
  rfl
theorem wrongs_spec (h : Int) (n : Nat) : Sv96.wrongs (Sv96.order h n) = sm (fun i => cnt (fun j => decide (left h n j < left h n i)) (i + 1) (n - (i + 1))) n := by
  have l : (Sv96.order h n).length = n := by simp [Sv96.order]
  unfold Sv96.wrongs
  rw [l, sm_spec]
  refine sm_congr fun i hi => ?_
  have d : (Sv96.order h n).drop (i + 1) = (List.range' (i + 1) (n - (i + 1))).map (left h n) := by
    unfold Sv96.order
    rw [← List.map_drop, List.range_eq_range', List.drop_range']
    simp only [Nat.zero_add, Nat.mul_one]
    rfl
  rw [order_get hi, d, List.filter_map, List.length_map, cnt_range']
  rfl
end Cn
namespace Cs
def gd (x y : Int) : Int := ((Nat.gcd x.natAbs y.natAbs : Nat) : Int)
theorem apart_gd {h k : Int} (hk : 0 < k) : Sv96.apart h k.toNat = decide (gd h k = 1) := by
  have e : k.toNat = k.natAbs := by omega
  unfold Sv96.apart gd
  rw [e]
  by_cases c : Nat.gcd h.natAbs k.natAbs = 1
  · simp [c]
  · have d : ¬ ((Nat.gcd h.natAbs k.natAbs : Nat) : Int) = 1 := by omega
    simp only [d, decide_false]
    simpa using c
theorem pair_out {h k : Int} (b : ¬ (-1000000 ≤ h ∧ h ≤ 1000000 ∧ 1 ≤ k ∧ k ≤ 1000000)) : Sv96.pairOk h k = false := by
  unfold Sv96.pairOk Sv96.big Sv96.within Sv96.MOST
  simp only [Bool.and_eq_false_iff, decide_eq_false_iff_not]
  omega
theorem pair_in {h k : Int} (b : -1000000 ≤ h ∧ h ≤ 1000000 ∧ 1 ≤ k ∧ k ≤ 1000000) : Sv96.pairOk h k = true := by
  unfold Sv96.pairOk Sv96.big Sv96.within Sv96.MOST
  simp only [Bool.and_eq_true, decide_eq_true_eq]
  omega
/-! corner -/
theorem corner_eq (a b c : Int) : PySv96.corner a b c = Sv96Neutral.on (Sv96.cornerOk a b c) true (fun _ => [((Sv96.corner a.toNat b.toNat c.toNat : Nat) : Int)]) := rfl
theorem corner_out {a b c : Int} (h : ¬ (1 ≤ a ∧ a ≤ 1000 ∧ 1 ≤ b ∧ b ≤ 1000 ∧ 1 ≤ c ∧ c ≤ 1000)) : PySv96.corner a b c = [-2] := by
  have e : Sv96.cornerOk a b c = false := by
    unfold Sv96.cornerOk Sv96.within
    simp only [Bool.and_eq_false_iff, decide_eq_false_iff_not]
    omega
  rw [corner_eq, e]
  rfl
theorem corner_is {a b c : Int} (h : 1 ≤ a ∧ a ≤ 1000 ∧ 1 ≤ b ∧ b ≤ 1000 ∧ 1 ≤ c ∧ c ≤ 1000) : PySv96.corner a b c = [((Sv96.corner a.toNat b.toNat c.toNat : Nat) : Int)] := by
  have e : Sv96.cornerOk a b c = true := by
    unfold Sv96.cornerOk Sv96.within
    simp only [Bool.and_eq_true, decide_eq_true_eq]
    omega
  rw [corner_eq, e]
  rfl
end Cs
namespace Co
theorem cnt_min {p : Nat → Bool} {t : Nat} (h : ∀ z, p z = true ↔ z < t) : ∀ m : Nat, Cn.cnt p 0 m = min m t
  | 0 => by simp [Cn.cnt]
  | m + 1 => by
    show Cn.cnt p 0 m + (if p (0 + m) = true then 1 else 0) = _
    rw [cnt_min h m, Nat.zero_add]
    by_cases c : m < t
    · rw [if_pos ((h m).mpr c)]
      omega
    · rw [if_neg (fun e => c ((h m).mp e))]
      omega
/-- how many z fit above x and y -/
def height (x y a b c : Int) : Int := if a * b - x * b - y * a ≤ 0 then 0 else Int.fdiv (c * (a * b - x * b - y * a) + a * b - 1) (a * b)
theorem ceil_lt {R P q : Int} (hP : 0 < P) (e : q = Int.fdiv (R + P - 1) P) (z : Int) : z < q ↔ z * P < R := by
  have d : Int.fdiv (R + P - 1) P = (R + P - 1) / P := Int.fdiv_eq_ediv_of_nonneg _ (by omega)
  rw [e, d]
  constructor
  · intro h
    have h1 : (z + 1) * P ≤ R + P - 1 := (Int.le_ediv_iff_mul_le hP).mp (by omega)
    rw [Int.add_mul] at h1
    omega
  · intro h
    have h1 : z + 1 ≤ (R + P - 1) / P := by
      refine (Int.le_ediv_iff_mul_le hP).mpr ?_
      rw [Int.add_mul]
      omega
    omega
theorem ring1 (a b c x y z : Int) : z * (a * b) < c * (a * b - x * b - y * a) ↔ x * (b * c) + y * (a * c) + z * (a * b) < a * b * c := by
  have e : c * (a * b - x * b - y * a) = a * b * c - x * (b * c) - y * (a * c) := by grind
  rw [e]
  omega
theorem height_cnt {a b c : Nat} (ha : 0 < a) (hb : 0 < b) (hc : 0 < c) (x y : Nat) :
    ((Cn.cnt (fun z => decide (x * (b * c) + y * (a * c) + z * (a * b) < a * b * c)) 0 c : Nat) : Int) = height x y a b c := by
  have P : (0 : Int) < (a : Int) * (b : Int) := Int.mul_pos (by omega) (by omega)
  have key : ∀ z : Nat, decide (x * (b * c) + y * (a * c) + z * (a * b) < a * b * c) = true ↔ (z : Int) * ((a : Int) * (b : Int)) < (c : Int) * ((a : Int) * b - (x : Int) * b - (y : Int) * a) := by
    intro z
    rw [decide_eq_true_eq, ring1, ← Int.ofNat_lt]
    simp only [Int.natCast_add, Int.natCast_mul]
  unfold height
  split
  case isTrue h =>
    rw [cnt_min (t := 0)]
    · simp
    · intro z
      rw [key]
      have h1 : (c : Int) * ((a : Int) * b - (x : Int) * b - (y : Int) * a) ≤ 0 := Int.mul_nonpos_of_nonneg_of_nonpos (by omega) h
      have h2 : 0 ≤ (z : Int) * ((a : Int) * (b : Int)) := Int.mul_nonneg (by omega) (by omega)
      omega
  case isFalse h =>
    generalize hq : Int.fdiv ((c : Int) * ((a : Int) * b - (x : Int) * b - (y : Int) * a) + (a : Int) * b - 1) ((a : Int) * b) = q
    have lt := ceil_lt P hq.symm
    have q0 : 0 < q := by
      rw [lt]
      have h1 : 0 < (c : Int) * ((a : Int) * b - (x : Int) * b - (y : Int) * a) := Int.mul_pos (by omega) (by omega)
      omega
    have qc : ¬ (c : Int) < q := by
      rw [lt]
      have h1 : (c : Int) * ((a : Int) * b - (x : Int) * b - (y : Int) * a) ≤ (c : Int) * ((a : Int) * b) := by
        refine Int.mul_le_mul_of_nonneg_left ?_ (by omega)
        have u1 : 0 ≤ (x : Int) * (b : Int) := Int.mul_nonneg (by omega) (by omega)
        have u2 : 0 ≤ (y : Int) * (a : Int) := Int.mul_nonneg (by omega) (by omega)
        omega
      omega
    rw [cnt_min (t := q.toNat)]
    · omega
    · intro z
      rw [key, ← lt]
      omega
/-- the points by x and y, y's so far -/
def line (x a b c : Int) : Nat → Int
  | 0 => 0
  | n + 1 => line x a b c n + height x (n : Int) a b c
def plane (a b c : Int) : Nat → Int
  | 0 => 0
  | n + 1 => plane a b c n + line (n : Int) a b c b.toNat
theorem cnt_zero {p q : Nat → Bool} (h0 : p 0 = false) (q0 : q 0 = true) (h : ∀ z, 0 < z → p z = q z) : ∀ m : Nat, Cn.cnt q 0 (m + 1) = Cn.cnt p 0 (m + 1) + 1
  | 0 => by simp [Cn.cnt, h0, q0]
  | m + 1 => by
    have e := cnt_zero h0 q0 h m
    show Cn.cnt q 0 (m + 1) + _ = Cn.cnt p 0 (m + 1) + _ + 1
    rw [e, h (0 + (m + 1)) (by omega)]
    omega
theorem sm_cast (f : Nat → Nat) (g : Nat → Int) (h : ∀ i, ((f i : Nat) : Int) = g i) (F : Nat → Int) (F0 : F 0 = 0) (F1 : ∀ n, F (n + 1) = F n + g n) : ∀ n : Nat, ((Cn.sm f n : Nat) : Int) = F n
  | 0 => by rw [F0]; rfl
  | n + 1 => by
    rw [F1, ← sm_cast f g h F F0 F1 n, ← h]
    show ((Cn.sm f n + f n : Nat) : Int) = _
    omega
/-- the sum with the first point counted is greater by one -/
theorem sm_zero {f g : Nat → Nat} (h0 : g 0 = f 0 + 1) (h : ∀ i, 0 < i → f i = g i) : ∀ n : Nat, Cn.sm g (n + 1) = Cn.sm f (n + 1) + 1
  | 0 => by
    show 0 + g 0 = 0 + f 0 + 1
    omega
  | n + 1 => by
    have e := sm_zero h0 h n
    show Cn.sm g (n + 1) + g (n + 1) = Cn.sm f (n + 1) + f (n + 1) + 1
    rw [e, h (n + 1) (by omega)]
    omega
theorem corner_plane {a b c : Nat} (ha : 0 < a) (hb : 0 < b) (hc : 0 < c) : ((Sv96.corner a b c : Nat) : Int) = plane a b c a - 1 := by
  have pos : ∀ u v : Nat, 0 < u → 0 < v → 0 < u * v := fun u v hu hv => Nat.mul_pos hu hv
  have e : Cn.sm (fun x => Cn.sm (fun y => Cn.cnt (fun z => decide (x * (b * c) + y * (a * c) + z * (a * b) < a * b * c)) 0 c) b) a = Sv96.corner a b c + 1 := by
    rw [Cn.corner_spec]
    obtain ⟨a', rfl⟩ : ∃ a', a = a' + 1 := ⟨a - 1, by omega⟩
    refine sm_zero ?_ ?_ a'
    · obtain ⟨b', rfl⟩ : ∃ b', b = b' + 1 := ⟨b - 1, by omega⟩
      refine sm_zero ?_ ?_ b'
      · obtain ⟨c', rfl⟩ : ∃ c', c = c' + 1 := ⟨c - 1, by omega⟩
        refine cnt_zero ?_ ?_ ?_ c'
        · simp
        · have := pos _ _ (pos _ _ ha hb) hc
          simp
        · intro z hz
          have := pos z _ hz (pos _ _ ha hb)
          have h1 : 0 < 0 * ((b' + 1) * (c' + 1)) + 0 * ((a' + 1) * (c' + 1)) + z * ((a' + 1) * (b' + 1)) := by omega
          simp only [h1, decide_true, Bool.true_and]
      · intro y hy
        refine Cn.cnt_congr fun z _ _ => ?_
        have := pos y _ hy (pos _ _ ha hc)
        have h1 : 0 < 0 * ((b' + 1) * c) + y * ((a' + 1) * c) + z * ((a' + 1) * (b' + 1)) := by omega
        simp only [h1, decide_true, Bool.true_and]
    · intro x hx
      refine Cn.sm_congr fun y _ => ?_
      refine Cn.cnt_congr fun z _ _ => ?_
      have := pos x _ hx (pos _ _ hb hc)
      have h1 : 0 < x * (b * c) + y * ((a' + 1) * c) + z * ((a' + 1) * b) := by omega
      simp only [h1, decide_true, Bool.true_and]
  have l : ∀ x : Nat, ((Cn.sm (fun y => Cn.cnt (fun z => decide (x * (b * c) + y * (a * c) + z * (a * b) < a * b * c)) 0 c) b : Nat) : Int) = line (x : Int) a b c b :=
    fun x => sm_cast _ (fun y => height (x : Int) (y : Int) a b c) (fun y => height_cnt ha hb hc x y) (line (x : Int) a b c) rfl (fun _ => rfl) b
  have p := sm_cast _ (fun x => line (x : Int) a b c b) l (plane a b c) rfl (fun n => by
    show plane a b c n + line (n : Int) a b c ((b : Int)).toNat = _
    rw [Int.toNat_natCast]) a
  rw [← p, e]
  omega
theorem corner_due {a b c : Int} (h : 1 ≤ a ∧ a ≤ 1000 ∧ 1 ≤ b ∧ b ≤ 1000 ∧ 1 ≤ c ∧ c ≤ 1000) : PySv96.corner a b c = [plane a b c a.toNat - 1] := by
  have ea : ((a.toNat : Nat) : Int) = a := by omega
  have eb : ((b.toNat : Nat) : Int) = b := by omega
  have ec : ((c.toNat : Nat) : Int) = c := by omega
  rw [Cs.corner_is h, corner_plane (by omega) (by omega) (by omega), ea, eb, ec]
end Co
namespace My
theorem height_none {x y a b c : Int} (h : a * b - x * b - y * a ≤ 0) : 0 = Co.height x y a b c := by
  unfold Co.height
  rw [if_pos h]
theorem height_some {x y a b c : Int} (h : ¬ a * b - x * b - y * a ≤ 0) : Int.fdiv (c * (a * b - x * b - y * a) + a * b - 1) (a * b) = Co.height x y a b c := by
  unfold Co.height
  rw [if_neg h]
theorem plane_start (a b c : Int) : (0 : Int) = Co.plane a b c ([] : List Int).length := rfl
theorem line_start (a b c x p : Int) : p = p + Co.line x a b c ([] : List Int).length := by
  show p = p + 0
  omega
theorem line_turn {a b c x p t i : Int} {pre : List Int} (e : t = p + Co.line x a b c pre.length) (ei : i = 0 + (pre.length : Int)) :
    t + Co.height x i a b c = p + Co.line x a b c (pre ++ [i]).length := by
  have l : (pre ++ [i]).length = pre.length + 1 := by simp
  have e2 : i = (pre.length : Int) := by omega
  rw [l, e, e2]
  show _ = p + (Co.line x a b c pre.length + Co.height x _ a b c)
  omega
theorem plane_turn {a b c p t x : Int} {pre : List Int} {m : Nat} (e : t = p + Co.line x a b c (PySem.W.rangeKs 0 m).length) (e0 : p = Co.plane a b c pre.length) (ex : x = 0 + (pre.length : Int)) (hm : m = b.toNat) :
    t = Co.plane a b c (pre ++ [x]).length := by
  have l : (pre ++ [x]).length = pre.length + 1 := by simp
  have e2 : x = (pre.length : Int) := by omega
  rw [l, e, e0, e2, PySem.W.rangeKs_length, hm]
  rfl
theorem plane_out {a b c t : Int} {m : Nat} (e : t = Co.plane a b c (PySem.W.rangeKs 0 m).length) (hm : m = a.toNat) : Co.plane a b c a.toNat = t := by
  rw [e, PySem.W.rangeKs_length, hm]
open PySem PySem.Calls PyProof.Rows
theorem wide_log {x y : Int} (lo : -1000000000000000 ≤ y) (hi : y ≤ 1000000000000000) (nz : y ≠ 0) : Builtin.divisionGoesByPylong x y = false := by
  refine PyProof.noPylong_of_log2 ?_
  have h0 : y.natAbs ≠ 0 := by omega
  have h30 : y.natAbs.log2 < 50 := (Nat.log2_lt h0).mpr (by omega)
  omega
section
variable {prog : Program} {w : World} {A : Around} {E : Value → Shared → Prop} {s : Shared} {x y z : Int} {t u : Tok} {Q : Value → Shared → Prop}
theorem step_mul (lo : -4000000 ≤ y) (hi : y ≤ 4000000) (h : Q (.int (x * y) s.toks) { s with toks := s.toks + 1 }) :
    wpAny (model prog w) A (binaryOp .Mult (.int x t) (.int y u)) Q E s :=
  PyProof.Rows.mul_int h (PySem.IntMulOk.of_right (PySem.intBits_le_64 (by omega) (by omega)))
theorem step_mul_left (lo : -4000000 ≤ x) (hi : x ≤ 4000000) (h : Q (.int (x * y) s.toks) { s with toks := s.toks + 1 }) :
    wpAny (model prog w) A (binaryOp .Mult (.int x t) (.int y u)) Q E s :=
  PyProof.Rows.mul_int h (PySem.IntMulOk.of_left (PySem.intBits_le_64 (by omega) (by omega)))
theorem prod_small {y z : Int} (a : -1000000 ≤ y ∧ y ≤ 1000000) (b : -1000000 ≤ z ∧ z ≤ 1000000) : -1000000000000 ≤ y * z ∧ y * z ≤ 1000000000000 := by
  have e := Int.natAbs_mul y z
  have f : y.natAbs * z.natAbs ≤ 1000000 * 1000000 := Nat.mul_le_mul (by omega) (by omega)
  omega
theorem step_div2 (y0 : y ≠ 0) (z0 : z ≠ 0) (a : -1000000 ≤ y ∧ y ≤ 1000000) (b : -1000000 ≤ z ∧ z ≤ 1000000) (h : Q (.int (Int.fdiv x (y * z)) s.toks) { s with toks := s.toks + 1 }) :
    wpAny (model prog w) A (binaryOp .FloorDiv (.int x t) (.int (y * z) u)) Q E s :=
  PyProof.Rows.floordiv_int (Int.mul_ne_zero y0 z0) h (Or.inl (wide_log (by have := prod_small a b; omega) (by have := prod_small a b; omega) (Int.mul_ne_zero y0 z0)))
end
end My
local macro_rules | `(tactic| walk_at "binaryOp Mult int int") => `(tactic| (k_here; (with_reducible refine' My.step_mul_left ?k1 ?k2 ?_); (case k1 => k_dflt omega); (case k2 => k_dflt omega)))
local macro_rules | `(tactic| walk_at "binaryOp Mult int int") => `(tactic| (k_here; (with_reducible refine' My.step_mul ?k1 ?k2 ?_); (case k1 => k_dflt omega); (case k2 => k_dflt omega)))
local macro_rules | `(tactic| walk_at "CompSrc") => `(tactic| (k_here; k_dflt (refine LCg.CompSrc.ledger (by rfl) (by k_asm) (by k_asm) (by k_mem) (by first | size_fits | exact Nat.le_of_ble_eq_true rfl) ?_); intro g'; lcg_lit))
local macro_rules | `(tactic| walk_at "binaryOp FloorDiv int int") => `(tactic| (k_here; (with_reducible refine' My.step_div2 ?k1 ?k2 ?k3 ?k4 ?_); (case k1 => k_dflt omega); (case k2 => k_dflt omega); (case k3 => k_dflt omega); (case k4 => k_dflt omega)))
example : Int → Int → Int → List Int → Int → Prop := fun a b c pre p => p = Co.plane a b c pre.length
example : Int → Int → Int → Int → Int → List Int → Int → Prop := fun a b c x p0 pre p => p = p0 + Co.line x a b c pre.length
theorem said : PySem.Challenge.rw_sawteeth_s03_corner.wellSaid = true := by decide +kernel
set_option maxRecDepth 100000 in
set_option maxHeartbeats 8000000 in
theorem PySem.Challenge.cw_sawteeth_s03_corner_holds : PySem.Challenge.rw_sawteeth_s03_corner.Holds := by
  k_with "call ref" => k_call_by "corner_heights" Co.height (fun (x y a b c : Int) => 0 ≤ x ∧ x ≤ 1000 ∧ 0 ≤ y ∧ y ≤ 1000 ∧ 0 < a ∧ a ≤ 1000 ∧ 0 < b ∧ b ≤ 1000 ∧ 0 < c ∧ c ≤ 1000)
  k_with "tree" => first
    | exact My.height_none (by first | assumption | omega)
    | exact My.height_some (by first | assumption | omega)
  k_with "state" => first
    | exact My.plane_start _ _ _
    | exact My.line_start _ _ _ _ _
    | exact My.line_turn (by assumption) (by assumption)
    | exact My.plane_turn (by assumption) (by assumption) (by assumption) (by omega)
  k_with "pyIter ref" => (k_of "y" => k_state_given ["a", "b", "c", "x", "points!"] (fun a b c x p0 pre p => p = p0 + Co.line x a b c pre.length) "points")
  k_with "pyIter ref" => (k_of "x" => k_state_given ["a", "b", "c"] (fun a b c pre p => p = Co.plane a b c pre.length) "points")
  open_ks with [.int 1, .int 1, .int 1]
  all_goals (os_open said with a w q e; obtain ⟨a1, a2, a3, u⟩ := a; have e1 := os_j_int (List.cons.inj e).1; have e2 := os_j_int (List.cons.inj (List.cons.inj e).2).1; have e3 := os_j_int (List.cons.inj (List.cons.inj (List.cons.inj e).2).2).1; clear e w q; subst e1 e2 e3)
  all_goals (show ofPy (PyData.list _) = WData.list (List.map WData.int (PySv96.corner _ _ _)); refine os_list ?_)
  all_goals simp only [decide_eq_true_eq, decide_eq_false_iff_not, bne_iff_ne, ne_eq, bne_eq_false_iff_eq, Bool.and_eq_true, Bool.and_eq_false_iff, Bool.not_eq_true, Bool.not_eq_false] at *
  all_goals first
    | (rw [Cs.corner_out (by omega)]; rfl)
    | (rw [Co.corner_due (by omega), My.plane_out (by assumption) (by omega)]; rfl)
#print axioms PySem.Challenge.cw_sawteeth_s03_corner_holds
