import PyProof.Rows.All
import Wide.All
import OpenK.AllK
import Wide.FinOn
import KE.OsGo
import KE.OsEnd
import KE.OsArgs
import PySem.Challenge.RW_sawteeth_s01_six
open PySem PySem.W PyProof.Rows
set_option Elab.async false
set_option maxHeartbeats 4000000
namespace My
def gd (x y : Int) : Int := ((Nat.gcd x.natAbs y.natAbs : Nat) : Int)
def tooth (x k : Int) : Int := if Int.fmod x k = 0 then 0 else 2 * Int.fmod x k - k
def part (h k : Int) : Nat → Int
  | 0 => 0
  | n + 1 => part h k n + tooth (n : Int) k * tooth (h * (n : Int)) k
def ssum (h k : Int) : Int := part h k k.toNat
theorem gd_abs (x y : Int) : gd (if x < 0 then -x else x) (if y < 0 then -y else y) = gd x y := by
  have e : ∀ z : Int, (if z < 0 then -z else z).natAbs = z.natAbs := by
    intro z
    split <;> omega
  unfold gd
  rw [e, e]
theorem gd_start (x y : Int) : 0 ≤ (if x < 0 then -x else x) ∧ 0 ≤ (if y < 0 then -y else y) ∧ gd (if x < 0 then -x else x) (if y < 0 then -y else y) = gd x y := by
  refine ⟨?_, ?_, gd_abs x y⟩
  · split <;> omega
  · split <;> omega
theorem gd_turn {x y a b : Int} (h : gd a b = gd x y) (a0 : 0 ≤ a) (b0 : 0 ≤ b) (nz : ¬ b = 0) : 0 ≤ b ∧ 0 ≤ a.fmod b ∧ gd b (a.fmod b) = gd x y := by
  have e : a.fmod b = a % b := Int.fmod_eq_emod_of_nonneg a b0
  have p : 0 ≤ a % b := Int.emod_nonneg a nz
  refine ⟨b0, by omega, ?_⟩
  rw [← h, e]
  unfold gd
  have q : (a % b).natAbs = a.natAbs % b.natAbs := by
    rw [Int.natAbs_emod_of_nonneg a0]
  rw [q, Nat.gcd_comm a.natAbs b.natAbs, Nat.gcd_rec b.natAbs a.natAbs, Nat.gcd_comm]
theorem gd_less {a b : Int} (b0 : 0 ≤ b) (nz : ¬ b = 0) : (a.fmod b).toNat < b.toNat := by
  have q := Int.fmod_lt_of_pos a (show 0 < b by omega)
  have p := Int.fmod_nonneg_of_pos a (show 0 < b by omega)
  omega
theorem gd_out {x y a b : Int} (h : gd a b = gd x y) (a0 : 0 ≤ a) (z : b = 0) : a = gd x y := by
  rw [← h, z]
  unfold gd
  simp
  omega
theorem tooth_in (x k : Int) : k ≤ 0 ∨ (-k ≤ tooth x k ∧ tooth x k ≤ k) := by
  by_cases h : 0 < k
  case neg => exact Or.inl (by omega)
  refine Or.inr ?_
  have q := Int.fmod_lt_of_pos x h
  have p := Int.fmod_nonneg_of_pos x h
  unfold tooth
  split <;> omega
theorem part_start (h k : Int) : (0 : Int) = part h k ([] : List Int).length := rfl
theorem part_turn {h k t i : Int} {pre : List Int} (e : t = part h k pre.length) (ei : i = 0 + (pre.length : Int)) :
    t + tooth i k * tooth (h * i) k = part h k (pre ++ [i]).length := by
  have l : (pre ++ [i]).length = pre.length + 1 := by simp
  have e2 : i = (pre.length : Int) := by omega
  rw [l, e, e2]
  rfl
theorem tooth_spec {k : Int} (h : 0 < k) (x : Int) : tooth x k = Sv96.tooth k.toNat x := by
  have e : ((k.toNat : Nat) : Int) = k := by omega
  unfold tooth Sv96.tooth
  rw [e, Int.fmod_eq_emod_of_nonneg x (show 0 ≤ k by omega)]
theorem part_spec {k : Int} (hk : 0 < k) (h : Int) : ∀ n : Nat, part h k n = ((List.range n).map fun (i : Nat) => Sv96.tooth k.toNat (i : Int) * Sv96.tooth k.toNat (h * (i : Int))).sum
  | 0 => rfl
  | n + 1 => by
    rw [List.range_succ, List.map_append, List.sum_append, ← part_spec hk h n]
    simp [part, tooth_spec hk]
theorem ssum_spec {k : Int} (hk : 0 < k) (h : Int) : ssum h k = Sv96.teeth h k.toNat := part_spec hk h k.toNat
theorem six_eq (h k : Int) : PySv96.six h k = Sv96Neutral.on (Sv96.pairOk h k) (Sv96.apart h k.toNat) (fun _ => [0, Sv96.six h k.toNat]) := rfl
theorem six_out {h k : Int} (b : ¬ (-1000000 ≤ h ∧ h ≤ 1000000 ∧ 1 ≤ k ∧ k ≤ 1000000)) : PySv96.six h k = [-2] := by
  have e : Sv96.pairOk h k = false := by
    unfold Sv96.pairOk Sv96.big Sv96.within Sv96.MOST
    simp only [Bool.and_eq_false_iff, decide_eq_false_iff_not]
    omega
  rw [six_eq, e]
  rfl
theorem pair_in {h k : Int} (b : -1000000 ≤ h ∧ h ≤ 1000000 ∧ 1 ≤ k ∧ k ≤ 1000000) : Sv96.pairOk h k = true := by
  unfold Sv96.pairOk Sv96.big Sv96.within Sv96.MOST
  simp only [Bool.and_eq_true, decide_eq_true_eq]
  omega
theorem apart_gd {h k : Int} (hk : 0 < k) : Sv96.apart h k.toNat = decide (gd h k = 1) := by
  have e : k.toNat = k.natAbs := by omega
  unfold Sv96.apart gd
  rw [e]
  by_cases c : Nat.gcd h.natAbs k.natAbs = 1
  · simp [c]
  · have d : ¬ ((Nat.gcd h.natAbs k.natAbs : Nat) : Int) = 1 := by omega
    simp only [d, decide_false]
    simpa using c
theorem six_common {h k : Int} (b : -1000000 ≤ h ∧ h ≤ 1000000 ∧ 1 ≤ k ∧ k ≤ 1000000) (g : ¬ gd h k = 1) : PySv96.six h k = [-3] := by
  rw [six_eq, pair_in b, apart_gd (by omega), decide_eq_false g]
  rfl
theorem six_is {h k : Int} (b : -1000000 ≤ h ∧ h ≤ 1000000 ∧ 1 ≤ k ∧ k ≤ 1000000) (g : gd h k = 1) : PySv96.six h k = [0, Int.fdiv (3 * ssum h k) (2 * k)] := by
  rw [six_eq, pair_in b, apart_gd (by omega), decide_eq_true g]
  show [0, Sv96.six h k.toNat] = _
  have e : ((k.toNat : Nat) : Int) = k := by omega
  unfold Sv96.six
  rw [e, ssum_spec (by omega), Int.fdiv_eq_ediv_of_nonneg _ (show 0 ≤ 2 * k by omega)]
theorem tooth_zero {x k : Int} (e : Int.fmod x k = 0) : 0 = tooth x k := by
  unfold tooth
  rw [if_pos e]
theorem tooth_more {x k : Int} (e : ¬ Int.fmod x k = 0) : 2 * Int.fmod x k - k = tooth x k := by
  unfold tooth
  rw [if_neg e]
theorem ssum_out {h k t : Int} {m : Nat} (e : t = part h k (PySem.W.rangeKs 0 m).length) (hm : m = k.toNat) : t = ssum h k := by
  rw [e, PySem.W.rangeKs_length, hm]
  rfl
open PySem PySem.Calls PyProof.Rows
theorem wide_log {x y : Int} (lo : -1000000000000000 ≤ y) (hi : y ≤ 1000000000000000) (nz : y ≠ 0) : Builtin.divisionGoesByPylong x y = false := by
  refine PyProof.noPylong_of_log2 ?_
  have h0 : y.natAbs ≠ 0 := by omega
  have h30 : y.natAbs.log2 < 50 := (Nat.log2_lt h0).mpr (by omega)
  omega
section
variable {prog : Program} {w : World} {A : Around} {E : Value → Shared → Prop} {s : Shared} {x y z : Int} {t u : Tok} {Q : Value → Shared → Prop}
theorem step_mul (lo : -4000000 ≤ y) (hi : y ≤ 4000000) (h : Q (.int (x * y) s.toks) { s with toks := s.toks + 1 }) :
    wpAny (model prog w) A (binaryOp .Mult (.int x t) (.int y u)) Q E s :=
  PyProof.Rows.mul_int h (PySem.IntMulOk.of_right (PySem.intBits_le_64 (by omega) (by omega)))
theorem step_mul_left (lo : -4000000 ≤ x) (hi : x ≤ 4000000) (h : Q (.int (x * y) s.toks) { s with toks := s.toks + 1 }) :
    wpAny (model prog w) A (binaryOp .Mult (.int x t) (.int y u)) Q E s :=
  PyProof.Rows.mul_int h (PySem.IntMulOk.of_left (PySem.intBits_le_64 (by omega) (by omega)))
theorem prod_small {y z : Int} (a : -1000000 ≤ y ∧ y ≤ 1000000) (b : -1000000 ≤ z ∧ z ≤ 1000000) : -1000000000000 ≤ y * z ∧ y * z ≤ 1000000000000 := by
  have e := Int.natAbs_mul y z
  have f : y.natAbs * z.natAbs ≤ 1000000 * 1000000 := Nat.mul_le_mul (by omega) (by omega)
  omega
theorem step_div2 (y0 : y ≠ 0) (z0 : z ≠ 0) (a : -1000000 ≤ y ∧ y ≤ 1000000) (b : -1000000 ≤ z ∧ z ≤ 1000000) (h : Q (.int (Int.fdiv x (y * z)) s.toks) { s with toks := s.toks + 1 }) :
    wpAny (model prog w) A (binaryOp .FloorDiv (.int x t) (.int (y * z) u)) Q E s :=
  PyProof.Rows.floordiv_int (Int.mul_ne_zero y0 z0) h (Or.inl (wide_log (by have := prod_small a b; omega) (by have := prod_small a b; omega) (Int.mul_ne_zero y0 z0)))
end
end My
local macro_rules | `(tactic| walk_at "binaryOp Mult int int") => `(tactic| (k_here; (with_reducible refine' My.step_mul_left ?k1 ?k2 ?_); (case k1 => k_dflt omega); (case k2 => k_dflt omega)))
local macro_rules | `(tactic| walk_at "binaryOp Mult int int") => `(tactic| (k_here; (with_reducible refine' My.step_mul ?k1 ?k2 ?_); (case k1 => k_dflt omega); (case k2 => k_dflt omega)))
local macro_rules | `(tactic| walk_at "CompSrc") => `(tactic| (k_here; k_dflt (refine LCg.CompSrc.ledger (by rfl) (by k_asm) (by k_asm) (by k_mem) (by first | size_fits | exact Nat.le_of_ble_eq_true rfl) ?_); intro g'; lcg_lit))
theorem said : PySem.Challenge.rw_sawteeth_s01_six.wellSaid = true := by decide +kernel
set_option maxRecDepth 100000 in
set_option maxHeartbeats 8000000 in
theorem PySem.Challenge.cw_sawteeth_s01_six_holds : PySem.Challenge.rw_sawteeth_s01_six.Holds := by
  k_with "call ref" => k_call_by "greatest_divisor" My.gd
  k_with "call ref" => k_call_by "scaled_tooth" My.tooth (fun (_ k : Int) => 0 < k)
  k_with "call ref" => k_call_by "scaled_sum" My.ssum (fun (h k : Int) => -1000000 ≤ h ∧ h ≤ 1000000 ∧ 0 < k ∧ k ≤ 1000000)
  k_with "fact scaled_tooth" => exact My.tooth_in
  k_with "tree" => first
    | exact My.gd_out (by assumption) (by omega) (by omega)
    | exact My.tooth_zero (by first | assumption | omega)
    | exact My.tooth_more (by first | assumption | omega)
    | exact My.ssum_out (by assumption) (by omega)
  k_with "state" => first
    | exact My.gd_start _ _
    | exact My.gd_turn (by assumption) (by omega) (by omega) (by omega)
    | exact My.part_start _ _
    | exact My.part_turn (by assumption) (by assumption)
  k_with "measure" => exact My.gd_less (by omega) (by omega)
  k_with "exec While Compare cons nil" => k_while_given ["x", "y"] (fun x y _ a b => 0 ≤ a ∧ 0 ≤ b ∧ My.gd a b = My.gd x y) (fun _ _ _ _ b => b.toNat) "a" "b"
  k_with "pyIter ref" => k_state_given ["h", "k"] (fun h k pre t => t = My.part h k pre.length) "total"
  open_ks with [.int 1, .int 3]
  all_goals (os_open said with a w q e; obtain ⟨a1, a2, u⟩ := a; have e1 := os_j_int (List.cons.inj e).1; have e2 := os_j_int (List.cons.inj (List.cons.inj e).2).1; clear e w q; subst e1 e2)
  all_goals (show ofPy (PyData.list _) = WData.list (List.map WData.int (PySv96.six _ _)); refine os_list ?_)
  all_goals simp only [decide_eq_true_eq, decide_eq_false_iff_not, bne_iff_ne, ne_eq, bne_eq_false_iff_eq, Bool.and_eq_true, Bool.and_eq_false_iff, Bool.not_eq_true, Bool.not_eq_false] at *
  all_goals first
    | (rw [My.six_out (by omega)]; rfl)
    | (rw [My.six_common (by omega) (by omega)]; rfl)
    | (rw [My.six_is (by omega) (by omega), ← My.ssum_out (by assumption) (by omega)]; rfl)
#print axioms PySem.Challenge.cw_sawteeth_s01_six_holds
