import PyProof.Rows.All
import Wide.All
import OpenK.AllK
import Wide.FinOn
import KE.OsGo
import KE.OsEnd
import KE.OsArgs
import PySem.Challenge.RW_sawteeth_s05_floors
open PySem PySem.W PyProof.Rows
set_option Elab.async false
set_option maxHeartbeats 4000000
namespace Cs
def gd (x y : Int) : Int := ((Nat.gcd x.natAbs y.natAbs : Nat) : Int)
theorem apart_gd {h k : Int} (hk : 0 < k) : Sv96.apart h k.toNat = decide (gd h k = 1) := by
  have e : k.toNat = k.natAbs := by omega
  unfold Sv96.apart gd
  rw [e]
  by_cases c : Nat.gcd h.natAbs k.natAbs = 1
  · simp [c]
  · have d : ¬ ((Nat.gcd h.natAbs k.natAbs : Nat) : Int) = 1 := by omega
    simp only [d, decide_false]
    simpa using c
theorem pair_out {h k : Int} (b : ¬ (-1000000 ≤ h ∧ h ≤ 1000000 ∧ 1 ≤ k ∧ k ≤ 1000000)) : Sv96.pairOk h k = false := by
  unfold Sv96.pairOk Sv96.big Sv96.within Sv96.MOST
  simp only [Bool.and_eq_false_iff, decide_eq_false_iff_not]
  omega
theorem pair_in {h k : Int} (b : -1000000 ≤ h ∧ h ≤ 1000000 ∧ 1 ≤ k ∧ k ≤ 1000000) : Sv96.pairOk h k = true := by
  unfold Sv96.pairOk Sv96.big Sv96.within Sv96.MOST
  simp only [Bool.and_eq_true, decide_eq_true_eq]
  omega
/-! floors -/
theorem floors_eq (a b c n : Int) : PySv96.floors a b c n = Sv96Neutral.on (Sv96.floorOk a b c n) true (fun _ => [0, Sv96.floors a b c n.toNat]) := rfl
theorem floors_out {a b c n : Int} (h : ¬ (-1000000 ≤ a ∧ a ≤ 1000000 ∧ -1000000 ≤ b ∧ b ≤ 1000000 ∧ 1 ≤ c ∧ c ≤ 1000000 ∧ 0 ≤ n ∧ n ≤ 1000000)) : PySv96.floors a b c n = [-2] := by
  have e : Sv96.floorOk a b c n = false := by
    unfold Sv96.floorOk Sv96.big Sv96.within Sv96.MOST
    simp only [Bool.and_eq_false_iff, decide_eq_false_iff_not]
    omega
  rw [floors_eq, e]
  rfl
def fl (a b c : Int) : Nat → Int
  | 0 => 0
  | n + 1 => fl a b c n + Int.fdiv (a * (n : Int) + b) c
theorem fl_spec {c : Int} (hc : 0 < c) (a b : Int) : ∀ n : Nat, fl a b c n = Sv96.floors a b c n
  | 0 => rfl
  | n + 1 => by
    have e := fl_spec hc a b n
    unfold Sv96.floors at *
    rw [List.range_succ, List.map_append, List.sum_append, ← e]
    simp [fl, Int.fdiv_eq_ediv_of_nonneg _ (show 0 ≤ c by omega)]
theorem floors_is {a b c n : Int} (h : -1000000 ≤ a ∧ a ≤ 1000000 ∧ -1000000 ≤ b ∧ b ≤ 1000000 ∧ 1 ≤ c ∧ c ≤ 1000000 ∧ 0 ≤ n ∧ n ≤ 1000000) : PySv96.floors a b c n = [0, fl a b c n.toNat] := by
  have e : Sv96.floorOk a b c n = true := by
    unfold Sv96.floorOk Sv96.big Sv96.within Sv96.MOST
    simp only [Bool.and_eq_true, decide_eq_true_eq]
    omega
  rw [floors_eq, e, fl_spec (by omega)]
  rfl
end Cs
namespace My
theorem fl_start (a b c : Int) : (0 : Int) = Cs.fl a b c ([] : List Int).length := rfl
theorem fl_turn {a b c t i : Int} {pre : List Int} (e : t = Cs.fl a b c pre.length) (ei : i = 0 + (pre.length : Int)) :
    t + Int.fdiv (a * i + b) c = Cs.fl a b c (pre ++ [i]).length := by
  have l : (pre ++ [i]).length = pre.length + 1 := by simp
  have e2 : i = (pre.length : Int) := by omega
  rw [l, e, e2]
  rfl
theorem fl_out {a b c t n : Int} {m : Nat} (e : t = Cs.fl a b c (PySem.W.rangeKs 0 m).length) (hm : m = n.toNat) : Cs.fl a b c n.toNat = t := by
  rw [e, PySem.W.rangeKs_length, hm]
open PySem PySem.Calls PyProof.Rows
theorem wide_log {x y : Int} (lo : -1000000000000000 ≤ y) (hi : y ≤ 1000000000000000) (nz : y ≠ 0) : Builtin.divisionGoesByPylong x y = false := by
  refine PyProof.noPylong_of_log2 ?_
  have h0 : y.natAbs ≠ 0 := by omega
  have h30 : y.natAbs.log2 < 50 := (Nat.log2_lt h0).mpr (by omega)
  omega
section
variable {prog : Program} {w : World} {A : Around} {E : Value → Shared → Prop} {s : Shared} {x y z : Int} {t u : Tok} {Q : Value → Shared → Prop}
theorem step_mul (lo : -4000000 ≤ y) (hi : y ≤ 4000000) (h : Q (.int (x * y) s.toks) { s with toks := s.toks + 1 }) :
    wpAny (model prog w) A (binaryOp .Mult (.int x t) (.int y u)) Q E s :=
  PyProof.Rows.mul_int h (PySem.IntMulOk.of_right (PySem.intBits_le_64 (by omega) (by omega)))
theorem step_mul_left (lo : -4000000 ≤ x) (hi : x ≤ 4000000) (h : Q (.int (x * y) s.toks) { s with toks := s.toks + 1 }) :
    wpAny (model prog w) A (binaryOp .Mult (.int x t) (.int y u)) Q E s :=
  PyProof.Rows.mul_int h (PySem.IntMulOk.of_left (PySem.intBits_le_64 (by omega) (by omega)))
theorem chain_two {pos : Pos} {r r' : Sem Value} {rs : List (Sem Value)} {v : Tok} (e : rs = []) (hr : ∀ Q' : Value → Shared → Prop, Q' (.int y u) s → wpAny (model prog w) A r Q' E s) (hr' : ∀ Q' : Value → Shared → Prop, Q' (.int z v) s → wpAny (model prog w) A r' Q' E s)
    (h : Q (.bool (decide (x ≤ y) && decide (y ≤ z))) s) : wpAny (model prog w) A (compareChain pos (.int x t) [.LtE, .LtE] (r :: r' :: rs)) Q E s := by
  subst e
  refine PyProof.Rows.chain_link (hr _ ?_)
  refine PyProof.Rows.le_int ?_
  refine wpAny_truthy_bool ?_
  by_cases c : x ≤ y
  · rw [decide_eq_true c] at h ⊢
    refine PyProof.Rows.chain_last (hr' _ ?_)
    refine PyProof.Rows.le_int ?_
    rw [Bool.true_and] at h
    exact h
  · rw [decide_eq_false c] at h ⊢
    exact h
theorem prod_small {y z : Int} (a : -1000000 ≤ y ∧ y ≤ 1000000) (b : -1000000 ≤ z ∧ z ≤ 1000000) : -1000000000000 ≤ y * z ∧ y * z ≤ 1000000000000 := by
  have e := Int.natAbs_mul y z
  have f : y.natAbs * z.natAbs ≤ 1000000 * 1000000 := Nat.mul_le_mul (by omega) (by omega)
  omega
theorem step_div2 (y0 : y ≠ 0) (z0 : z ≠ 0) (a : -1000000 ≤ y ∧ y ≤ 1000000) (b : -1000000 ≤ z ∧ z ≤ 1000000) (h : Q (.int (Int.fdiv x (y * z)) s.toks) { s with toks := s.toks + 1 }) :
    wpAny (model prog w) A (binaryOp .FloorDiv (.int x t) (.int (y * z) u)) Q E s :=
  PyProof.Rows.floordiv_int (Int.mul_ne_zero y0 z0) h (Or.inl (wide_log (by have := prod_small a b; omega) (by have := prod_small a b; omega) (Int.mul_ne_zero y0 z0)))
end
end My
local macro_rules | `(tactic| walk_at "binaryOp Mult int int") => `(tactic| (k_here; (with_reducible refine' My.step_mul_left ?k1 ?k2 ?_); (case k1 => k_dflt (first | omega | ((simp only [decide_eq_true_eq, decide_eq_false_iff_not, Bool.and_eq_true, Bool.not_eq_true, Bool.not_eq_false, Bool.not_eq_true', Bool.not_eq_false'] at *); omega))); (case k2 => k_dflt (first | omega | ((simp only [decide_eq_true_eq, decide_eq_false_iff_not, Bool.and_eq_true, Bool.not_eq_true, Bool.not_eq_false, Bool.not_eq_true', Bool.not_eq_false'] at *); omega)))))
local macro_rules | `(tactic| walk_at "binaryOp Mult int int") => `(tactic| (k_here; (with_reducible refine' My.step_mul ?k1 ?k2 ?_); (case k1 => k_dflt (first | omega | ((simp only [decide_eq_true_eq, decide_eq_false_iff_not, Bool.and_eq_true, Bool.not_eq_true, Bool.not_eq_false, Bool.not_eq_true', Bool.not_eq_false'] at *); omega))); (case k2 => k_dflt (first | omega | ((simp only [decide_eq_true_eq, decide_eq_false_iff_not, Bool.and_eq_true, Bool.not_eq_true, Bool.not_eq_false, Bool.not_eq_true', Bool.not_eq_false'] at *); omega)))))
local macro_rules | `(tactic| walk_at "compareChain") => `(tactic| (k_here; (with_reducible refine' My.chain_two ?k0 ?k1 ?k2 ?_); (case k0 => with_unfolding_all rfl); (case k1 => (intro q9 h9; walk_at "eval Name"; exact h9)); (case k2 => (intro q9 h9; walk_at "eval Name"; exact h9))))
local macro_rules | `(tactic| walk_at "CompSrc") => `(tactic| (k_here; k_dflt (refine LCg.CompSrc.ledger (by rfl) (by k_asm) (by k_asm) (by k_mem) (by first | size_fits | exact Nat.le_of_ble_eq_true rfl) ?_); intro g'; lcg_lit))
example : Int → Int → Int → List Int → Int → Prop := fun a b c pre t => t = Cs.fl a b c pre.length
theorem said : PySem.Challenge.rw_sawteeth_s05_floors.wellSaid = true := by decide +kernel
set_option maxRecDepth 100000 in
set_option maxHeartbeats 8000000 in
theorem PySem.Challenge.cw_sawteeth_s05_floors_holds : PySem.Challenge.rw_sawteeth_s05_floors.Holds := by
  k_with "state" => first
    | exact My.fl_start _ _ _
    | exact My.fl_turn (by assumption) (by assumption)
  k_with "pyIter ref" => k_state_given ["a", "b", "c"] (fun a b c pre t => t = Cs.fl a b c pre.length) "total"
  open_ks with [.int 1, .int 1, .int 1, .int 1]
  all_goals (os_open said with a w q e; obtain ⟨a1, a2, a3, a4, u⟩ := a; have e1 := os_j_int (List.cons.inj e).1; have e2 := os_j_int (List.cons.inj (List.cons.inj e).2).1; have e3 := os_j_int (List.cons.inj (List.cons.inj (List.cons.inj e).2).2).1; have e4 := os_j_int (List.cons.inj (List.cons.inj (List.cons.inj (List.cons.inj e).2).2).2).1; clear e w q; subst e1 e2 e3 e4)
  all_goals (show ofPy (PyData.list _) = WData.list (List.map WData.int (PySv96.floors _ _ _ _)); refine os_list ?_)
  all_goals simp only [decide_eq_true_eq, decide_eq_false_iff_not, bne_iff_ne, ne_eq, bne_eq_false_iff_eq, Bool.and_eq_true, Bool.and_eq_false_iff, Bool.not_eq_true, Bool.not_eq_false] at *
  all_goals first
    | (rw [Cs.floors_out (by omega)]; rfl)
    | (rw [Cs.floors_is (by omega), My.fl_out (by assumption) (by omega)]; rfl)
#print axioms PySem.Challenge.cw_sawteeth_s05_floors_holds
