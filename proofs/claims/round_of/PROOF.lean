import PyProof.Rows.All
import Wide.All
import OpenK.AllK
import Wide.FinOn
import KE.OsGo
import KE.OsEnd
import KE.OsArgs
import PySem.Challenge.RW_sawteeth_s04_round_of
open PySem PySem.W PyProof.Rows
set_option Elab.async false
set_option maxHeartbeats 4000000
namespace Rd
def S (f : Nat → Int) (n : Nat) : Int := ((List.range n).map f).sum
theorem S_zero (f : Nat → Int) : S f 0 = 0 := rfl
theorem S_succ (f : Nat → Int) (n : Nat) : S f (n + 1) = S f n + f n := by
  unfold S
  rw [List.range_succ, List.map_append, List.sum_append]
  simp
theorem S_congr {f g : Nat → Int} : ∀ {n : Nat}, (∀ i, i < n → f i = g i) → S f n = S g n
  | 0, _ => rfl
  | n + 1, h => by
    rw [S_succ, S_succ, S_congr (fun i hi => h i (by omega)), h n (by omega)]
theorem S_add (f g : Nat → Int) : ∀ n : Nat, S (fun i => f i + g i) n = S f n + S g n
  | 0 => rfl
  | n + 1 => by
    rw [S_succ, S_succ, S_succ, S_add f g n]
    omega
theorem S_mul (c : Int) (f : Nat → Int) : ∀ n : Nat, S (fun i => c * f i) n = c * S f n
  | 0 => by simp [S]
  | n + 1 => by
    rw [S_succ, S_succ, S_mul c f n, Int.mul_add]
theorem S_dvd {m : Int} {f : Nat → Int} : ∀ {n : Nat}, (∀ i, i < n → m ∣ f i) → m ∣ S f n
  | 0, _ => by rw [S_zero]; exact Int.dvd_zero m
  | n + 1, h => by
    rw [S_succ]
    exact Int.dvd_add (S_dvd (fun i hi => h i (by omega))) (h n (by omega))
theorem S_const (c : Int) : ∀ n : Nat, S (fun _ => c) n = (n : Int) * c
  | 0 => by simp [S]
  | n + 1 => by
    rw [S_succ, S_const c n]
    grind
theorem S_id : ∀ n : Nat, 2 * S (fun i => (i : Int)) n = (n : Int) * ((n : Int) - 1)
  | 0 => by simp [S]
  | n + 1 => by
    have h := S_id n
    rw [S_succ, Int.mul_add, h]
    grind
theorem S_sq : ∀ n : Nat, 6 * S (fun i => (i : Int) * (i : Int)) n = ((n : Int) - 1) * (n : Int) * (2 * (n : Int) - 1)
  | 0 => by simp [S]
  | n + 1 => by
    have h := S_sq n
    rw [S_succ, Int.mul_add, h]
    grind
theorem sum_perm {l m : List Int} (h : l.Perm m) : l.sum = m.sum := by
  induction h with
  | nil => rfl
  | cons x _ ih => rw [List.sum_cons, List.sum_cons, ih]
  | swap x y l =>
    simp only [List.sum_cons]
    omega
  | trans _ _ h1 h2 => rw [h1, h2]
theorem S_perm {f : Nat → Int} {p q : Nat → Nat} {n : Nat} (hp : ∀ i, i < n → p i < n) (hq : ∀ i, i < n → q i < n)
    (pq : ∀ i, i < n → p (q i) = i) (qp : ∀ i, i < n → q (p i) = i) : S (fun i => f (p i)) n = S f n := by
  have e : ((List.range n).map p).Perm (List.range n) := by
    refine (List.perm_ext_iff_of_nodup ?_ List.nodup_range).mpr ?_
    · refine List.Pairwise.map p (fun a b => id) ?_
      refine (List.Pairwise.imp_of_mem ?_ (List.nodup_range (n := n)))
      intro a b ha hb hab e
      have ha' := List.mem_range.mp ha
      have hb' := List.mem_range.mp hb
      exact hab (by rw [← qp a ha', ← qp b hb', e])
    · intro x
      rw [List.mem_map, List.mem_range]
      constructor
      · rintro ⟨a, ha, rfl⟩
        exact hp a (List.mem_range.mp ha)
      · intro hx
        exact ⟨q x, List.mem_range.mpr (hq x hx), pq x hx⟩
  have g := sum_perm (e.map f)
  unfold S
  rw [List.map_map] at g
  exact g
/-- what d times i leaves by k -/
def left (d : Int) (k i : Nat) : Nat := (d * (i : Int) % (k : Int)).toNat
theorem left_cast {d : Int} {k : Nat} (hk : 0 < k) (i : Nat) : ((left d k i : Nat) : Int) = d * (i : Int) % (k : Int) := by
  have h := Int.emod_nonneg (d * (i : Int)) (show (k : Int) ≠ 0 by omega)
  unfold left
  omega
theorem left_lt {d : Int} {k : Nat} (hk : 0 < k) (i : Nat) : left d k i < k := by
  have h := Int.emod_lt_of_pos (d * (i : Int)) (show (0 : Int) < (k : Int) by omega)
  have e := left_cast (d := d) hk i
  omega
theorem left_left {a d m : Int} {k : Nat} (hk : 0 < k) (h : a * d = 1 + (k : Int) * m) {i : Nat} (hi : i < k) : left a k (left d k i) = i := by
  have e := left_cast (d := a) hk (left d k i)
  have e0 := left_cast (d := d) hk i
  rw [e0] at e
  have q := Int.emod_add_mul_ediv (d * (i : Int)) (k : Int)
  have r : a * (d * (i : Int) % (k : Int)) = (i : Int) + (k : Int) * (m * (i : Int) - a * (d * (i : Int) / (k : Int))) := by
    have q2 : d * (i : Int) % (k : Int) = d * (i : Int) - (k : Int) * (d * (i : Int) / (k : Int)) := by omega
    rw [q2]
    grind
  rw [r, Int.add_mul_emod_self_left, Int.emod_eq_of_lt (by omega) (by omega)] at e
  omega
theorem S_left {a d m : Int} {k : Nat} (hk : 0 < k) (h : a * d = 1 + (k : Int) * m) (f : Nat → Int) : S (fun i => f (left d k i)) k = S f k :=
  S_perm (p := left d k) (q := left a k) (fun i _ => left_lt hk i) (fun i _ => left_lt hk i)
    (fun i hi => left_left hk (by rw [Int.mul_comm]; exact h) hi) (fun i hi => left_left hk h hi)
theorem left_pos {a d m : Int} {k : Nat} (hk : 0 < k) (h : a * d = 1 + (k : Int) * m) {i : Nat} (hi : i < k) (i0 : 0 < i) : left d k i ≠ 0 := by
  intro z
  have e := left_left hk h hi
  rw [z] at e
  have : left a k 0 = 0 := by simp [left]
  omega
theorem teeth_S {a d m : Int} {k : Nat} (hk : 0 < k) (h : a * d = 1 + (k : Int) * m) :
    Sv96.teeth d k = S (fun i => (2 * (i : Int) - (k : Int)) * (2 * ((left d k i : Nat) : Int) - (k : Int))) k - (k : Int) * (k : Int) := by
  have key : ∀ n : Nat, 0 < n → n ≤ k → S (fun i => Sv96.tooth k (i : Int) * Sv96.tooth k (d * (i : Int))) n
      = S (fun i => (2 * (i : Int) - (k : Int)) * (2 * ((left d k i : Nat) : Int) - (k : Int))) n - (k : Int) * (k : Int) := by
    intro n
    induction n with
    | zero => intro h0; omega
    | succ n ih =>
      intro _ hn
      rw [S_succ, S_succ]
      by_cases z : n = 0
      · subst z
        have e : left d k 0 = 0 := by simp [left]
        simp [S_zero, e, Sv96.tooth]
        grind
      · rw [ih (by omega) (by omega)]
        have e1 : Sv96.tooth k (n : Int) = 2 * (n : Int) - (k : Int) := by
          unfold Sv96.tooth
          rw [Int.emod_eq_of_lt (by omega) (by omega), if_neg (by omega)]
        have e2 : Sv96.tooth k (d * (n : Int)) = 2 * ((left d k n : Nat) : Int) - (k : Int) := by
          have p := left_pos hk h (i := n) (by omega) (by omega)
          unfold Sv96.tooth
          rw [← left_cast hk, if_neg (by omega)]
        rw [e1, e2]
        omega
  exact key k hk (Nat.le_refl k)
theorem alg1 {K R P W T : Int} (i1 : 2 * R = K * (K - 1)) (ex : W = 4 * P + -2 * K * R + (-2 * K * R + K * (K * K))) (t : T = W - K * K) :
    3 * T = 12 * P - 3 * (K * (K * K)) + 3 * (K * K) := by
  have e : K * (2 * R) = K * (K * (K - 1)) := by rw [i1]
  have e2 : W = 4 * P - 2 * (K * (2 * R)) + K * (K * K) := by grind
  rw [t, e2, e]
  grind
theorem alg2 {d K P Q z : Int} (sq : Q + (-2 * d * P + d * d * Q) = K * K * z) : 12 * d * P = 6 * Q + d * d * (6 * Q) - 6 * (K * K * z) := by
  rw [← sq]
  grind
theorem alg3 {a d K T P : Int} (e3 : 3 * T = 12 * P - 3 * (K * (K * K)) + 3 * (K * K)) :
    d * ((a + d) * K - 3 * T) = (a * d) * K + d * d * K - 12 * d * P + 3 * d * (K * (K * K)) - 3 * d * (K * K) := by
  rw [e3]
  grind
theorem alg4 {d K m z : Int} : (1 + K * m) * K + d * d * K - ((K - 1) * K * (2 * K - 1) + d * d * ((K - 1) * K * (2 * K - 1)) - 6 * (K * K * z)) + 3 * d * (K * (K * K)) - 3 * d * (K * K)
    = K * K * (m + 6 * z + (1 + d * d) * (3 - 2 * K) + d * (3 * K - 3)) := by grind
theorem alg5 {a d K m X y : Int} (h : a * d = 1 + K * m) (dx : d * X = K * K * y) : X = K * K * (m * m * X + (1 - K * m) * (a * y)) := by
  have f1 : a * (d * X) = a * (K * K * y) := by rw [dx]
  have f2 : (1 + K * m) * X = a * (K * K * y) := by rw [← f1, ← h, Int.mul_assoc]
  have f3 : (1 - K * m) * ((1 + K * m) * X) = (1 - K * m) * (a * (K * K * y)) := by rw [f2]
  have f4 : (1 - K * m) * ((1 + K * m) * X) = X - K * K * (m * m * X) := by grind
  have f5 : (1 - K * m) * (a * (K * K * y)) = K * K * ((1 - K * m) * (a * y)) := by grind
  rw [f4, f5] at f3
  rw [Int.mul_add]
  omega
theorem teeth_whole {a d m : Int} {k : Nat} (hk : 0 < k) (h : a * d = 1 + (k : Int) * m) :
    ∃ q : Int, (a + d) * (k : Int) - 3 * Sv96.teeth d k = (k : Int) * (k : Int) * q := by
  have t := teeth_S hk h
  -- the sums
  have s1 := S_left hk h (fun i => (i : Int))
  have s2 := S_left hk h (fun i => (i : Int) * (i : Int))
  have i1 := S_id k
  have i2 := S_sq k
  have ex : S (fun i => (2 * (i : Int) - (k : Int)) * (2 * ((left d k i : Nat) : Int) - (k : Int))) k
      = 4 * S (fun i => (i : Int) * ((left d k i : Nat) : Int)) k + (-2 * (k : Int)) * S (fun i => (i : Int)) k
        + ((-2 * (k : Int)) * S (fun i => ((left d k i : Nat) : Int)) k + (k : Int) * ((k : Int) * (k : Int))) := by
    rw [← S_mul, ← S_mul, ← S_mul, ← S_const ((k : Int) * (k : Int)) k, ← S_add, ← S_add, ← S_add]
    refine S_congr fun i _ => ?_
    grind
  have sq : ∃ z : Int, S (fun i => ((left d k i : Nat) : Int) * ((left d k i : Nat) : Int)) k + ((-2 * d) * S (fun i => (i : Int) * ((left d k i : Nat) : Int)) k
        + (d * d) * S (fun i => (i : Int) * (i : Int)) k) = (k : Int) * (k : Int) * z := by
    rw [← S_mul, ← S_mul, ← S_add, ← S_add]
    refine S_dvd fun i _ => ?_
    refine ⟨(d * (i : Int) / (k : Int)) * (d * (i : Int) / (k : Int)), ?_⟩
    have e := left_cast (d := d) hk i
    have q := Int.emod_add_mul_ediv (d * (i : Int)) (k : Int)
    rw [← e] at q
    have q2 : ((left d k i : Nat) : Int) = d * (i : Int) - (k : Int) * (d * (i : Int) / (k : Int)) := by omega
    rw [q2]
    grind
  obtain ⟨z, sq⟩ := sq
  rw [s2] at sq
  rw [s1] at ex
  generalize S (fun i => (i : Int) * ((left d k i : Nat) : Int)) k = P at *
  generalize S (fun i => (i : Int) * (i : Int)) k = Q at *
  generalize S (fun i => (i : Int)) k = R at *
  generalize S (fun i => (2 * (i : Int) - (k : Int)) * (2 * ((left d k i : Nat) : Int) - (k : Int))) k = W at *
  generalize Sv96.teeth d k = T at *
  generalize (k : Int) = K at *
  -- d X is a multiple of K K
  have dx : ∃ y : Int, d * ((a + d) * K - 3 * T) = K * K * y := by
    refine ⟨m + 6 * z + (1 + d * d) * (3 - 2 * K) + d * (3 * K - 3), ?_⟩
    rw [alg3 (alg1 i1 ex t), alg2 sq, i2, h, alg4]
  obtain ⟨y, dx⟩ := dx
  exact ⟨_, alg5 h dx⟩
end Rd
namespace Cs
def gd (x y : Int) : Int := ((Nat.gcd x.natAbs y.natAbs : Nat) : Int)
theorem apart_gd {h k : Int} (hk : 0 < k) : Sv96.apart h k.toNat = decide (gd h k = 1) := by
  have e : k.toNat = k.natAbs := by omega
  unfold Sv96.apart gd
  rw [e]
  by_cases c : Nat.gcd h.natAbs k.natAbs = 1
  · simp [c]
  · have d : ¬ ((Nat.gcd h.natAbs k.natAbs : Nat) : Int) = 1 := by omega
    simp only [d, decide_false]
    simpa using c
theorem pair_out {h k : Int} (b : ¬ (-1000000 ≤ h ∧ h ≤ 1000000 ∧ 1 ≤ k ∧ k ≤ 1000000)) : Sv96.pairOk h k = false := by
  unfold Sv96.pairOk Sv96.big Sv96.within Sv96.MOST
  simp only [Bool.and_eq_false_iff, decide_eq_false_iff_not]
  omega
theorem pair_in {h k : Int} (b : -1000000 ≤ h ∧ h ≤ 1000000 ∧ 1 ≤ k ∧ k ≤ 1000000) : Sv96.pairOk h k = true := by
  unfold Sv96.pairOk Sv96.big Sv96.within Sv96.MOST
  simp only [Bool.and_eq_true, decide_eq_true_eq]
  omega
/-! round -/
theorem round_eq (a b c d : Int) : PySv96.round_of a b c d = Sv96Neutral.on (Sv96.turnOk a b c d) (Sv96.Turn.good ⟨a, b, c, d⟩) (fun _ => [0, Sv96.Turn.round ⟨a, b, c, d⟩]) := rfl
theorem turn_out {a b c d : Int} (h : ¬ (-1000000 ≤ a ∧ a ≤ 1000000 ∧ -1000000 ≤ b ∧ b ≤ 1000000 ∧ -1000000 ≤ c ∧ c ≤ 1000000 ∧ -1000000 ≤ d ∧ d ≤ 1000000)) : PySv96.round_of a b c d = [-2] := by
  have e : Sv96.turnOk a b c d = false := by
    unfold Sv96.turnOk Sv96.big Sv96.within
    simp only [Bool.and_eq_false_iff, decide_eq_false_iff_not]
    omega
  rw [round_eq, e]
  rfl
theorem turn_in {a b c d : Int} (h : -1000000 ≤ a ∧ a ≤ 1000000 ∧ -1000000 ≤ b ∧ b ≤ 1000000 ∧ -1000000 ≤ c ∧ c ≤ 1000000 ∧ -1000000 ≤ d ∧ d ≤ 1000000) : Sv96.turnOk a b c d = true := by
  unfold Sv96.turnOk Sv96.big Sv96.within
  simp only [Bool.and_eq_true, decide_eq_true_eq]
  omega
theorem turn_bad {a b c d : Int} (h : -1000000 ≤ a ∧ a ≤ 1000000 ∧ -1000000 ≤ b ∧ b ≤ 1000000 ∧ -1000000 ≤ c ∧ c ≤ 1000000 ∧ -1000000 ≤ d ∧ d ≤ 1000000) (g : ¬ a * d - b * c = 1) : PySv96.round_of a b c d = [-3] := by
  have e : Sv96.Turn.good ⟨a, b, c, d⟩ = false := by
    show (a * d - b * c == 1) = false
    simpa using g
  rw [round_eq, turn_in h, e]
  rfl
theorem turn_zero {a b c d : Int} (h : -1000000 ≤ a ∧ a ≤ 1000000 ∧ -1000000 ≤ b ∧ b ≤ 1000000 ∧ -1000000 ≤ c ∧ c ≤ 1000000 ∧ -1000000 ≤ d ∧ d ≤ 1000000) (g : a * d - b * c = 1) (z : c = 0) : PySv96.round_of a b c d = [0, b * d] := by
  have e : Sv96.Turn.good ⟨a, b, c, d⟩ = true := by
    show (a * d - b * c == 1) = true
    simpa using g
  rw [round_eq, turn_in h, e]
  show [0, Sv96.Turn.round ⟨a, b, c, d⟩] = _
  unfold Sv96.Turn.round
  rw [if_pos z]
/-- the turn's inverse by |c|: a d is 1 and a multiple of |c| -/
theorem turn_inv {a b c d : Int} (g : a * d - b * c = 1) : ∃ m : Int, a * d = 1 + (c.natAbs : Int) * m := by
  by_cases p : 0 ≤ c
  · exact ⟨b, by rw [show (c.natAbs : Int) = c by omega, Int.mul_comm c b]; omega⟩
  · refine ⟨-b, ?_⟩
    rw [show (c.natAbs : Int) = -c by omega, Int.neg_mul_neg, Int.mul_comm c b]
    omega
theorem turn_is {a b c d : Int} (h : -1000000 ≤ a ∧ a ≤ 1000000 ∧ -1000000 ≤ b ∧ b ≤ 1000000 ∧ -1000000 ≤ c ∧ c ≤ 1000000 ∧ -1000000 ≤ d ∧ d ≤ 1000000) (g : a * d - b * c = 1) (z : ¬ c = 0) :
    PySv96.round_of a b c d = [0, Sv96.signOf c * (((a + d) * (c.natAbs : Int) - 3 * Sv96.teeth d c.natAbs) / (c * c))] := by
  have e : Sv96.Turn.good ⟨a, b, c, d⟩ = true := by
    show (a * d - b * c == 1) = true
    simpa using g
  rw [round_eq, turn_in h, e]
  show [0, Sv96.Turn.round ⟨a, b, c, d⟩] = _
  unfold Sv96.Turn.round
  rw [if_neg z]
end Cs
namespace Ro
theorem sq_pos {c : Int} (z : ¬ c = 0) : 0 < c * c := by
  by_cases p : 0 < c
  · exact Int.mul_pos p p
  · have q := Int.mul_pos (show 0 < -c by omega) (show 0 < -c by omega)
    rw [Int.neg_mul_neg] at q
    exact q
theorem due_pos {a b c d : Int} (h : -1000000 ≤ a ∧ a ≤ 1000000 ∧ -1000000 ≤ b ∧ b ≤ 1000000 ∧ -1000000 ≤ c ∧ c ≤ 1000000 ∧ -1000000 ≤ d ∧ d ≤ 1000000) (g : a * d - b * c = 1) (p : 0 < c) :
    PySv96.round_of a b c d = [0, Int.fdiv ((a + d) * c - 3 * Sv96.teeth d c.toNat) (c * c)] := by
  have s := sq_pos (show ¬ c = 0 by omega)
  rw [Cs.turn_is h g (by omega), show Sv96.signOf c = 1 by unfold Sv96.signOf; rw [if_neg (by omega), if_pos p], Int.one_mul, Int.fdiv_eq_ediv_of_nonneg _ (show 0 ≤ c * c by omega)]
  rw [show c.natAbs = c.toNat by omega, show ((c.toNat : Nat) : Int) = c by omega]
theorem due_neg {a b c d : Int} (h : -1000000 ≤ a ∧ a ≤ 1000000 ∧ -1000000 ≤ b ∧ b ≤ 1000000 ∧ -1000000 ≤ c ∧ c ≤ 1000000 ∧ -1000000 ≤ d ∧ d ≤ 1000000) (g : a * d - b * c = 1) (p : c < 0) :
    PySv96.round_of a b c d = [0, Int.fdiv ((a + d) * c - -(3 * Sv96.teeth d (-c).toNat)) (c * c)] := by
  have s := sq_pos (show ¬ c = 0 by omega)
  obtain ⟨m, hm⟩ := Cs.turn_inv g
  obtain ⟨q, hq⟩ := Rd.teeth_whole (k := c.natAbs) (by omega) hm
  rw [Cs.turn_is h g (by omega), show Sv96.signOf c = -1 by unfold Sv96.signOf; rw [if_neg (by omega), if_neg (by omega)], Int.fdiv_eq_ediv_of_nonneg _ (show 0 ≤ c * c by omega)]
  have en : ((c.natAbs : Nat) : Int) = -c := by omega
  rw [show (-c).toNat = c.natAbs by omega]
  have e1 : (a + d) * c - -(3 * Sv96.teeth d c.natAbs) = c * c * -q := by
    have e2 : (a + d) * c - -(3 * Sv96.teeth d c.natAbs) = -((a + d) * (c.natAbs : Int) - 3 * Sv96.teeth d c.natAbs) := by
      rw [en, Int.mul_neg]
      omega
    rw [e2, hq, en, Int.neg_mul_neg, Int.mul_neg]
  rw [e1, hq, en, Int.neg_mul_neg, Int.mul_ediv_cancel_left _ (show c * c ≠ 0 by omega), Int.mul_ediv_cancel_left _ (show c * c ≠ 0 by omega)]
  have : -1 * q = -q := by omega
  rw [this]
end Ro
namespace My
def tooth (x k : Int) : Int := if Int.fmod x k = 0 then 0 else 2 * Int.fmod x k - k
def part (h k : Int) : Nat → Int
  | 0 => 0
  | n + 1 => part h k n + tooth (n : Int) k * tooth (h * (n : Int)) k
def ssum (h k : Int) : Int := part h k k.toNat
theorem tooth_in (x k : Int) : k ≤ 0 ∨ (-k ≤ tooth x k ∧ tooth x k ≤ k) := by
  by_cases h : 0 < k
  case neg => exact Or.inl (by omega)
  refine Or.inr ?_
  have q := Int.fmod_lt_of_pos x h
  have p := Int.fmod_nonneg_of_pos x h
  unfold tooth
  split <;> omega
theorem part_start (h k : Int) : (0 : Int) = part h k ([] : List Int).length := rfl
theorem part_turn {h k t i : Int} {pre : List Int} (e : t = part h k pre.length) (ei : i = 0 + (pre.length : Int)) :
    t + tooth i k * tooth (h * i) k = part h k (pre ++ [i]).length := by
  have l : (pre ++ [i]).length = pre.length + 1 := by simp
  have e2 : i = (pre.length : Int) := by omega
  rw [l, e, e2]
  rfl
theorem tooth_spec {k : Int} (h : 0 < k) (x : Int) : tooth x k = Sv96.tooth k.toNat x := by
  have e : ((k.toNat : Nat) : Int) = k := by omega
  unfold tooth Sv96.tooth
  rw [e, Int.fmod_eq_emod_of_nonneg x (show 0 ≤ k by omega)]
theorem part_spec {k : Int} (hk : 0 < k) (h : Int) : ∀ n : Nat, part h k n = ((List.range n).map fun (i : Nat) => Sv96.tooth k.toNat (i : Int) * Sv96.tooth k.toNat (h * (i : Int))).sum
  | 0 => rfl
  | n + 1 => by
    rw [List.range_succ, List.map_append, List.sum_append, ← part_spec hk h n]
    simp [part, tooth_spec hk]
theorem ssum_spec {k : Int} (hk : 0 < k) (h : Int) : ssum h k = Sv96.teeth h k.toNat := part_spec hk h k.toNat
theorem tooth_zero {x k : Int} (e : Int.fmod x k = 0) : 0 = tooth x k := by
  unfold tooth
  rw [if_pos e]
theorem tooth_more {x k : Int} (e : ¬ Int.fmod x k = 0) : 2 * Int.fmod x k - k = tooth x k := by
  unfold tooth
  rw [if_neg e]
theorem ssum_out {h k t : Int} {m : Nat} (e : t = part h k (PySem.W.rangeKs 0 m).length) (hm : m = k.toNat) : t = ssum h k := by
  rw [e, PySem.W.rangeKs_length, hm]
  rfl
theorem round_pos {a b c d t : Int} {m : Nat} (e : t = part d (if c < 0 then -c else c) (PySem.W.rangeKs 0 m).length) (hm : m = (if c < 0 then -c else c).toNat) (h : -1000000 ≤ a ∧ a ≤ 1000000 ∧ -1000000 ≤ b ∧ b ≤ 1000000 ∧ -1000000 ≤ c ∧ c ≤ 1000000 ∧ -1000000 ≤ d ∧ d ≤ 1000000) (g : a * d - b * c = 1) (p : 0 < c) :
    PySv96.round_of a b c d = [0, Int.fdiv ((a + d) * c - 3 * t) (c * c)] := by
  rw [Ro.due_pos h g p, ssum_out e hm, if_neg (by omega), ssum_spec p]
theorem round_neg {a b c d t : Int} {m : Nat} (e : t = part d (if c < 0 then -c else c) (PySem.W.rangeKs 0 m).length) (hm : m = (if c < 0 then -c else c).toNat) (h : -1000000 ≤ a ∧ a ≤ 1000000 ∧ -1000000 ≤ b ∧ b ≤ 1000000 ∧ -1000000 ≤ c ∧ c ≤ 1000000 ∧ -1000000 ≤ d ∧ d ≤ 1000000) (g : a * d - b * c = 1) (p : c < 0) :
    PySv96.round_of a b c d = [0, Int.fdiv ((a + d) * c - -(3 * t)) (c * c)] := by
  rw [Ro.due_neg h g p, ssum_out e hm, if_pos p, ssum_spec (by omega)]
open PySem PySem.Calls PyProof.Rows
theorem wide_log {x y : Int} (lo : -1000000000000000 ≤ y) (hi : y ≤ 1000000000000000) (nz : y ≠ 0) : Builtin.divisionGoesByPylong x y = false := by
  refine PyProof.noPylong_of_log2 ?_
  have h0 : y.natAbs ≠ 0 := by omega
  have h30 : y.natAbs.log2 < 50 := (Nat.log2_lt h0).mpr (by omega)
  omega
section
variable {prog : Program} {w : World} {A : Around} {E : Value → Shared → Prop} {s : Shared} {x y z : Int} {t u : Tok} {Q : Value → Shared → Prop}
theorem step_mul (lo : -4000000 ≤ y) (hi : y ≤ 4000000) (h : Q (.int (x * y) s.toks) { s with toks := s.toks + 1 }) :
    wpAny (model prog w) A (binaryOp .Mult (.int x t) (.int y u)) Q E s :=
  PyProof.Rows.mul_int h (PySem.IntMulOk.of_right (PySem.intBits_le_64 (by omega) (by omega)))
theorem step_mul_left (lo : -4000000 ≤ x) (hi : x ≤ 4000000) (h : Q (.int (x * y) s.toks) { s with toks := s.toks + 1 }) :
    wpAny (model prog w) A (binaryOp .Mult (.int x t) (.int y u)) Q E s :=
  PyProof.Rows.mul_int h (PySem.IntMulOk.of_left (PySem.intBits_le_64 (by omega) (by omega)))
theorem chain_two {pos : Pos} {r r' : Sem Value} {v : Tok} (hr : ∀ Q' : Value → Shared → Prop, Q' (.int y u) s → wpAny (model prog w) A r Q' E s) (hr' : ∀ Q' : Value → Shared → Prop, Q' (.int z v) s → wpAny (model prog w) A r' Q' E s)
    (h : Q (.bool (decide (x ≤ y) && decide (y ≤ z))) s) : wpAny (model prog w) A (compareChain pos (.int x t) [.LtE, .LtE] [r, r']) Q E s := by
  refine PyProof.Rows.chain_link (hr _ ?_)
  refine PyProof.Rows.le_int ?_
  refine wpAny_truthy_bool ?_
  by_cases c : x ≤ y
  · rw [decide_eq_true c] at h ⊢
    refine PyProof.Rows.chain_last (hr' _ ?_)
    refine PyProof.Rows.le_int ?_
    rw [Bool.true_and] at h
    exact h
  · rw [decide_eq_false c] at h ⊢
    exact h
theorem prod_small {y z : Int} (a : -1000000 ≤ y ∧ y ≤ 1000000) (b : -1000000 ≤ z ∧ z ≤ 1000000) : -1000000000000 ≤ y * z ∧ y * z ≤ 1000000000000 := by
  have e := Int.natAbs_mul y z
  have f : y.natAbs * z.natAbs ≤ 1000000 * 1000000 := Nat.mul_le_mul (by omega) (by omega)
  omega
theorem step_div2 (y0 : y ≠ 0) (z0 : z ≠ 0) (a : -1000000 ≤ y ∧ y ≤ 1000000) (b : -1000000 ≤ z ∧ z ≤ 1000000) (h : Q (.int (Int.fdiv x (y * z)) s.toks) { s with toks := s.toks + 1 }) :
    wpAny (model prog w) A (binaryOp .FloorDiv (.int x t) (.int (y * z) u)) Q E s :=
  PyProof.Rows.floordiv_int (Int.mul_ne_zero y0 z0) h (Or.inl (wide_log (by have := prod_small a b; omega) (by have := prod_small a b; omega) (Int.mul_ne_zero y0 z0)))
end
end My
local macro_rules | `(tactic| walk_at "binaryOp Mult int int") => `(tactic| (k_here; (with_reducible refine' My.step_mul_left ?k1 ?k2 ?_); (case k1 => k_dflt (first | omega | ((simp only [decide_eq_true_eq, decide_eq_false_iff_not, Bool.and_eq_true, Bool.not_eq_true, Bool.not_eq_false, Bool.not_eq_true', Bool.not_eq_false'] at *); omega))); (case k2 => k_dflt (first | omega | ((simp only [decide_eq_true_eq, decide_eq_false_iff_not, Bool.and_eq_true, Bool.not_eq_true, Bool.not_eq_false, Bool.not_eq_true', Bool.not_eq_false'] at *); omega)))))
local macro_rules | `(tactic| walk_at "binaryOp Mult int int") => `(tactic| (k_here; (with_reducible refine' My.step_mul ?k1 ?k2 ?_); (case k1 => k_dflt (first | omega | ((simp only [decide_eq_true_eq, decide_eq_false_iff_not, Bool.and_eq_true, Bool.not_eq_true, Bool.not_eq_false, Bool.not_eq_true', Bool.not_eq_false'] at *); omega))); (case k2 => k_dflt (first | omega | ((simp only [decide_eq_true_eq, decide_eq_false_iff_not, Bool.and_eq_true, Bool.not_eq_true, Bool.not_eq_false, Bool.not_eq_true', Bool.not_eq_false'] at *); omega)))))
local macro_rules | `(tactic| walk_at "compareChain") => `(tactic| (k_here; (with_reducible refine' My.chain_two ?k1 ?k2 ?_); (case k1 => (intro q9 h9; walk_at "eval Name"; exact h9)); (case k2 => (intro q9 h9; walk_at "eval Name"; exact h9))))
local macro_rules | `(tactic| walk_at "CompSrc") => `(tactic| (k_here; k_dflt (refine LCg.CompSrc.ledger (by rfl) (by k_asm) (by k_asm) (by k_mem) (by first | size_fits | exact Nat.le_of_ble_eq_true rfl) ?_); intro g'; lcg_lit))
local macro_rules | `(tactic| walk_at "binaryOp FloorDiv int int") => `(tactic| (k_here; (with_reducible refine' My.step_div2 ?k1 ?k2 ?k3 ?k4 ?_); (case k1 => k_dflt (first | omega | ((simp only [decide_eq_true_eq, decide_eq_false_iff_not, Bool.and_eq_true, Bool.not_eq_true, Bool.not_eq_false, Bool.not_eq_true', Bool.not_eq_false'] at *); omega))); (case k2 => k_dflt (first | omega | ((simp only [decide_eq_true_eq, decide_eq_false_iff_not, Bool.and_eq_true, Bool.not_eq_true, Bool.not_eq_false, Bool.not_eq_true', Bool.not_eq_false'] at *); omega))); (case k3 => k_dflt (first | omega | ((simp only [decide_eq_true_eq, decide_eq_false_iff_not, Bool.and_eq_true, Bool.not_eq_true, Bool.not_eq_false, Bool.not_eq_true', Bool.not_eq_false'] at *); omega))); (case k4 => k_dflt (first | omega | ((simp only [decide_eq_true_eq, decide_eq_false_iff_not, Bool.and_eq_true, Bool.not_eq_true, Bool.not_eq_false, Bool.not_eq_true', Bool.not_eq_false'] at *); omega)))))
theorem said : PySem.Challenge.rw_sawteeth_s04_round_of.wellSaid = true := by decide +kernel
set_option maxRecDepth 100000 in
set_option maxHeartbeats 8000000 in
theorem PySem.Challenge.cw_sawteeth_s04_round_of_holds : PySem.Challenge.rw_sawteeth_s04_round_of.Holds := by
  k_with "call ref" => k_call_by "scaled_tooth" My.tooth (fun (_ k : Int) => 0 < k)
  k_with "call ref" => k_call_by "scaled_sum" My.ssum (fun (h k : Int) => -1000000 ≤ h ∧ h ≤ 1000000 ∧ 0 < k ∧ k ≤ 1000000)
  k_with "fact scaled_tooth" => exact My.tooth_in
  k_with "tree" => first
    | exact My.tooth_zero (by first | assumption | omega)
    | exact My.tooth_more (by first | assumption | omega)
    | exact My.ssum_out (by assumption) (by omega)
  k_with "state" => first
    | exact My.part_start _ _
    | exact My.part_turn (by assumption) (by assumption)
  k_with "pyIter ref" => k_state_given ["h", "k"] (fun h k pre t => t = My.part h k pre.length) "total"
  open_ks with [.int 1, .int 0, .int 0, .int 1]
  all_goals (os_open said with a w q e; obtain ⟨a1, a2, a3, a4, u⟩ := a; have e1 := os_j_int (List.cons.inj e).1; have e2 := os_j_int (List.cons.inj (List.cons.inj e).2).1; have e3 := os_j_int (List.cons.inj (List.cons.inj (List.cons.inj e).2).2).1; have e4 := os_j_int (List.cons.inj (List.cons.inj (List.cons.inj (List.cons.inj e).2).2).2).1; clear e w q; subst e1 e2 e3 e4)
  all_goals (show ofPy (PyData.list _) = WData.list (List.map WData.int (PySv96.round_of _ _ _ _)); refine os_list ?_)
  all_goals simp only [decide_eq_true_eq, decide_eq_false_iff_not, bne_iff_ne, ne_eq, bne_eq_false_iff_eq, Bool.and_eq_true, Bool.and_eq_false_iff, Bool.not_eq_true, Bool.not_eq_false] at *
  all_goals first
    | (rw [Cs.turn_out (by omega)]; rfl)
    | (rw [Cs.turn_bad (by omega) (by omega)]; rfl)
    | (rw [Cs.turn_zero (by omega) (by omega) (by omega)]; rfl)
    | (rw [My.round_pos (by assumption) (by omega) (by omega) (by omega) (by omega)]; rfl)
    | (rw [My.round_neg (by assumption) (by omega) (by omega) (by omega) (by omega)]; rfl)
#print axioms PySem.Challenge.cw_sawteeth_s04_round_of_holds
