import PyProof.Rows.All
import Wide.All
import OpenK.AllK
import Wide.FinOn
import KE.OsGo
import KE.OsEnd
import KE.OsArgs
import PySem.Challenge.RW_sawteeth_s02_sign
open PySem PySem.W PyProof.Rows
set_option Elab.async false
set_option maxHeartbeats 4000000
namespace Cs
def gd (x y : Int) : Int := ((Nat.gcd x.natAbs y.natAbs : Nat) : Int)
theorem apart_gd {h k : Int} (hk : 0 < k) : Sv96.apart h k.toNat = decide (gd h k = 1) := by
  have e : k.toNat = k.natAbs := by omega
  unfold Sv96.apart gd
  rw [e]
  by_cases c : Nat.gcd h.natAbs k.natAbs = 1
  · simp [c]
  · have d : ¬ ((Nat.gcd h.natAbs k.natAbs : Nat) : Int) = 1 := by omega
    simp only [d, decide_false]
    simpa using c
theorem pair_out {h k : Int} (b : ¬ (-1000000 ≤ h ∧ h ≤ 1000000 ∧ 1 ≤ k ∧ k ≤ 1000000)) : Sv96.pairOk h k = false := by
  unfold Sv96.pairOk Sv96.big Sv96.within Sv96.MOST
  simp only [Bool.and_eq_false_iff, decide_eq_false_iff_not]
  omega
theorem pair_in {h k : Int} (b : -1000000 ≤ h ∧ h ≤ 1000000 ∧ 1 ≤ k ∧ k ≤ 1000000) : Sv96.pairOk h k = true := by
  unfold Sv96.pairOk Sv96.big Sv96.within Sv96.MOST
  simp only [Bool.and_eq_true, decide_eq_true_eq]
  omega
/-! sign -/
theorem sign_eq (h n : Int) : PySv96.sign h n = Sv96Neutral.on (Sv96.pairOk h n) (Sv96.apart h n.toNat) (fun _ => [if Sv96.sign (Sv96.order h n.toNat) = 1 then 1 else 0]) := rfl
theorem sign_out {h n : Int} (b : ¬ (-1000000 ≤ h ∧ h ≤ 1000000 ∧ 1 ≤ n ∧ n ≤ 1000000)) : PySv96.sign h n = [-2] := by
  rw [sign_eq, pair_out b]
  rfl
theorem sign_common {h n : Int} (b : -1000000 ≤ h ∧ h ≤ 1000000 ∧ 1 ≤ n ∧ n ≤ 1000000) (g : ¬ gd h n = 1) : PySv96.sign h n = [-3] := by
  rw [sign_eq, pair_in b, apart_gd (by omega), decide_eq_false g]
  rfl
theorem sign_is {h n : Int} (b : -1000000 ≤ h ∧ h ≤ 1000000 ∧ 1 ≤ n ∧ n ≤ 1000000) (g : gd h n = 1) :
    PySv96.sign h n = [if Sv96.wrongs (Sv96.order h n.toNat) % 2 = 0 then 1 else 0] := by
  rw [sign_eq, pair_in b, apart_gd (by omega), decide_eq_true g]
  show [if Sv96.sign (Sv96.order h n.toNat) = 1 then (1 : Int) else 0] = _
  unfold Sv96.sign
  by_cases c : Sv96.wrongs (Sv96.order h n.toNat) % 2 = 0
  · simp [c]
  · simp [c]
end Cs
namespace Sg
/-- how many of l are below x -/
def below (x : Int) (l : List Int) : Nat := (l.filter fun y => decide (y < x)).length
/-- how many pairs stand the greater one first -/
def inv : List Int → Nat
  | [] => 0
  | x :: l => below x l + inv l
theorem below_cons (x y : Int) (l : List Int) : below x (y :: l) = (if y < x then 1 else 0) + below x l := by
  unfold below
  rw [List.filter_cons]
  by_cases h : y < x
  · simp [h]; omega
  · simp [h]
theorem below_append (x : Int) (l m : List Int) : below x (l ++ m) = below x l + below x m := by
  unfold below
  rw [List.filter_append, List.length_append]
theorem below_perm (x : Int) {l m : List Int} (h : l.Perm m) : below x l = below x m := by
  unfold below
  exact (h.filter _).length_eq
/-- two lists of the same numbers behind the same head part -/
theorem inv_head (l : List Int) {m r : List Int} (h : m.Perm r) {k : Nat} (e : (inv m + inv r) % 2 = k % 2) : (inv (l ++ m) + inv (l ++ r)) % 2 = k % 2 := by
  induction l with
  | nil => exact e
  | cons x l ih =>
    have p := below_perm x (h.append_left l)
    show (below x (l ++ m) + inv (l ++ m) + (below x (l ++ r) + inv (l ++ r))) % 2 = k % 2
    omega
/-- x goes by all of m -/
theorem inv_by {x : Int} : ∀ {m : List Int} (_ : x ∉ m) (l : List Int), (inv (x :: (m ++ l)) + inv (m ++ x :: l)) % 2 = m.length % 2
  | [], _, l => by
    show (inv (x :: l) + inv (x :: l)) % 2 = 0 % 2
    omega
  | y :: m, h, l => by
    have hx : ¬ x = y := fun e => h (e ▸ List.mem_cons_self)
    have ih := inv_by (m := m) (fun q => h (List.mem_cons_of_mem _ q)) l
    have e1 : inv (x :: (y :: m ++ l)) = below x (y :: (m ++ l)) + (below y (m ++ l) + inv (m ++ l)) := rfl
    have e2 : inv (y :: m ++ x :: l) = below y (m ++ x :: l) + inv (m ++ x :: l) := rfl
    have e3 : inv (x :: (m ++ l)) = below x (m ++ l) + inv (m ++ l) := rfl
    have e4 := below_cons x y (m ++ l)
    have e5 : below y (m ++ x :: l) = below y m + ((if x < y then 1 else 0) + below y l) := by rw [below_append, below_cons]
    have e6 := below_append y m l
    have e7 : (y :: m).length = m.length + 1 := rfl
    by_cases c : y < x
    · rw [if_pos c] at e4
      rw [if_neg (show ¬ x < y by omega)] at e5
      omega
    · rw [if_neg c] at e4
      rw [if_pos (show x < y by omega)] at e5
      omega
/-- two places change their numbers: an odd change -/
theorem inv_swap {x y : Int} (xy : x ≠ y) (l m r : List Int) (hx : x ∉ m) (hy : y ∉ m) :
    (inv (l ++ x :: (m ++ y :: r)) + inv (l ++ y :: (m ++ x :: r))) % 2 = 1 := by
  have p : (x :: (m ++ y :: r)).Perm (y :: (m ++ x :: r)) := by
    refine (List.Perm.cons x List.perm_middle).trans ?_
    refine (List.Perm.swap y x (m ++ r)).trans ?_
    exact List.Perm.cons y List.perm_middle.symm
  refine inv_head l p (k := 1) ?_
  have a1 := inv_by (x := x) (m := m ++ [y]) (by simp [hx, xy]) r
  have a2 := inv_by (x := y) (m := m) hy (x :: r)
  have l1 : (m ++ [y]).length = m.length + 1 := by simp
  rw [l1] at a1
  have b1 : (m ++ [y]) ++ r = m ++ y :: r := by simp
  have b2 : (m ++ [y]) ++ x :: r = m ++ y :: x :: r := by simp
  rw [b1, b2] at a1
  omega
/-- how many stand not at their own place -/
def off : Int → List Int → Nat
  | _, [] => 0
  | o, x :: l => (if x = o then 0 else 1) + off (o + 1) l
theorem off_append : ∀ (l m : List Int) (o : Int), off o (l ++ m) = off o l + off (o + (l.length : Int)) m
  | [], m, o => by simp [off]
  | x :: l, m, o => by
    show (if x = o then 0 else 1) + off (o + 1) (l ++ m) = (if x = o then 0 else 1) + off (o + 1) l + _
    rw [off_append l m (o + 1)]
    have e : o + 1 + (l.length : Int) = o + ((x :: l).length : Int) := by
      rw [List.length_cons]
      omega
    rw [e]
    omega
/-- a list whose items stand at their own places -/
theorem inv_own : ∀ (l : List Int) (o : Int) (_ : ∀ k : Nat, k < l.length → l.getD k 0 = o + (k : Int)), inv l = 0 ∧ ∀ y ∈ l, o ≤ y
  | [], _, _ => ⟨rfl, fun y h => absurd h List.not_mem_nil⟩
  | x :: l, o, h => by
    have h0 := h 0 (by simp)
    have ih := inv_own l (o + 1) (fun k hk => by
      have q := h (k + 1) (by rw [List.length_cons]; omega)
      rw [List.getD_cons_succ] at q
      omega)
    have x0 : x = o := by
      rw [List.getD_cons_zero] at h0
      omega
    constructor
    · show below x l + inv l = 0
      rw [ih.1]
      have : below x l = 0 := by
        unfold below
        rw [List.length_eq_zero_iff, List.filter_eq_nil_iff]
        intro y hy
        have := ih.2 y hy
        simp
        omega
      omega
    · intro y hy
      rcases List.mem_cons.mp hy with e | e
      · omega
      · have := ih.2 y e
        omega
theorem get_app (a : List Int) (x : Int) (r : List Int) : (a ++ x :: r).getD a.length 0 = x := by
  simp [List.getD_eq_getElem?_getD]
theorem one : ∀ (l : List Int) {i : Nat} (_ : i < l.length), ∃ a r : List Int, l = a ++ l.getD i 0 :: r ∧ a.length = i
  | x :: l, 0, _ => ⟨[], l, by simp, rfl⟩
  | x :: l, i + 1, h => by
    obtain ⟨a, r, e, f⟩ := one l (i := i) (by rw [List.length_cons] at h; omega)
    refine ⟨x :: a, r, ?_, by rw [List.length_cons, f]⟩
    rw [List.getD_cons_succ, List.cons_append, ← e]
theorem set_app (a : List Int) (x u : Int) (r : List Int) : (a ++ x :: r).set a.length u = a ++ u :: r := by
  rw [List.set_append_right _ _ (Nat.le_refl _)]
  simp
/-- the list with the places i and j changed, i ahead of j -/
theorem two (l : List Int) {i j : Nat} (ij : i < j) (hj : j < l.length) :
    ∃ a m r : List Int, l = a ++ l.getD i 0 :: (m ++ l.getD j 0 :: r) ∧ a.length = i ∧ j = i + 1 + m.length
      ∧ ∀ u v : Int, (l.set i u).set j v = a ++ u :: (m ++ v :: r) := by
  obtain ⟨a, t, e, f⟩ := one l (i := i) (by omega)
  have lt : l.length = a.length + 1 + t.length := by
    have q := congrArg List.length e
    rw [List.length_append, List.length_cons] at q
    omega
  obtain ⟨m, r, e2, f2⟩ := one t (i := j - i - 1) (by omega)
  generalize l.getD i 0 = x at *
  generalize t.getD (j - i - 1) 0 = y at *
  subst e2 e
  have hjm : j = (a ++ x :: m).length := by
    rw [List.length_append, List.length_cons]
    omega
  have gy : (a ++ x :: (m ++ y :: r)).getD j 0 = y := by
    have q := get_app (a ++ x :: m) y r
    rw [← hjm, List.append_assoc, List.cons_append] at q
    exact q
  refine ⟨a, m, r, by rw [gy], f, by omega, ?_⟩
  intro u v
  rw [← f, set_app, hjm]
  have q := set_app (a ++ u :: m) y v r
  rw [List.append_assoc, List.cons_append, List.append_assoc, List.cons_append] at q
  rw [← q]
  simp
/-- all different, from 0 on and below n -/
structure Fit (l : List Int) (n : Int) : Prop where
  len : (l.length : Int) = n
  one : l.Nodup
  low : ∀ x ∈ l, 0 ≤ x ∧ x < n
theorem get_mem {l : List Int} {i : Nat} (h : i < l.length) : l.getD i 0 ∈ l := by
  rw [List.getD_eq_getElem?_getD, List.getElem?_eq_getElem h]
  exact List.getElem_mem h
theorem get_ne {l : List Int} (nd : l.Nodup) {i j : Nat} (hi : i < l.length) (hj : j < l.length) (ij : i ≠ j) : l.getD i 0 ≠ l.getD j 0 := by
  rw [List.getD_eq_getElem?_getD, List.getD_eq_getElem?_getD, List.getElem?_eq_getElem hi, List.getElem?_eq_getElem hj]
  have q := List.pairwise_iff_getElem.mp nd
  rcases Nat.lt_or_gt_of_ne ij with c | c
  · exact q i j hi hj c
  · exact fun e => q j i hj hi c e.symm
/-- the state between two turns: so many stand at their place -/
structure Held (row : List Int) (n : Int) (i : Nat) (l : List Int) (s : Int) : Prop where
  fit : Fit l n
  pos : 0 ≤ s
  par : (s.toNat + inv l) % 2 = inv row % 2
  own : ∀ k : Nat, k < i → l.getD k 0 = (k : Int)
/-- the number at the first place that is not yet right -/
theorem held_at {row : List Int} {n : Int} {i : Nat} {l : List Int} {s : Int} (h : Held row n i l s) (hi : (i : Int) < n) :
    (i : Int) ≤ l.getD i 0 ∧ l.getD i 0 < n := by
  have hl := h.fit.len
  have q := h.fit.low _ (get_mem (l := l) (i := i) (by omega))
  refine ⟨?_, q.2⟩
  by_cases c : (i : Int) ≤ l.getD i 0
  · exact c
  · exfalso
    have e := h.own (l.getD i 0).toNat (by omega)
    have d := get_ne h.fit.one (i := (l.getD i 0).toNat) (j := i) (by omega) (by omega) (by omega)
    apply d
    rw [e]
    omega
/-- a swap -/
theorem held_swap {row : List Int} {n : Int} {i : Nat} {l : List Int} {s : Int} (h : Held row n i l s) (hi : (i : Int) < n) (ne : ¬ l.getD i 0 = (i : Int)) :
    Held row n i ((l.set i (l.getD (l.getD i 0).toNat 0)).set (l.getD i 0).toNat (l.getD i 0)) (s + 1)
    ∧ off 0 ((l.set i (l.getD (l.getD i 0).toNat 0)).set (l.getD i 0).toNat (l.getD i 0)) < off 0 l := by
  have hl := h.fit.len
  have b := held_at h hi
  have hj : (l.getD i 0).toNat < l.length := by omega
  have d := get_ne h.fit.one (i := i) (j := (l.getD i 0).toNat) (by omega) hj (by omega)
  obtain ⟨a, m, r, e, f1, f2, f3⟩ := two l (i := i) (j := (l.getD i 0).toNat) (by omega) hj
  rw [f3]
  have ex : ((l.getD i 0).toNat : Int) = l.getD i 0 := by omega
  have own := h.own
  have nd := h.fit.one
  have low := h.fit.low
  have par := h.par
  have pos := h.pos
  generalize l.getD (l.getD i 0).toNat 0 = y at *
  generalize hx : l.getD i 0 = x at *
  clear hx
  have hin : ∀ k, k < i → l.getD k 0 = (a ++ y :: (m ++ x :: r)).getD k 0 := by
    intro k hk
    rw [e, List.getD_eq_getElem?_getD, List.getD_eq_getElem?_getD, List.getElem?_append_left (by omega), List.getElem?_append_left (by omega)]
  have p : (a ++ x :: (m ++ y :: r)).Perm (a ++ y :: (m ++ x :: r)) := by
    refine List.Perm.append_left a ?_
    refine (List.Perm.cons x List.perm_middle).trans ?_
    refine (List.Perm.swap y x (m ++ r)).trans ?_
    exact List.Perm.cons y List.perm_middle.symm
  have hxm : x ∉ m := by
    intro q
    rw [e] at nd
    have n2 := (List.nodup_append.mp nd).2.1
    rw [List.nodup_cons] at n2
    exact n2.1 (List.mem_append_left _ q)
  have hym : y ∉ m := by
    intro q
    rw [e] at nd
    have n2 := (List.nodup_append.mp nd).2.1
    rw [List.nodup_cons] at n2
    have n3 := (List.nodup_append.mp n2.2).2.2 y q y List.mem_cons_self
    exact n3 rfl
  have sw := inv_swap d a m r hxm hym
  refine ⟨⟨⟨?_, ?_, ?_⟩, by omega, ?_, ?_⟩, ?_⟩
  · rw [← p.length_eq, ← e]
    exact hl
  · rw [← p.nodup_iff, ← e]
    exact nd
  · intro z hz
    rw [← p.mem_iff, ← e] at hz
    exact low z hz
  · rw [e] at par
    omega
  · intro k hk
    rw [← hin k hk]
    exact own k hk
  · have o1 : off 0 l = off 0 (a ++ x :: (m ++ y :: r)) := by rw [← e]
    rw [o1, off_append, off_append]
    have o2 : ∀ u v : Int, ∀ o : Int, off o (u :: (m ++ v :: r)) = (if u = o then 0 else 1) + (off (o + 1) m + ((if v = o + 1 + (m.length : Int) then 0 else 1) + off (o + 1 + (m.length : Int) + 1) r)) := by
      intro u v o
      show (if u = o then 0 else 1) + off (o + 1) (m ++ v :: r) = _
      rw [off_append]
      rfl
    rw [o2, o2]
    rw [if_neg (show ¬ x = 0 + (a.length : Int) by omega), if_neg (show ¬ y = 0 + (a.length : Int) + 1 + (m.length : Int) by omega), if_pos (show x = 0 + (a.length : Int) + 1 + (m.length : Int) by omega)]
    split <;> omega
theorem held_start {row : List Int} {n : Int} (h : Fit row n) : Held row n 0 row 0 :=
  ⟨h, by omega, by simp, fun k hk => by omega⟩
theorem held_next {row : List Int} {n : Int} {i : Nat} {l : List Int} {s : Int} (h : Held row n i l s) (e : l.getD i 0 = (i : Int)) : Held row n (i + 1) l s := by
  refine ⟨h.fit, h.pos, h.par, ?_⟩
  intro k hk
  by_cases c : k = i
  · rw [c, e]
  · exact h.own k (by omega)
theorem held_out {row : List Int} {n : Int} {l : List Int} {s : Int} (h : Held row n n.toNat l s) (n0 : 0 ≤ n) : s.toNat % 2 = inv row % 2 := by
  have hl := h.fit.len
  have q := (inv_own l 0 (fun k hk => by
    have := h.own k (by omega)
    omega)).1
  have := h.par
  omega
/-- the row of sign -/
def row (h n : Int) : List Int := (List.range n.toNat).map fun (i : Nat) => Int.fmod (h * (i : Int)) n
theorem wrongs_inv (l : List Nat) : Sv96.wrongs l = inv (l.map fun (x : Nat) => (x : Int)) := by
  induction l with
  | nil => rfl
  | cons x l ih =>
    show _ = below (x : Int) (l.map fun (x : Nat) => (x : Int)) + inv (l.map fun (x : Nat) => (x : Int))
    rw [← ih]
    unfold Sv96.wrongs
    rw [List.length_cons, List.range_succ_eq_map, List.map_cons, List.sum_cons, List.map_map]
    have e : (l.filter fun y => decide (y < x)).length = below (x : Int) (l.map fun (x : Nat) => (x : Int)) := by
      unfold below
      rw [List.filter_map, List.length_map]
      congr 2
      funext y
      simp
    rw [← e]
    rfl
theorem row_order {h n : Int} (hn : 0 < n) : (Sv96.order h n.toNat).map (fun (x : Nat) => (x : Int)) = row h n := by
  unfold Sv96.order row
  rw [List.map_map]
  refine List.map_congr_left fun i _ => ?_
  show ((h * (i : Int) % ((n.toNat : Nat) : Int)).toNat : Int) = _
  rw [show ((n.toNat : Nat) : Int) = n by omega, Int.fmod_eq_emod_of_nonneg _ (show 0 ≤ n by omega)]
  have := Int.emod_nonneg (h * (i : Int)) (show n ≠ 0 by omega)
  omega
theorem row_fit {h n : Int} (hn : 0 < n) (g : ((Nat.gcd h.natAbs n.natAbs : Nat) : Int) = 1) : Fit (row h n) n := by
  refine ⟨?_, ?_, ?_⟩
  · unfold row
    rw [List.length_map, List.length_range]
    omega
  · unfold row
    refine List.Pairwise.map (R := fun i j => i < n.toNat ∧ j < n.toNat ∧ i ≠ j) _ ?_ ?_
    · intro i j ⟨hi, hj, ij⟩ e
      rw [Int.fmod_eq_emod_of_nonneg _ (show 0 ≤ n by omega), Int.fmod_eq_emod_of_nonneg _ (show 0 ≤ n by omega)] at e
      have dv : n ∣ h * (i : Int) - h * (j : Int) := Int.dvd_of_emod_eq_zero (Int.emod_eq_emod_iff_emod_sub_eq_zero.mp e)
      rw [← Int.mul_sub] at dv
      have dn := Int.natAbs_dvd_natAbs.mpr dv
      rw [Int.natAbs_mul] at dn
      have cop : Nat.Coprime n.natAbs h.natAbs := by
        unfold Nat.Coprime
        rw [Nat.gcd_comm]
        omega
      have d2 := cop.dvd_of_dvd_mul_left dn
      have le := Nat.le_of_dvd (by omega) d2
      omega
    · refine List.Pairwise.imp_of_mem ?_ (List.nodup_range (n := n.toNat))
      intro a b ha hb ab
      exact ⟨List.mem_range.mp ha, List.mem_range.mp hb, ab⟩
  · intro x hx
    unfold row at hx
    obtain ⟨i, _, rfl⟩ := List.mem_map.mp hx
    exact ⟨Int.fmod_nonneg_of_pos _ hn, Int.fmod_lt_of_pos _ hn⟩
theorem sign_par {h n : Int} (hn : 0 < n) : Sv96.wrongs (Sv96.order h n.toNat) = inv (row h n) := by
  rw [wrongs_inv, row_order hn]
end Sg
namespace Sw
open Sg
variable {R l pre : List Int} {n s i : Int}
theorem for_start (f : Fit R n) : (R.length : Int) = n ∧ Held R n ([] : List Int).length R 0 := ⟨f.len, held_start f⟩
theorem while_word (h : Held R n i.toNat l s) (i0 : 0 ≤ i) (hi : i < n) :
    (l.length : Int) = n ∧ 0 ≤ i ∧ i < n ∧ i ≤ l.getD i.toNat 0 ∧ l.getD i.toNat 0 < n ∧ Held R n i.toNat l s := by
  have b := held_at h (show ((i.toNat : Nat) : Int) < n by omega)
  exact ⟨h.fit.len, i0, hi, by omega, b.2, h⟩
theorem while_start (h : Held R n pre.length l s) (ei : i = 0 + (pre.length : Int)) (hi : i < n) :
    (l.length : Int) = n ∧ 0 ≤ i ∧ i < n ∧ i ≤ l.getD i.toNat 0 ∧ l.getD i.toNat 0 < n ∧ Held R n i.toNat l s := by
  have e : pre.length = i.toNat := by omega
  rw [e] at h
  exact while_word h (by omega) hi
theorem while_turn (h : Held R n i.toNat l s) (ne : ¬ l.getD i.toNat 0 = i) (i0 : 0 ≤ i) (hi : i < n) :
    ((((l.set i.toNat (l.getD (l.getD i.toNat 0).toNat 0)).set (l.getD i.toNat 0).toNat (l.getD i.toNat 0)).length : Nat) : Int) = n ∧ 0 ≤ i ∧ i < n
    ∧ i ≤ ((l.set i.toNat (l.getD (l.getD i.toNat 0).toNat 0)).set (l.getD i.toNat 0).toNat (l.getD i.toNat 0)).getD i.toNat 0
    ∧ ((l.set i.toNat (l.getD (l.getD i.toNat 0).toNat 0)).set (l.getD i.toNat 0).toNat (l.getD i.toNat 0)).getD i.toNat 0 < n
    ∧ Held R n i.toNat ((l.set i.toNat (l.getD (l.getD i.toNat 0).toNat 0)).set (l.getD i.toNat 0).toNat (l.getD i.toNat 0)) (s + 1) :=
  while_word (held_swap h (by omega) (by omega)).1 i0 hi
theorem while_less (h : Held R n i.toNat l s) (ne : ¬ l.getD i.toNat 0 = i) (i0 : 0 ≤ i) (hi : i < n) :
    off 0 ((l.set i.toNat (l.getD (l.getD i.toNat 0).toNat 0)).set (l.getD i.toNat 0).toNat (l.getD i.toNat 0)) < off 0 l :=
  (held_swap h (by omega) (by omega)).2
theorem for_turn (h : Held R n i.toNat l s) (e : l.getD i.toNat 0 = i) (ei : i = 0 + (pre.length : Int)) : (l.length : Int) = n ∧ Held R n (pre ++ [i]).length l s := by
  have q := held_next h (by omega)
  have e2 : (pre ++ [i]).length = i.toNat + 1 := by
    rw [List.length_append]
    show pre.length + 1 = _
    omega
  rw [e2]
  exact ⟨h.fit.len, q⟩
theorem out {h : Int} {k : Nat} (H : Held R n k l s) (hk : k = n.toNat) (n0 : 0 < n) (e : R = row h n) :
    Sv96.wrongs (Sv96.order h n.toNat) % 2 = (Int.fmod s 2).toNat := by
  subst hk
  have q := held_out H (by omega)
  rw [sign_par n0, ← e, ← q, Int.fmod_eq_emod_of_nonneg _ (show (0 : Int) ≤ 2 by omega)]
  have := H.pos
  omega
end Sw
namespace My
def gd (x y : Int) : Int := ((Nat.gcd x.natAbs y.natAbs : Nat) : Int)
theorem gd_abs (x y : Int) : gd (if x < 0 then -x else x) (if y < 0 then -y else y) = gd x y := by
  have e : ∀ z : Int, (if z < 0 then -z else z).natAbs = z.natAbs := by
    intro z
    split <;> omega
  unfold gd
  rw [e, e]
theorem gd_start (x y : Int) : 0 ≤ (if x < 0 then -x else x) ∧ 0 ≤ (if y < 0 then -y else y) ∧ gd (if x < 0 then -x else x) (if y < 0 then -y else y) = gd x y := by
  refine ⟨?_, ?_, gd_abs x y⟩
  · split <;> omega
  · split <;> omega
theorem gd_turn {x y a b : Int} (h : gd a b = gd x y) (a0 : 0 ≤ a) (b0 : 0 ≤ b) (nz : ¬ b = 0) : 0 ≤ b ∧ 0 ≤ a.fmod b ∧ gd b (a.fmod b) = gd x y := by
  have e : a.fmod b = a % b := Int.fmod_eq_emod_of_nonneg a b0
  have p : 0 ≤ a % b := Int.emod_nonneg a nz
  refine ⟨b0, by omega, ?_⟩
  rw [← h, e]
  unfold gd
  have q : (a % b).natAbs = a.natAbs % b.natAbs := by
    rw [Int.natAbs_emod_of_nonneg a0]
  rw [q, Nat.gcd_comm a.natAbs b.natAbs, Nat.gcd_rec b.natAbs a.natAbs, Nat.gcd_comm]
theorem gd_less {a b : Int} (b0 : 0 ≤ b) (nz : ¬ b = 0) : (a.fmod b).toNat < b.toNat := by
  have q := Int.fmod_lt_of_pos a (show 0 < b by omega)
  have p := Int.fmod_nonneg_of_pos a (show 0 < b by omega)
  omega
theorem gd_out {x y a b : Int} (h : gd a b = gd x y) (a0 : 0 ≤ a) (z : b = 0) : a = gd x y := by
  rw [← h, z]
  unfold gd
  simp
  omega
theorem row_is {h n : Int} {m : Nat} (hm : m = n.toNat) : (PySem.W.rangeKs 0 m).map (fun k => Int.fmod (h * k) n) = Sg.row h n := by
  subst hm
  unfold PySem.W.rangeKs Sg.row
  rw [List.map_map]
  refine List.map_congr_left fun i _ => ?_
  show Int.fmod (h * (0 + (i : Int))) n = _
  rw [Int.zero_add]
theorem sign_start {h n : Int} {m : Nat} (hm : m = n.toNat) (hn : 0 < n) (g : gd h n = 1) :
    ((((PySem.W.rangeKs 0 m).map (fun k => Int.fmod (h * k) n)).length : Nat) : Int) = n ∧ Sg.Held ((PySem.W.rangeKs 0 m).map (fun k => Int.fmod (h * k) n)) n ([] : List Int).length ((PySem.W.rangeKs 0 m).map (fun k => Int.fmod (h * k) n)) 0 := by
  rw [row_is hm]
  exact Sw.for_start (Sg.row_fit hn g)
theorem sign_par {h n s : Int} {m : Nat} {l : List Int} (H : Sg.Held ((PySem.W.rangeKs 0 m).map (fun k => Int.fmod (h * k) n)) n (PySem.W.rangeKs 0 m).length l s) (hm : m = n.toNat) (b : -1000000 ≤ h ∧ h ≤ 1000000 ∧ 1 ≤ n ∧ n ≤ 1000000) (g : gd h n = 1) :
    PySv96.sign h n = [if Int.fmod s 2 = 0 then 1 else 0] := by
  have q := Sw.out H (by rw [PySem.W.rangeKs_length, hm]) (by omega) (row_is hm)
  rw [Cs.sign_is b g, q]
  have p := Int.fmod_nonneg_of_pos s (show (0 : Int) < 2 by omega)
  by_cases c : Int.fmod s 2 = 0
  · rw [if_pos c, if_pos (by omega)]
  · rw [if_neg c, if_neg (by omega)]
theorem sign_even {h n s : Int} {m : Nat} {l : List Int} (H : Sg.Held ((PySem.W.rangeKs 0 m).map (fun k => Int.fmod (h * k) n)) n (PySem.W.rangeKs 0 m).length l s) (e : Int.fmod s 2 = 0) (hm : m = n.toNat) (b : -1000000 ≤ h ∧ h ≤ 1000000 ∧ 1 ≤ n ∧ n ≤ 1000000) (g : gd h n = 1) :
    PySv96.sign h n = [1] := by
  rw [sign_par H hm b g, if_pos e]
theorem sign_odd {h n s : Int} {m : Nat} {l : List Int} (H : Sg.Held ((PySem.W.rangeKs 0 m).map (fun k => Int.fmod (h * k) n)) n (PySem.W.rangeKs 0 m).length l s) (e : ¬ Int.fmod s 2 = 0) (hm : m = n.toNat) (b : -1000000 ≤ h ∧ h ≤ 1000000 ∧ 1 ≤ n ∧ n ≤ 1000000) (g : gd h n = 1) :
    PySv96.sign h n = [0] := by
  rw [sign_par H hm b g, if_neg e]
open PySem PySem.Calls PyProof.Rows
theorem wide_log {x y : Int} (lo : -1000000000000000 ≤ y) (hi : y ≤ 1000000000000000) (nz : y ≠ 0) : Builtin.divisionGoesByPylong x y = false := by
  refine PyProof.noPylong_of_log2 ?_
  have h0 : y.natAbs ≠ 0 := by omega
  have h30 : y.natAbs.log2 < 50 := (Nat.log2_lt h0).mpr (by omega)
  omega
section
variable {prog : Program} {w : World} {A : Around} {E : Value → Shared → Prop} {s : Shared} {x y z : Int} {t u : Tok} {Q : Value → Shared → Prop}
theorem step_mul (lo : -4000000 ≤ y) (hi : y ≤ 4000000) (h : Q (.int (x * y) s.toks) { s with toks := s.toks + 1 }) :
    wpAny (model prog w) A (binaryOp .Mult (.int x t) (.int y u)) Q E s :=
  PyProof.Rows.mul_int h (PySem.IntMulOk.of_right (PySem.intBits_le_64 (by omega) (by omega)))
theorem step_mul_left (lo : -4000000 ≤ x) (hi : x ≤ 4000000) (h : Q (.int (x * y) s.toks) { s with toks := s.toks + 1 }) :
    wpAny (model prog w) A (binaryOp .Mult (.int x t) (.int y u)) Q E s :=
  PyProof.Rows.mul_int h (PySem.IntMulOk.of_left (PySem.intBits_le_64 (by omega) (by omega)))
theorem chain_two {pos : Pos} {r r' : Sem Value} {rs : List (Sem Value)} {v : Tok} (e : rs = []) (hr : ∀ Q' : Value → Shared → Prop, Q' (.int y u) s → wpAny (model prog w) A r Q' E s) (hr' : ∀ Q' : Value → Shared → Prop, Q' (.int z v) s → wpAny (model prog w) A r' Q' E s)
    (h : Q (.bool (decide (x ≤ y ∧ y ≤ z))) s) : wpAny (model prog w) A (compareChain pos (.int x t) [.LtE, .LtE] (r :: r' :: rs)) Q E s := by
  subst e
  refine PyProof.Rows.chain_link (hr _ ?_)
  refine PyProof.Rows.le_int ?_
  refine wpAny_truthy_bool ?_
  by_cases c : x ≤ y
  · rw [decide_eq_true c]
    refine PyProof.Rows.chain_last (hr' _ ?_)
    refine PyProof.Rows.le_int ?_
    have e2 : decide (x ≤ y ∧ y ≤ z) = decide (y ≤ z) := by simp [c]
    rw [e2] at h
    exact h
  · have e2 : decide (x ≤ y ∧ y ≤ z) = false := by simp [c]
    rw [e2] at h
    rw [decide_eq_false c]
    exact h
theorem prod_small {y z : Int} (a : -1000000 ≤ y ∧ y ≤ 1000000) (b : -1000000 ≤ z ∧ z ≤ 1000000) : -1000000000000 ≤ y * z ∧ y * z ≤ 1000000000000 := by
  have e := Int.natAbs_mul y z
  have f : y.natAbs * z.natAbs ≤ 1000000 * 1000000 := Nat.mul_le_mul (by omega) (by omega)
  omega
theorem step_div2 (y0 : y ≠ 0) (z0 : z ≠ 0) (a : -1000000 ≤ y ∧ y ≤ 1000000) (b : -1000000 ≤ z ∧ z ≤ 1000000) (h : Q (.int (Int.fdiv x (y * z)) s.toks) { s with toks := s.toks + 1 }) :
    wpAny (model prog w) A (binaryOp .FloorDiv (.int x t) (.int (y * z) u)) Q E s :=
  PyProof.Rows.floordiv_int (Int.mul_ne_zero y0 z0) h (Or.inl (wide_log (by have := prod_small a b; omega) (by have := prod_small a b; omega) (Int.mul_ne_zero y0 z0)))
end
end My
local macro_rules | `(tactic| walk_at "binaryOp Mult int int") => `(tactic| (k_here; (with_reducible refine' My.step_mul_left ?k1 ?k2 ?_); (case k1 => k_dflt (first | omega | ((simp only [decide_eq_true_eq, decide_eq_false_iff_not, Bool.and_eq_true, Bool.not_eq_true, Bool.not_eq_false, Bool.not_eq_true', Bool.not_eq_false'] at *); omega))); (case k2 => k_dflt (first | omega | ((simp only [decide_eq_true_eq, decide_eq_false_iff_not, Bool.and_eq_true, Bool.not_eq_true, Bool.not_eq_false, Bool.not_eq_true', Bool.not_eq_false'] at *); omega)))))
local macro_rules | `(tactic| walk_at "binaryOp Mult int int") => `(tactic| (k_here; (with_reducible refine' My.step_mul ?k1 ?k2 ?_); (case k1 => k_dflt (first | omega | ((simp only [decide_eq_true_eq, decide_eq_false_iff_not, Bool.and_eq_true, Bool.not_eq_true, Bool.not_eq_false, Bool.not_eq_true', Bool.not_eq_false'] at *); omega))); (case k2 => k_dflt (first | omega | ((simp only [decide_eq_true_eq, decide_eq_false_iff_not, Bool.and_eq_true, Bool.not_eq_true, Bool.not_eq_false, Bool.not_eq_true', Bool.not_eq_false'] at *); omega)))))
local macro_rules | `(tactic| walk_at "compareChain") => `(tactic| (k_here; (with_reducible refine' My.chain_two ?k0 ?k1 ?k2 ?_); (case k0 => with_unfolding_all rfl); (case k1 => (intro q9 h9; walk_at "eval Name"; exact h9)); (case k2 => (intro q9 h9; walk_at "eval Name"; exact h9))))
local macro_rules | `(tactic| walk_at "CompSrc") => `(tactic| (k_here; k_dflt (refine LCg.CompSrc.ledger (by rfl) (by k_asm) (by k_asm) (by k_mem) (by first | size_fits | exact Nat.le_of_ble_eq_true rfl) ?_); intro g'; lcg_lit))
example : List Int → Int → List Int → List Int → Int → Prop := fun row n pre places swaps => (places.length : Int) = n ∧ Sg.Held row n pre.length places swaps
example : List Int → Int → Int → List Int → List Int → Int → Prop := fun row n i _ places swaps => (places.length : Int) = n ∧ 0 ≤ i ∧ i < n ∧ i ≤ places.getD i.toNat 0 ∧ places.getD i.toNat 0 < n ∧ Sg.Held row n i.toNat places swaps
theorem said : PySem.Challenge.rw_sawteeth_s02_sign.wellSaid = true := by decide +kernel
set_option maxRecDepth 100000 in
set_option maxHeartbeats 8000000 in
theorem PySem.Challenge.cw_sawteeth_s02_sign_holds : PySem.Challenge.rw_sawteeth_s02_sign.Holds := by
  k_with "call ref" => k_call_by "greatest_divisor" My.gd
  k_with "tree" => first
    | exact My.gd_out (by assumption) (by omega) (by omega)
  k_with "state" => first
    | exact My.gd_start _ _
    | exact My.gd_turn (by assumption) (by omega) (by omega) (by omega)
    | exact My.sign_start (by omega) (by omega) (by assumption)
    | exact Sw.while_turn (by assumption) (by assumption) (by omega) (by omega)
    | exact Sw.while_start (by assumption) (by assumption) (by omega)
    | exact Sw.for_turn (by assumption) (by omega) (by assumption)
  k_with "measure" => first
    | exact My.gd_less (by omega) (by omega)
    | exact Sw.while_less (by assumption) (by assumption) (by omega) (by omega)
  k_with "exec While Compare cons nil" => k_while_given ["x", "y"] (fun x y _ a b => 0 ≤ a ∧ 0 ≤ b ∧ My.gd a b = My.gd x y) (fun _ _ _ _ b => b.toNat) "a" "b"
  k_with "exec While Compare cons nil" => k_while_given ["row", "n", "i"] (fun row n i _ places swaps => (places.length : Int) = n ∧ 0 ≤ i ∧ i < n ∧ i ≤ places.getD i.toNat 0 ∧ places.getD i.toNat 0 < n ∧ Sg.Held row n i.toNat places swaps) (fun _ _ _ _ places _ => Sg.off 0 places) "places" "swaps"
  k_with "pyIter ref" => k_state_given ["row", "n"] (fun row n pre places swaps => (places.length : Int) = n ∧ Sg.Held row n pre.length places swaps) "places" "swaps"
  open_ks with [.int 1, .int 3]
  all_goals (os_open said with a w q e; obtain ⟨a1, a2, u⟩ := a; have e1 := os_j_int (List.cons.inj e).1; have e2 := os_j_int (List.cons.inj (List.cons.inj e).2).1; clear e w q; subst e1 e2)
  all_goals (show ofPy (PyData.list _) = WData.list (List.map WData.int (PySv96.sign _ _)); refine os_list ?_)
  all_goals simp only [decide_eq_true_eq, decide_eq_false_iff_not, bne_iff_ne, ne_eq, bne_eq_false_iff_eq, Bool.and_eq_true, Bool.and_eq_false_iff, Bool.not_eq_true, Bool.not_eq_false] at *
  all_goals first
    | (rw [Cs.sign_out (by omega)]; rfl)
    | (rw [My.sign_even (by assumption) (by assumption) (by omega) (by omega) (by assumption)]; rfl)
    | (rw [My.sign_odd (by assumption) (by assumption) (by omega) (by omega) (by assumption)]; rfl)
    | (rw [Cs.sign_common (by omega) (by assumption)]; rfl)
#print axioms PySem.Challenge.cw_sawteeth_s02_sign_holds
