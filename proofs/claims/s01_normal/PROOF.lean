import PyProof.Rows.All
import KE.OsGo
import KE.OsEnd
import PySem.Challenge.RW_finiteplanes_s01_normal
set_option Elab.async false
open PySem PySem.W
namespace My
theorem dec_cons {c : Codec} {cs : List Codec} {d : WData} {ds : List WData} (h : (Codec.decAll (c :: cs) (d :: ds)).isSome = true) :
    (Codec.decAll [c] [d]).isSome = true ∧ (Codec.decAll cs ds).isSome = true := by
  have e : Codec.decAll (c :: cs) (d :: ds) = Codec.both Prod.mk (c.dec d) (Codec.decAll cs ds) := rfl
  have e1 : Codec.decAll [c] [d] = Codec.both Prod.mk (c.dec d) (some ()) := rfl
  rw [e] at h
  rw [e1]
  cases h1 : c.dec d with
  | none =>
    rw [h1] at h
    cases h
  | some a =>
    cases h2 : Codec.decAll cs ds with
    | none =>
      rw [h1, h2] at h
      cases h
    | some r => exact ⟨rfl, rfl⟩
theorem dec_join {c : Codec} {cs : List Codec} {d : WData} {ds : List WData} {a : c.denote} {r : Codec.denoteAll cs} (h1 : Codec.decAll [c] [d] = some (a, ())) (h2 : Codec.decAll cs ds = some r) :
    Codec.decAll (c :: cs) (d :: ds) = some (a, r) := by
  have e : Codec.decAll (c :: cs) (d :: ds) = Codec.both Prod.mk (c.dec d) (Codec.decAll cs ds) := rfl
  have e1 : Codec.decAll [c] [d] = Codec.both Prod.mk (c.dec d) (some ()) := rfl
  rw [e1] at h1
  rw [e, h2]
  cases h3 : c.dec d with
  | none =>
    rw [h3] at h1
    cases h1
  | some b =>
    rw [h3] at h1
    cases h1
    rfl
theorem dec_int {lo hi k : Int} (h : (Codec.decAll [.int lo hi] [WData.int k]).isSome = true) : Codec.decAll [.int lo hi] [WData.int k] = some (k, ()) ∧ lo ≤ k ∧ k ≤ hi := by
  have e : Codec.decAll [.int lo hi] [WData.int k] = Codec.both Prod.mk (if Codec.inInt lo hi k = true then some k else none) (some ()) := rfl
  rw [e] at h ⊢
  cases h1 : Codec.inInt lo hi k with
  | false =>
    rw [h1] at h
    cases h
  | true =>
    unfold Codec.inInt at h1
    simp only [Bool.and_eq_true, decide_eq_true_eq] at h1
    exact ⟨rfl, h1.1, h1.2⟩
end My

set_option maxRecDepth 100000
namespace Fp
open Rb32
def primes : List Nat := [2, 3, 5, 7, 11, 13, 17, 19, 23, 29, 31, 37, 41, 43, 47, 53, 59, 61]
theorem prime_mem {p : Int} (h : Rb32Neutral.isPrime p = true) : p.toNat ∈ primes ∧ p = (p.toNat : Int) := by
  unfold Rb32Neutral.isPrime at h
  have h2 : p ∈ ([2, 3, 5, 7, 11, 13, 17, 19, 23, 29, 31, 37, 41, 43, 47, 53, 59, 61] : List Int) := by simpa using h
  have h3 : ∀ q ∈ ([2, 3, 5, 7, 11, 13, 17, 19, 23, 29, 31, 37, 41, 43, 47, 53, 59, 61] : List Int), q.toNat ∈ primes ∧ q = (q.toNat : Int) := by decide
  exact h3 p h2
theorem primes_ge {p : Nat} (h : p ∈ primes) : 2 ≤ p ∧ p ≤ 61 := by
  have : ∀ q ∈ primes, 2 ≤ q ∧ q ≤ 61 := by decide
  exact this p h
theorem inv_tab : ∀ p ∈ primes, ∀ a ∈ List.range p, a ≠ 0 → a * inverse p a % p = 1 := by decide +kernel
theorem inv_mul {p a : Nat} (h : p ∈ primes) (ha : a < p) (h0 : a ≠ 0) : a * inverse p a % p = 1 := inv_tab p h a (List.mem_range.mpr ha) h0
theorem inv_one_tab : ∀ p ∈ primes, inverse p 1 = 1 := by decide +kernel
theorem inv_one {p : Nat} (h : p ∈ primes) : inverse p 1 = 1 := inv_one_tab p h
theorem inv_zero_tab : ∀ p ∈ primes, inverse p 0 = 0 := by decide +kernel
theorem inv_lt_tab : ∀ p ∈ primes, ∀ a ∈ List.range p, inverse p a < p := by decide +kernel
theorem inv_lt {p a : Nat} (h : p ∈ primes) (ha : a < p) : inverse p a < p := inv_lt_tab p h a (List.mem_range.mpr ha)

def small (p : Nat) (v : Row) : Prop := ∀ x ∈ v, x < p

theorem normal_zero {p : Nat} (v : Row) (_ : 0 < p) : normal p (0 :: v) = (normal p v).map (fun u => 0 :: u) := by
  unfold normal
  rw [List.find?_cons]
  simp only [Nat.zero_mod, bne_self_eq_false]
  cases h : v.find? (fun x => x % p != 0) with
  | none => rfl
  | some a => simp [Nat.zero_mod]
theorem map_mod {p : Nat} {v : Row} (h : small p v) : v.map (fun x => x % p * 1 % p) = v := by
  induction v with
  | nil => rfl
  | cons a r ih =>
    rw [List.map_cons, ih (fun x hx => h x (List.mem_cons_of_mem _ hx))]
    have := h a List.mem_cons_self
    rw [Nat.mul_one, Nat.mod_eq_of_lt this, Nat.mod_eq_of_lt this]
theorem normal_head {p a : Nat} (v : Row) (ha : a % p ≠ 0) : normal p (a :: v) = some ((a :: v).map fun x => x % p * inverse p (a % p) % p) := by
  unfold normal
  rw [List.find?_cons]
  have : (a % p != 0) = true := by simpa using ha
  rw [this]
  rfl
theorem normal_one {p : Nat} {v : Row} (h : p ∈ primes) (hv : small p v) : normal p (1 :: v) = some (1 :: v) := by
  have h2 := (primes_ge h).1
  have e1 : 1 % p = 1 := Nat.mod_eq_of_lt (by omega)
  rw [normal_head v (by rw [e1]; decide), e1, inv_one h]
  congr 1
  exact map_mod (p := p) (v := 1 :: v) (by
    intro x hx
    rcases List.mem_cons.mp hx with rfl | hx
    · omega
    · exact hv x hx)
theorem normal_big {p a : Nat} {v : Row} (h : p ∈ primes) (ha : a < p) (h0 : a ≠ 0) : ∃ u, normal p (a :: v) = some (1 :: u) := by
  have e : a % p = a := Nat.mod_eq_of_lt ha
  rw [normal_head v (by rw [e]; exact h0), e, List.map_cons, e, inv_mul h ha h0]
  exact ⟨_, rfl⟩

theorem rows_small {p : Nat} : ∀ (n : Nat) (v : Row), v ∈ rows p n ↔ v.length = n ∧ small p v
  | 0, v => by
    unfold rows small
    cases v <;> simp
  | n + 1, v => by
    unfold rows
    rw [List.mem_flatMap]
    constructor
    · rintro ⟨x, hx, hv⟩
      obtain ⟨u, hu, rfl⟩ := List.mem_map.mp hv
      obtain ⟨h1, h2⟩ := (rows_small n u).mp hu
      refine ⟨by simp [h1], ?_⟩
      intro y hy
      rcases List.mem_cons.mp hy with rfl | hy
      · exact List.mem_range.mp hx
      · exact h2 y hy
    · rintro ⟨h1, h2⟩
      cases v with
      | nil => simp at h1
      | cons a r =>
        refine ⟨a, List.mem_range.mpr (h2 a List.mem_cons_self), List.mem_map.mpr ⟨r, (rows_small n r).mpr ⟨by simpa using h1, fun x hx => h2 x (List.mem_cons_of_mem _ hx)⟩, rfl⟩⟩

def nf (p : Nat) (v : Row) : Bool := normal p v == some v
def pts (p n : Nat) : List Row := (rows p n).filter (nf p)
theorem points_pts (p : Nat) : points p = pts p 3 := rfl
theorem nf_zero {p : Nat} (hp : 0 < p) (v : Row) : nf p (0 :: v) = nf p v := by
  unfold nf
  rw [normal_zero v hp]
  cases normal p v with
  | none => rfl
  | some u =>
    show (some (0 :: u) == some (0 :: v)) = (some u == some v)
    rw [Bool.eq_iff_iff]
    simp
theorem nf_one {p : Nat} {v : Row} (h : p ∈ primes) (hv : small p v) : nf p (1 :: v) = true := by
  unfold nf
  rw [normal_one h hv]
  simp
theorem nf_big {p a : Nat} {v : Row} (h : p ∈ primes) (ha : a < p) (h0 : 2 ≤ a) : nf p (a :: v) = false := by
  unfold nf
  obtain ⟨u, hu⟩ := normal_big (v := v) h ha (by omega)
  rw [hu]
  simp
  omega
theorem pts_succ {p : Nat} (h : p ∈ primes) (n : Nat) : pts p (n + 1) = (pts p n).map (fun v => 0 :: v) ++ (rows p n).map (fun v => 1 :: v) := by
  obtain ⟨q, rfl⟩ : ∃ q, p = q + 2 := ⟨p - 2, by have := (primes_ge h).1; omega⟩
  have er : List.range (q + 2) = 0 :: 1 :: (List.range q).map (fun x => x + 1 + 1) := by
    rw [List.range_succ_eq_map, List.range_succ_eq_map]
    simp
  unfold pts
  rw [rows, er, List.flatMap_cons, List.flatMap_cons, List.filter_append, List.filter_append]
  have e0 : ((rows (q + 2) n).map fun v => 0 :: v).filter (nf (q + 2)) = ((rows (q + 2) n).filter (nf (q + 2))).map (fun v => 0 :: v) := by
    rw [List.filter_map]
    congr 1
    apply List.filter_congr
    intro v _
    exact nf_zero (by omega) v
  have e1 : ((rows (q + 2) n).map fun v => 1 :: v).filter (nf (q + 2)) = (rows (q + 2) n).map (fun v => 1 :: v) := by
    rw [List.filter_eq_self]
    intro u hu
    obtain ⟨v, hv, rfl⟩ := List.mem_map.mp hu
    exact nf_one h ((rows_small n v).mp hv).2
  have e2 : (((List.range q).map (fun x => x + 1 + 1)).flatMap fun x => (rows (q + 2) n).map fun v => x :: v).filter (nf (q + 2)) = [] := by
    rw [List.filter_eq_nil_iff]
    intro u hu
    obtain ⟨x, hx, hu⟩ := List.mem_flatMap.mp hu
    obtain ⟨y, hy, rfl⟩ := List.mem_map.mp hx
    obtain ⟨v, hv, rfl⟩ := List.mem_map.mp hu
    rw [nf_big h (by have := List.mem_range.mp hy; omega) (by omega)]
    decide
  rw [e0, e1, e2, List.append_nil]

theorem rows1 (p : Nat) : rows p 1 = (List.range p).map fun z => [z] := by
  show (List.range p).flatMap (fun x => [[x]]) = _
  rw [List.map_eq_flatMap]
theorem range_mul_map (p : Nat) (f : Nat → Nat → Row) (hp : 0 < p) : ∀ n, (List.range (n * p)).map (fun k => f (k / p) (k % p)) = (List.range n).flatMap fun y => (List.range p).map fun z => f y z
  | 0 => by simp
  | n + 1 => by
    rw [Nat.succ_mul, List.range_add, List.map_append, range_mul_map p f hp n, List.range_succ, List.flatMap_append]
    congr 1
    rw [List.flatMap_cons, List.flatMap_nil, List.append_nil, List.map_map]
    apply List.map_congr_left
    intro z hz
    have hz := List.mem_range.mp hz
    show f ((n * p + z) / p) ((n * p + z) % p) = _
    rw [Nat.add_comm (n * p) z, Nat.add_mul_div_right _ _ hp, Nat.add_mul_mod_self_right, Nat.div_eq_of_lt hz, Nat.mod_eq_of_lt hz, Nat.zero_add]
theorem rows2 {p : Nat} (hp : 0 < p) : rows p 2 = (List.range (p * p)).map fun k => [k / p, k % p] := by
  show (List.range p).flatMap (fun x => (rows p 1).map fun v => x :: v) = _
  rw [range_mul_map p (fun y z => [y, z]) hp p, rows1]
  simp only [List.map_map]
  rfl
theorem pts0 (p : Nat) : pts p 0 = [] := rfl
theorem points_eq {p : Nat} (h : p ∈ primes) : points p = [0, 0, 1] :: ((List.range p).map (fun z => [0, 1, z]) ++ (List.range (p * p)).map (fun k => [1, k / p, k % p])) := by
  have hp : 0 < p := by have := (primes_ge h).1; omega
  rw [points_pts, pts_succ h, pts_succ h, pts_succ h, pts0, rows2 hp, rows1]
  simp only [List.map_nil, List.nil_append, List.map_map, rows, List.map_cons, List.cons_append]
  rfl

theorem points_at {p : Nat} (h : p ∈ primes) (j : Nat) : (points p)[j]? = if j = 0 then some [0, 0, 1] else if j < 1 + p then some [0, 1, j - 1] else if j - 1 - p < p * p then some [1, (j - 1 - p) / p, (j - 1 - p) % p] else none := by
  rw [points_eq h]
  by_cases h0 : j = 0
  · subst h0
    rfl
  · obtain ⟨k, rfl⟩ : ∃ k, j = k + 1 := ⟨j - 1, by omega⟩
    rw [if_neg h0, List.getElem?_cons_succ]
    by_cases h1 : k + 1 < 1 + p
    · rw [if_pos h1, List.getElem?_append_left (by simp; omega), List.getElem?_map, List.getElem?_range (by omega)]
      rfl
    · rw [if_neg h1, List.getElem?_append_right (by simp; omega), List.getElem?_map]
      simp only [List.length_map, List.length_range, Nat.add_sub_cancel]
      by_cases h2 : k - p < p * p
      · rw [if_pos h2, List.getElem?_range h2]
        rfl
      · rw [if_neg h2, List.getElem?_eq_none (by simp; omega)]
        rfl
theorem tw_idx {α : Type} [BEq α] [LawfulBEq α] (v : α) : ∀ (l : List α) (i : Nat), l[i]? = some v → (∀ j, j < i → l[j]? ≠ some v) → (l.takeWhile (fun u => u != v)).length = i
  | [], i, h, _ => by simp at h
  | a :: r, 0, h, _ => by
    have : a = v := by simpa using h
    subst this
    rw [List.takeWhile_cons]
    simp
  | a :: r, i + 1, h, hm => by
    have h0 : a ≠ v := by
      intro e
      subst e
      exact hm 0 (by omega) rfl
    have hb : (a != v) = true := by simpa using h0
    rw [List.takeWhile_cons, if_pos hb, List.length_cons, tw_idx v r i (by simpa using h) (fun j hj => by
      have := hm (j + 1) (by omega)
      simpa using this)]
theorem number_pts {p x y z : Nat} (h : p ∈ primes) (hx : x < p) (hy : y < p) (hz : z < p) (hv : x = 1 ∨ (x = 0 ∧ (y = 1 ∨ (y = 0 ∧ z = 1)))) :
    ((points p).takeWhile (fun u => u != [x, y, z])).length = if x = 1 then 1 + p + y * p + z else if y = 1 then 1 + z else 0 := by
  have hp := (primes_ge h).1
  by_cases h1 : x = 1
  · subst h1
    rw [if_pos rfl]
    have hl : y * p + z < p * p := by
      have : (y + 1) * p ≤ p * p := Nat.mul_le_mul_right p (by omega)
      rw [Nat.succ_mul] at this
      omega
    apply tw_idx
    · rw [points_at h, if_neg (by omega), if_neg (by omega)]
      have e : 1 + p + y * p + z - 1 - p = z + y * p := by omega
      rw [e, if_pos (by omega), Nat.add_mul_div_right _ _ (by omega), Nat.add_mul_mod_self_right, Nat.div_eq_of_lt hz, Nat.mod_eq_of_lt hz, Nat.zero_add]
    · intro j hj
      rw [points_at h]
      split
      · simp
      · split
        · simp
        · split
          · intro e
            have e := Option.some.inj e
            simp only [List.cons.injEq, and_true, true_and] at e
            have := Nat.div_add_mod (j - 1 - p) p
            rw [e.1, e.2, Nat.mul_comm p y] at this
            omega
          · simp
  · rw [if_neg h1]
    have hx0 : x = 0 := by omega
    subst hx0
    by_cases h2 : y = 1
    · subst h2
      rw [if_pos rfl]
      apply tw_idx
      · rw [points_at h, if_neg (by omega), if_pos (by omega)]
        have e : 1 + z - 1 = z := by omega
        rw [e]
      · intro j hj
        rw [points_at h]
        split
        · simp
        · rw [if_pos (by omega)]
          intro e
          have e := Option.some.inj e
          simp only [List.cons.injEq, and_true, true_and] at e
          omega
    · rw [if_neg h2]
      have hy0 : y = 0 := by omega
      have hz1 : z = 1 := by omega
      subst hy0 hz1
      apply tw_idx
      · rw [points_at h, if_pos rfl]
      · intro j hj
        omega
end Fp

open PySem PySem.W
namespace My
open PySem.Challenge
theorem same_list {l k : List Int} (h : l = k) : same (WData.list (ofPys (l.map PyData.int))) (WData.list (k.map WData.int)) = true := by
  subst h
  rw [ofPys_ints]
  exact same_self _
theorem pre1 {p : Int} {ns : List Int} (h : rw_finiteplanes_s01_normal.pre [WData.int p, ofPy (PyData.list (ns.map PyData.int))] = true) :
    2 ≤ p ∧ p ≤ 61 ∧ ns.length = 3 ∧ (∀ x ∈ ns, 0 ≤ x ∧ x ≤ 60) ∧ PyRb32.normal_asked p ns = true ∧ Codec.decAll rw_finiteplanes_s01_normal.args [WData.int p, ofPy (PyData.list (ns.map PyData.int))] = some (p, ns, ()) := by
  obtain ⟨h1, h2⟩ := My.dec_cons (os_pre_isSome h)
  obtain ⟨e1, lo, hi⟩ := My.dec_int h1
  obtain ⟨e2, least, most, items⟩ := os_dec_ints h2
  have e := My.dec_join e1 e2
  have ha := os_pre_asked h e
  exact ⟨lo, hi, by omega, items, ha, e⟩
def fnz : List Int → Int
  | [] => 0
  | a :: r => if a = 0 then fnz r else a
def pw (p a : Int) : Nat → Int
  | 0 => 1
  | n + 1 => (pw p a n * a).fmod p
structure PwIs (p a : Int) (n : Nat) (b : Int) : Prop where
  eq : b = pw p a n
theorem pw_start (p a : Int) : PwIs p a ([] : List Int).length 1 ∧ (0 : Int) ≤ 1 ∧ (1 : Int) ≤ 61 := ⟨⟨rfl⟩, by decide, by decide⟩
theorem pw_turn {p a b : Int} {pre : List Int} {k : Int} (h : PwIs p a pre.length b ∧ 0 ≤ b ∧ b ≤ 61) (hp : 2 ≤ p) (hp2 : p ≤ 61) :
    PwIs p a (pre ++ [k]).length ((b * a).fmod p) ∧ 0 ≤ (b * a).fmod p ∧ (b * a).fmod p ≤ 61 := by
  have e : (pre ++ [k]).length = pre.length + 1 := by simp
  refine ⟨⟨?_⟩, Int.fmod_nonneg_of_pos _ (by omega), ?_⟩
  · rw [e, h.1.eq]
    rfl
  · have := Int.fmod_lt_of_pos (b * a) (show 0 < p by omega)
    omega
def finv (p a : Int) : Int := pw p a (p - 2).toNat
theorem fnz_hit {all pre post : List Int} {v : Int} (h : all = pre ++ v :: post) (hz : ∀ x ∈ pre, x = 0) (hv : v ≠ 0) : v = fnz all := by
  subst h
  induction pre with
  | nil => simp [fnz, hv]
  | cons a r ih =>
    have ha : a = 0 := hz a List.mem_cons_self
    simp only [List.cons_append, fnz, ha, if_true]
    exact ih (fun x hx => hz x (List.mem_cons_of_mem _ hx))
theorem fnz_none {all : List Int} (hz : ∀ x ∈ all, x = 0) : 0 = fnz all := by
  induction all with
  | nil => rfl
  | cons a r ih =>
    have ha : a = 0 := hz a List.mem_cons_self
    simp only [fnz, ha, if_true]
    exact ih (fun x hx => hz x (List.mem_cons_of_mem _ hx))
theorem finv_out {p a b : Int} (h : PwIs p a (rangeKs 0 (p - 2 - 0).toNat).length b) : b = finv p a := by
  rw [h.eq, rangeKs_length, Int.sub_zero]
  rfl
theorem pw_bound (p a : Int) (hp : 2 ≤ p) (hp2 : p ≤ 61) : ∀ n, 0 ≤ pw p a n ∧ pw p a n ≤ 61
  | 0 => ⟨(by decide : (0 : Int) ≤ 1), (by decide : (1 : Int) ≤ 61)⟩
  | n + 1 => by
    have h1 := Int.fmod_nonneg_of_pos (pw p a n * a) (show 0 < p by omega)
    have h2 := Int.fmod_lt_of_pos (pw p a n * a) (show 0 < p by omega)
    constructor
    · exact h1
    · show (pw p a n * a).fmod p ≤ 61
      omega
theorem finv_fact (p a : Int) (h : 2 ≤ p ∧ p ≤ 61) : 0 ≤ finv p a ∧ finv p a ≤ 61 := pw_bound p a h.1 h.2 _
theorem finv_tab : ∀ p ∈ Fp.primes, ∀ a ∈ List.range p, a ≠ 0 → finv (p : Int) (a : Int) = (Rb32.inverse p a : Int) := by decide +kernel
theorem fnz_find (p : Nat) : ∀ us : List Nat, (∀ x ∈ us, x < p) → fnz (us.map fun (x : Nat) => (x : Int)) = (((us.find? fun x => x % p != 0).getD 0 : Nat) : Int)
  | [], _ => rfl
  | a :: r, h => by
    have ha : a % p = a := Nat.mod_eq_of_lt (h a List.mem_cons_self)
    rw [List.map_cons, List.find?_cons, ha, fnz]
    by_cases h0 : a = 0
    · subst h0
      simp only [bne_self_eq_false]
      exact fnz_find p r (fun x hx => h x (List.mem_cons_of_mem _ hx))
    · have hb : (a != 0) = true := by simpa using h0
      rw [hb, if_neg (show ¬ (a : Int) = 0 by omega)]
      rfl
theorem told_normal {p : Nat} (hp : p ∈ Fp.primes) (us : List Nat) (h : ∀ x ∈ us, x < p) :
    Rb32.told (Rb32.normal p us) = if fnz (us.map fun (x : Nat) => (x : Int)) = 0 then [0] else 1 :: (us.map fun (x : Nat) => (x : Int)).map (fun k => (k * finv p (fnz (us.map fun (x : Nat) => (x : Int)))).fmod p) := by
  have h2 := (Fp.primes_ge hp).1
  rw [fnz_find p us h]
  unfold Rb32.normal
  cases e : us.find? (fun x => x % p != 0) with
  | none => rfl
  | some a =>
    have hm : a ∈ us := List.mem_of_find?_eq_some e
    have ha := h a hm
    have hz : (a % p != 0) = true := List.find?_some (p := fun x => x % p != 0) e
    rw [Nat.mod_eq_of_lt ha] at hz
    have hz' : a ≠ 0 := by simpa using hz
    rw [Option.getD_some, if_neg (show ¬ (a : Int) = 0 by omega), finv_tab p hp a (List.mem_range.mpr ha) hz']
    simp only [Option.map_some, Rb32.told, List.map_map]
    congr 1
    apply List.map_congr_left
    intro x hx
    show (((x % p * Rb32.inverse p (a % p) % p : Nat)) : Int) = _
    show _ = ((x : Int) * (Rb32.inverse p a : Int)).fmod (p : Int)
    rw [Nat.mod_eq_of_lt ha, Nat.mod_eq_of_lt (h x hx), Int.fmod_eq_emod_of_nonneg _ (show (0 : Int) ≤ p by omega)]
    simp
theorem normal_val {p : Int} {ns : List Int} (ha : PyRb32.normal_asked p ns = true) : PyRb32.normal p ns = if fnz ns = 0 then [0] else 1 :: ns.map (fun k => (k * finv p (fnz ns)).fmod p) := by
  have ha' : (Rb32Neutral.isPrime p && Rb32Neutral.isRow p 3 ns) = true := ha
  obtain ⟨hpr, hpt⟩ := Bool.and_eq_true_iff.mp ha'
  obtain ⟨hm, e⟩ := Fp.prime_mem hpr
  obtain ⟨n, rfl⟩ : ∃ n : Nat, p = (n : Int) := ⟨_, e⟩
  rw [Int.toNat_natCast] at hm
  have hall : ∀ x ∈ ns, 0 ≤ x ∧ x < (n : Int) := by
    intro x hx
    have h1 := (Bool.and_eq_true_iff.mp hpt).1
    have h2 := List.all_eq_true.mp h1 x hx
    simpa using h2
  have en : ns = (Rb32Neutral.nats ns).map (fun (x : Nat) => (x : Int)) := by
    unfold Rb32Neutral.nats
    rw [List.map_map]
    conv => lhs; rw [← List.map_id ns]
    apply List.map_congr_left
    intro x hx
    have := hall x hx
    show x = ((x.toNat : Nat) : Int)
    omega
  show Rb32.told (Rb32.normal n (Rb32Neutral.nats ns)) = _
  rw [told_normal hm _ (fun x hx => by
    obtain ⟨y, hy, rfl⟩ := List.mem_map.mp hx
    have := hall y hy
    omega), ← en]
end My
set_option maxRecDepth 100000 in
set_option maxHeartbeats 8000000 in
theorem PySem.Challenge.cw_finiteplanes_s01_normal_holds : PySem.Challenge.rw_finiteplanes_s01_normal.Holds := by
  (w_on; k_headS; (case hw => exact ⟨[.int 2, .list [.int 0, .int 0, .int 1]], by decide +kernel, by decide +kernel⟩))
  k_with "tree" => k_dflt (first | exact My.fnz_hit (by assumption) (by assumption) (by assumption) | exact My.fnz_none (by assumption) | exact My.finv_out (by assumption))
  k_with "fact inverse" => exact My.finv_fact
  k_with "call ref" => k_call_by "first_not_zero" My.fnz
  k_with "call ref" => k_call_by "inverse" My.finv (fun (p _ : Int) => 2 ≤ p ∧ p ≤ 61)
  k_with "state" => k_dflt (first | exact My.pw_start _ _ | exact My.pw_turn (by assumption) (by omega) (by omega) | exact My.pw_turn ⟨by assumption, by assumption, by assumption⟩ (by omega) (by omega))
  k_with "pyIter ref" => (k_of "k" => k_state_given ["p", "a"] (fun p a pre b => My.PwIs p a pre.length b ∧ 0 ≤ b ∧ b ≤ 61) "b")
  k_with "pyIter ref" => (k_of "a" => k_search (fun pre => ∀ v ∈ pre, v = 0))
  w_strict (k_goS0; (obtain ⟨hp2, hp61, hlen, hit, hask, hdec⟩ := My.pre1 (by assumption)); (all_goals try k_fold); k_steps; (all_goals (try (w_end; sp_is; wrow_close))); (all_goals (try k_data)); all_goals first | sp_left | w_report)
  all_goals (refine os_post hdec ?_)
  · refine os_same_list ?_
    show _ = (PyRb32.normal _ _).map PyData.int
    rw [My.normal_val hask, if_pos (by assumption)]
    rfl
  · refine My.same_list ?_
    show _ = PyRb32.normal _ _
    rw [My.normal_val hask, if_neg (by assumption)]
    rfl

