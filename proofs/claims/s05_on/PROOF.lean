import PyProof.Rows.All
import KE.OsGo
import KE.OsEnd
import PySem.Challenge.RW_finiteplanes_s05_on
set_option Elab.async false
open PySem PySem.W
namespace My
theorem dec_cons {c : Codec} {cs : List Codec} {d : WData} {ds : List WData} (h : (Codec.decAll (c :: cs) (d :: ds)).isSome = true) :
    (Codec.decAll [c] [d]).isSome = true ∧ (Codec.decAll cs ds).isSome = true := by
  have e : Codec.decAll (c :: cs) (d :: ds) = Codec.both Prod.mk (c.dec d) (Codec.decAll cs ds) := rfl
  have e1 : Codec.decAll [c] [d] = Codec.both Prod.mk (c.dec d) (some ()) := rfl
  rw [e] at h
  rw [e1]
  cases h1 : c.dec d with
  | none =>
    rw [h1] at h
    cases h
  | some a =>
    cases h2 : Codec.decAll cs ds with
    | none =>
      rw [h1, h2] at h
      cases h
    | some r => exact ⟨rfl, rfl⟩
theorem dec_join {c : Codec} {cs : List Codec} {d : WData} {ds : List WData} {a : c.denote} {r : Codec.denoteAll cs} (h1 : Codec.decAll [c] [d] = some (a, ())) (h2 : Codec.decAll cs ds = some r) :
    Codec.decAll (c :: cs) (d :: ds) = some (a, r) := by
  have e : Codec.decAll (c :: cs) (d :: ds) = Codec.both Prod.mk (c.dec d) (Codec.decAll cs ds) := rfl
  have e1 : Codec.decAll [c] [d] = Codec.both Prod.mk (c.dec d) (some ()) := rfl
  rw [e1] at h1
  rw [e, h2]
  cases h3 : c.dec d with
  | none =>
    rw [h3] at h1
    cases h1
  | some b =>
    rw [h3] at h1
    cases h1
    rfl
theorem dec_int {lo hi k : Int} (h : (Codec.decAll [.int lo hi] [WData.int k]).isSome = true) : Codec.decAll [.int lo hi] [WData.int k] = some (k, ()) ∧ lo ≤ k ∧ k ≤ hi := by
  have e : Codec.decAll [.int lo hi] [WData.int k] = Codec.both Prod.mk (if Codec.inInt lo hi k = true then some k else none) (some ()) := rfl
  rw [e] at h ⊢
  cases h1 : Codec.inInt lo hi k with
  | false =>
    rw [h1] at h
    cases h
  | true =>
    unfold Codec.inInt at h1
    simp only [Bool.and_eq_true, decide_eq_true_eq] at h1
    exact ⟨rfl, h1.1, h1.2⟩
end My

set_option maxRecDepth 100000
namespace Fp
open Rb32
def primes : List Nat := [2, 3, 5, 7, 11, 13, 17, 19, 23, 29, 31, 37, 41, 43, 47, 53, 59, 61]
theorem prime_mem {p : Int} (h : Rb32Neutral.isPrime p = true) : p.toNat ∈ primes ∧ p = (p.toNat : Int) := by
  unfold Rb32Neutral.isPrime at h
  have h2 : p ∈ ([2, 3, 5, 7, 11, 13, 17, 19, 23, 29, 31, 37, 41, 43, 47, 53, 59, 61] : List Int) := by simpa using h
  have h3 : ∀ q ∈ ([2, 3, 5, 7, 11, 13, 17, 19, 23, 29, 31, 37, 41, 43, 47, 53, 59, 61] : List Int), q.toNat ∈ primes ∧ q = (q.toNat : Int) := by decide
  exact h3 p h2
theorem primes_ge {p : Nat} (h : p ∈ primes) : 2 ≤ p ∧ p ≤ 61 := by
  have : ∀ q ∈ primes, 2 ≤ q ∧ q ≤ 61 := by decide
  exact this p h
theorem inv_tab : ∀ p ∈ primes, ∀ a ∈ List.range p, a ≠ 0 → a * inverse p a % p = 1 := by decide +kernel
theorem inv_mul {p a : Nat} (h : p ∈ primes) (ha : a < p) (h0 : a ≠ 0) : a * inverse p a % p = 1 := inv_tab p h a (List.mem_range.mpr ha) h0
theorem inv_one_tab : ∀ p ∈ primes, inverse p 1 = 1 := by decide +kernel
theorem inv_one {p : Nat} (h : p ∈ primes) : inverse p 1 = 1 := inv_one_tab p h
theorem inv_zero_tab : ∀ p ∈ primes, inverse p 0 = 0 := by decide +kernel
theorem inv_lt_tab : ∀ p ∈ primes, ∀ a ∈ List.range p, inverse p a < p := by decide +kernel
theorem inv_lt {p a : Nat} (h : p ∈ primes) (ha : a < p) : inverse p a < p := inv_lt_tab p h a (List.mem_range.mpr ha)

def small (p : Nat) (v : Row) : Prop := ∀ x ∈ v, x < p

theorem normal_zero {p : Nat} (v : Row) (_ : 0 < p) : normal p (0 :: v) = (normal p v).map (fun u => 0 :: u) := by
  unfold normal
  rw [List.find?_cons]
  simp only [Nat.zero_mod, bne_self_eq_false]
  cases h : v.find? (fun x => x % p != 0) with
  | none => rfl
  | some a => simp [Nat.zero_mod]
theorem map_mod {p : Nat} {v : Row} (h : small p v) : v.map (fun x => x % p * 1 % p) = v := by
  induction v with
  | nil => rfl
  | cons a r ih =>
    rw [List.map_cons, ih (fun x hx => h x (List.mem_cons_of_mem _ hx))]
    have := h a List.mem_cons_self
    rw [Nat.mul_one, Nat.mod_eq_of_lt this, Nat.mod_eq_of_lt this]
theorem normal_head {p a : Nat} (v : Row) (ha : a % p ≠ 0) : normal p (a :: v) = some ((a :: v).map fun x => x % p * inverse p (a % p) % p) := by
  unfold normal
  rw [List.find?_cons]
  have : (a % p != 0) = true := by simpa using ha
  rw [this]
  rfl
theorem normal_one {p : Nat} {v : Row} (h : p ∈ primes) (hv : small p v) : normal p (1 :: v) = some (1 :: v) := by
  have h2 := (primes_ge h).1
  have e1 : 1 % p = 1 := Nat.mod_eq_of_lt (by omega)
  rw [normal_head v (by rw [e1]; decide), e1, inv_one h]
  congr 1
  exact map_mod (p := p) (v := 1 :: v) (by
    intro x hx
    rcases List.mem_cons.mp hx with rfl | hx
    · omega
    · exact hv x hx)
theorem normal_big {p a : Nat} {v : Row} (h : p ∈ primes) (ha : a < p) (h0 : a ≠ 0) : ∃ u, normal p (a :: v) = some (1 :: u) := by
  have e : a % p = a := Nat.mod_eq_of_lt ha
  rw [normal_head v (by rw [e]; exact h0), e, List.map_cons, e, inv_mul h ha h0]
  exact ⟨_, rfl⟩

theorem rows_small {p : Nat} : ∀ (n : Nat) (v : Row), v ∈ rows p n ↔ v.length = n ∧ small p v
  | 0, v => by
    unfold rows small
    cases v <;> simp
  | n + 1, v => by
    unfold rows
    rw [List.mem_flatMap]
    constructor
    · rintro ⟨x, hx, hv⟩
      obtain ⟨u, hu, rfl⟩ := List.mem_map.mp hv
      obtain ⟨h1, h2⟩ := (rows_small n u).mp hu
      refine ⟨by simp [h1], ?_⟩
      intro y hy
      rcases List.mem_cons.mp hy with rfl | hy
      · exact List.mem_range.mp hx
      · exact h2 y hy
    · rintro ⟨h1, h2⟩
      cases v with
      | nil => simp at h1
      | cons a r =>
        refine ⟨a, List.mem_range.mpr (h2 a List.mem_cons_self), List.mem_map.mpr ⟨r, (rows_small n r).mpr ⟨by simpa using h1, fun x hx => h2 x (List.mem_cons_of_mem _ hx)⟩, rfl⟩⟩

def nf (p : Nat) (v : Row) : Bool := normal p v == some v
def pts (p n : Nat) : List Row := (rows p n).filter (nf p)
theorem points_pts (p : Nat) : points p = pts p 3 := rfl
theorem nf_zero {p : Nat} (hp : 0 < p) (v : Row) : nf p (0 :: v) = nf p v := by
  unfold nf
  rw [normal_zero v hp]
  cases normal p v with
  | none => rfl
  | some u =>
    show (some (0 :: u) == some (0 :: v)) = (some u == some v)
    rw [Bool.eq_iff_iff]
    simp
theorem nf_one {p : Nat} {v : Row} (h : p ∈ primes) (hv : small p v) : nf p (1 :: v) = true := by
  unfold nf
  rw [normal_one h hv]
  simp
theorem nf_big {p a : Nat} {v : Row} (h : p ∈ primes) (ha : a < p) (h0 : 2 ≤ a) : nf p (a :: v) = false := by
  unfold nf
  obtain ⟨u, hu⟩ := normal_big (v := v) h ha (by omega)
  rw [hu]
  simp
  omega
theorem pts_succ {p : Nat} (h : p ∈ primes) (n : Nat) : pts p (n + 1) = (pts p n).map (fun v => 0 :: v) ++ (rows p n).map (fun v => 1 :: v) := by
  obtain ⟨q, rfl⟩ : ∃ q, p = q + 2 := ⟨p - 2, by have := (primes_ge h).1; omega⟩
  have er : List.range (q + 2) = 0 :: 1 :: (List.range q).map (fun x => x + 1 + 1) := by
    rw [List.range_succ_eq_map, List.range_succ_eq_map]
    simp
  unfold pts
  rw [rows, er, List.flatMap_cons, List.flatMap_cons, List.filter_append, List.filter_append]
  have e0 : ((rows (q + 2) n).map fun v => 0 :: v).filter (nf (q + 2)) = ((rows (q + 2) n).filter (nf (q + 2))).map (fun v => 0 :: v) := by
    rw [List.filter_map]
    congr 1
    apply List.filter_congr
    intro v _
    exact nf_zero (by omega) v
  have e1 : ((rows (q + 2) n).map fun v => 1 :: v).filter (nf (q + 2)) = (rows (q + 2) n).map (fun v => 1 :: v) := by
    rw [List.filter_eq_self]
    intro u hu
    obtain ⟨v, hv, rfl⟩ := List.mem_map.mp hu
    exact nf_one h ((rows_small n v).mp hv).2
  have e2 : (((List.range q).map (fun x => x + 1 + 1)).flatMap fun x => (rows (q + 2) n).map fun v => x :: v).filter (nf (q + 2)) = [] := by
    rw [List.filter_eq_nil_iff]
    intro u hu
    obtain ⟨x, hx, hu⟩ := List.mem_flatMap.mp hu
    obtain ⟨y, hy, rfl⟩ := List.mem_map.mp hx
    obtain ⟨v, hv, rfl⟩ := List.mem_map.mp hu
    rw [nf_big h (by have := List.mem_range.mp hy; omega) (by omega)]
    decide
  rw [e0, e1, e2, List.append_nil]

theorem rows1 (p : Nat) : rows p 1 = (List.range p).map fun z => [z] := by
  show (List.range p).flatMap (fun x => [[x]]) = _
  rw [List.map_eq_flatMap]
theorem range_mul_map (p : Nat) (f : Nat → Nat → Row) (hp : 0 < p) : ∀ n, (List.range (n * p)).map (fun k => f (k / p) (k % p)) = (List.range n).flatMap fun y => (List.range p).map fun z => f y z
  | 0 => by simp
  | n + 1 => by
    rw [Nat.succ_mul, List.range_add, List.map_append, range_mul_map p f hp n, List.range_succ, List.flatMap_append]
    congr 1
    rw [List.flatMap_cons, List.flatMap_nil, List.append_nil, List.map_map]
    apply List.map_congr_left
    intro z hz
    have hz := List.mem_range.mp hz
    show f ((n * p + z) / p) ((n * p + z) % p) = _
    rw [Nat.add_comm (n * p) z, Nat.add_mul_div_right _ _ hp, Nat.add_mul_mod_self_right, Nat.div_eq_of_lt hz, Nat.mod_eq_of_lt hz, Nat.zero_add]
theorem rows2 {p : Nat} (hp : 0 < p) : rows p 2 = (List.range (p * p)).map fun k => [k / p, k % p] := by
  show (List.range p).flatMap (fun x => (rows p 1).map fun v => x :: v) = _
  rw [range_mul_map p (fun y z => [y, z]) hp p, rows1]
  simp only [List.map_map]
  rfl
theorem pts0 (p : Nat) : pts p 0 = [] := rfl
theorem points_eq {p : Nat} (h : p ∈ primes) : points p = [0, 0, 1] :: ((List.range p).map (fun z => [0, 1, z]) ++ (List.range (p * p)).map (fun k => [1, k / p, k % p])) := by
  have hp : 0 < p := by have := (primes_ge h).1; omega
  rw [points_pts, pts_succ h, pts_succ h, pts_succ h, pts0, rows2 hp, rows1]
  simp only [List.map_nil, List.nil_append, List.map_map, rows, List.map_cons, List.cons_append]
  rfl

theorem points_at {p : Nat} (h : p ∈ primes) (j : Nat) : (points p)[j]? = if j = 0 then some [0, 0, 1] else if j < 1 + p then some [0, 1, j - 1] else if j - 1 - p < p * p then some [1, (j - 1 - p) / p, (j - 1 - p) % p] else none := by
  rw [points_eq h]
  by_cases h0 : j = 0
  · subst h0
    rfl
  · obtain ⟨k, rfl⟩ : ∃ k, j = k + 1 := ⟨j - 1, by omega⟩
    rw [if_neg h0, List.getElem?_cons_succ]
    by_cases h1 : k + 1 < 1 + p
    · rw [if_pos h1, List.getElem?_append_left (by simp; omega), List.getElem?_map, List.getElem?_range (by omega)]
      rfl
    · rw [if_neg h1, List.getElem?_append_right (by simp; omega), List.getElem?_map]
      simp only [List.length_map, List.length_range, Nat.add_sub_cancel]
      by_cases h2 : k - p < p * p
      · rw [if_pos h2, List.getElem?_range h2]
        rfl
      · rw [if_neg h2, List.getElem?_eq_none (by simp; omega)]
        rfl
theorem tw_idx {α : Type} [BEq α] [LawfulBEq α] (v : α) : ∀ (l : List α) (i : Nat), l[i]? = some v → (∀ j, j < i → l[j]? ≠ some v) → (l.takeWhile (fun u => u != v)).length = i
  | [], i, h, _ => by simp at h
  | a :: r, 0, h, _ => by
    have : a = v := by simpa using h
    subst this
    rw [List.takeWhile_cons]
    simp
  | a :: r, i + 1, h, hm => by
    have h0 : a ≠ v := by
      intro e
      subst e
      exact hm 0 (by omega) rfl
    have hb : (a != v) = true := by simpa using h0
    rw [List.takeWhile_cons, if_pos hb, List.length_cons, tw_idx v r i (by simpa using h) (fun j hj => by
      have := hm (j + 1) (by omega)
      simpa using this)]
theorem number_pts {p x y z : Nat} (h : p ∈ primes) (hx : x < p) (hy : y < p) (hz : z < p) (hv : x = 1 ∨ (x = 0 ∧ (y = 1 ∨ (y = 0 ∧ z = 1)))) :
    ((points p).takeWhile (fun u => u != [x, y, z])).length = if x = 1 then 1 + p + y * p + z else if y = 1 then 1 + z else 0 := by
  have hp := (primes_ge h).1
  by_cases h1 : x = 1
  · subst h1
    rw [if_pos rfl]
    have hl : y * p + z < p * p := by
      have : (y + 1) * p ≤ p * p := Nat.mul_le_mul_right p (by omega)
      rw [Nat.succ_mul] at this
      omega
    apply tw_idx
    · rw [points_at h, if_neg (by omega), if_neg (by omega)]
      have e : 1 + p + y * p + z - 1 - p = z + y * p := by omega
      rw [e, if_pos (by omega), Nat.add_mul_div_right _ _ (by omega), Nat.add_mul_mod_self_right, Nat.div_eq_of_lt hz, Nat.mod_eq_of_lt hz, Nat.zero_add]
    · intro j hj
      rw [points_at h]
      split
      · simp
      · split
        · simp
        · split
          · intro e
            have e := Option.some.inj e
            simp only [List.cons.injEq, and_true, true_and] at e
            have := Nat.div_add_mod (j - 1 - p) p
            rw [e.1, e.2, Nat.mul_comm p y] at this
            omega
          · simp
  · rw [if_neg h1]
    have hx0 : x = 0 := by omega
    subst hx0
    by_cases h2 : y = 1
    · subst h2
      rw [if_pos rfl]
      apply tw_idx
      · rw [points_at h, if_neg (by omega), if_pos (by omega)]
        have e : 1 + z - 1 = z := by omega
        rw [e]
      · intro j hj
        rw [points_at h]
        split
        · simp
        · rw [if_pos (by omega)]
          intro e
          have e := Option.some.inj e
          simp only [List.cons.injEq, and_true, true_and] at e
          omega
    · rw [if_neg h2]
      have hy0 : y = 0 := by omega
      have hz1 : z = 1 := by omega
      subst hy0 hz1
      apply tw_idx
      · rw [points_at h, if_pos rfl]
      · intro j hj
        omega
end Fp

open PySem PySem.W
namespace My
open PySem.Challenge
theorem pre5 {p : Int} {us vs : List Int} (h : rw_finiteplanes_s05_on.pre [WData.int p, ofPy (PyData.list (us.map PyData.int)), ofPy (PyData.list (vs.map PyData.int))] = true) :
    2 ≤ p ∧ p ≤ 61 ∧ us.length = 3 ∧ vs.length = 3 ∧ (∀ x ∈ us, 0 ≤ x ∧ x ≤ 60) ∧ (∀ x ∈ vs, 0 ≤ x ∧ x ≤ 60) ∧ PyRb32.on_asked p us vs = true ∧ Codec.decAll rw_finiteplanes_s05_on.args [WData.int p, ofPy (PyData.list (us.map PyData.int)), ofPy (PyData.list (vs.map PyData.int))] = some (p, us, vs, ()) := by
  obtain ⟨h1, h2⟩ := My.dec_cons (os_pre_isSome h)
  obtain ⟨h3, h4⟩ := My.dec_cons h2
  obtain ⟨e1, lo, hi⟩ := My.dec_int h1
  obtain ⟨e2, least, most, items⟩ := os_dec_ints h3
  obtain ⟨e3, least3, most3, items3⟩ := os_dec_ints h4
  have e := My.dec_join e1 (My.dec_join e2 e3)
  have ha := os_pre_asked h e
  exact ⟨lo, hi, by omega, by omega, items, items3, ha, e⟩
theorem on_val {p : Int} {us vs : List Int} (ha : PyRb32.on_asked p us vs = true) : PyRb32.on p us vs = [if (us.getD (Int.toNat 0) 0 * vs.getD (Int.toNat 0) 0 + us.getD (Int.toNat 1) 0 * vs.getD (Int.toNat 1) 0 + us.getD (Int.toNat 2) 0 * vs.getD (Int.toNat 2) 0).fmod p = 0 then 1 else 0] := by
  have ha' : (Rb32Neutral.isPrime p && (Rb32Neutral.isRow p 3 us && Rb32Neutral.isRow p 3 vs)) = true := ha
  obtain ⟨hpr, hpt⟩ := Bool.and_eq_true_iff.mp ha'
  obtain ⟨hu, hv⟩ := Bool.and_eq_true_iff.mp hpt
  obtain ⟨hm, e⟩ := Fp.prime_mem hpr
  obtain ⟨n, rfl⟩ : ∃ n : Nat, p = (n : Int) := ⟨_, e⟩
  rw [Int.toNat_natCast] at hm
  have l1 : us.length = 3 := by simpa using (Bool.and_eq_true_iff.mp hu).2
  have l2 : vs.length = 3 := by simpa using (Bool.and_eq_true_iff.mp hv).2
  match us, vs, hu, hv, l1, l2 with
  | [a, b, c], [x, y, z], hu, hv, _, _ =>
    simp only [Rb32Neutral.isRow, List.all_cons, List.all_nil, Bool.and_eq_true, decide_eq_true_eq] at hu hv
    obtain ⟨⟨⟨ha0, _⟩, ⟨hb0, _⟩, ⟨hc0, _⟩, _⟩, _⟩ := hu
    obtain ⟨⟨⟨hx0, _⟩, ⟨hy0, _⟩, ⟨hz0, _⟩, _⟩, _⟩ := hv
    obtain ⟨a, rfl⟩ : ∃ k : Nat, a = (k : Int) := ⟨a.toNat, by omega⟩
    obtain ⟨b, rfl⟩ : ∃ k : Nat, b = (k : Int) := ⟨b.toNat, by omega⟩
    obtain ⟨c, rfl⟩ : ∃ k : Nat, c = (k : Int) := ⟨c.toNat, by omega⟩
    obtain ⟨x, rfl⟩ : ∃ k : Nat, x = (k : Int) := ⟨x.toNat, by omega⟩
    obtain ⟨y, rfl⟩ : ∃ k : Nat, y = (k : Int) := ⟨y.toNat, by omega⟩
    obtain ⟨z, rfl⟩ : ∃ k : Nat, z = (k : Int) := ⟨z.toNat, by omega⟩
    show [if (((a * x + b * y + c * z) % n == 0) = true) then (1 : Int) else 0] = [if ((a : Int) * x + b * y + c * z).fmod n = 0 then 1 else 0]
    rw [Int.fmod_eq_emod_of_nonneg _ (show (0 : Int) ≤ n by omega)]
    have e3 : ((a : Int) * x + b * y + c * z) % n = ((a * x + b * y + c * z) % n : Nat) := by simp
    rw [e3]
    by_cases hz : (a * x + b * y + c * z) % n = 0
    · rw [hz]; rfl
    · rw [if_neg (by simpa using hz), if_neg (by omega)]
end My
set_option maxRecDepth 100000 in
set_option maxHeartbeats 8000000 in
theorem PySem.Challenge.cw_finiteplanes_s05_on_holds : PySem.Challenge.rw_finiteplanes_s05_on.Holds := by
  (w_on; k_headS; (case hw => exact ⟨[.int 2, .list [.int 0, .int 0, .int 1], .list [.int 0, .int 0, .int 1]], by decide +kernel, by decide +kernel⟩))
  w_strict (k_goS0; (obtain ⟨hp2, hp61, hlen, hlen2, hit, hit2, hask, hdec⟩ := My.pre5 (by assumption)); (all_goals try k_fold); k_steps; (all_goals (try (w_end; sp_is; wrow_close))); (all_goals (try k_data)); all_goals first | sp_left | w_report)
  all_goals (refine os_post hdec ?_)
  all_goals (refine os_same_list ?_)
  all_goals (show _ = (PyRb32.on _ _ _).map PyData.int)
  all_goals (rw [My.on_val hask])
  · rw [if_pos (by assumption)]; rfl
  · rw [if_neg (by assumption)]; rfl

