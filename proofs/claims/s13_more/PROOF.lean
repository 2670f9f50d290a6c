import PyProof.Rows.All
import Wide.All
import OpenK.AllK
import Wide.FinOn
import PyProof.EqAt
import PyProof.EqKinds
import PyProof.TupleCall
import KE.BitLaws
import KE.OsGo
import Open.SpecLaws
import PySem.Challenge.RW_finiteplanes_s13_more
set_option Elab.async false
set_option linter.all false
-- CHANGE: your row's module here, as the last of these rows
set_option maxRecDepth 100000
namespace L2
open PySem PySem.Spec PyProof.Rows
abbrev Key := Sum Int Str
def keyIs : Key → Value → Bool
  | .inl k, v => Value.isInt k v
  | .inr x, v => Value.isStrOf x v
def keyH (w : World) : Key → Int
  | .inl k => hashInt k
  | .inr x => hashStr w x
theorem keyIs_shape : ∀ {k : Key} {v : Value}, keyIs k v = true → (∃ i t, k = Sum.inl i ∧ v = Value.int i t) ∨ (∃ x t, k = Sum.inr x ∧ v = Value.str x t)
  | .inl i, v, h => by
    obtain ⟨t, e⟩ := Value.isInt_shape (k := i) (v := v) h
    exact .inl ⟨i, t, rfl, e⟩
  | .inr x, v, h => by
    obtain ⟨t, e⟩ := Value.isStrOf_shape (x := x) (v := v) h
    exact .inr ⟨x, t, rfl, e⟩
theorem key_ll (a b : Int) : decide ((Sum.inl a : Key) = Sum.inl b) = (a == b) := by
  by_cases e : a = b
  · subst e; simp
  · have h : ¬ (Sum.inl a : Key) = Sum.inl b := fun q => e (Sum.inl.inj q)
    rw [decide_eq_false h]
    exact (beq_eq_false_iff_ne.mpr e).symm
theorem key_rr (a b : Str) : decide ((Sum.inr a : Key) = Sum.inr b) = decide (a = b) := by
  by_cases e : a = b
  · subst e; simp
  · have h : ¬ (Sum.inr a : Key) = Sum.inr b := fun q => e (Sum.inr.inj q)
    rw [decide_eq_false h, decide_eq_false e]
theorem key_lr (a : Int) (b : Str) : decide ((Sum.inl a : Key) = Sum.inr b) = false := decide_eq_false (fun q => nomatch q)
theorem key_rl (a : Str) (b : Int) : decide ((Sum.inr a : Key) = Sum.inl b) = false := decide_eq_false (fun q => nomatch q)
def mixKind (prog : Program) (w : World) : PySem.KeyKind prog w Key where
  is := keyIs
  hash := keyH w
  inj := fun v a b ha hb => by
    rcases keyIs_shape ha with ⟨i, t, rfl, rfl⟩ | ⟨x, t, rfl, rfl⟩
    · rcases keyIs_shape hb with ⟨j, u, rfl, e⟩ | ⟨y, u, rfl, e⟩
      · injection e with e1 _; rw [e1]
      · exact nomatch e
    · rcases keyIs_shape hb with ⟨j, u, rfl, e⟩ | ⟨y, u, rfl, e⟩
      · exact nomatch e
      · injection e with e1 _; rw [e1]
  byValue := fun k v h => by
    rcases keyIs_shape h with ⟨i, t, rfl, rfl⟩ | ⟨x, t, rfl, rfl⟩ <;> rfl
  pyHash := fun hv h => by
    rcases keyIs_shape hv with ⟨i, t, rfl, rfl⟩ | ⟨x, t, rfl, rfl⟩
    · exact wpAny_pyHash_int h
    · exact wpAny_pyHash_str h
  eqBool := fun hu hv h => by
    rcases keyIs_shape hu with ⟨i, t, rfl, rfl⟩ | ⟨x, t, rfl, rfl⟩
    · rcases keyIs_shape hv with ⟨j, u, rfl, rfl⟩ | ⟨y, u, rfl, rfl⟩
      · rw [key_ll] at h; exact wpAny_eqBool_int h
      · rw [key_lr] at h; exact SeqAt.EqAt.int_str i t y u _ _ _ _ h
    · rcases keyIs_shape hv with ⟨j, u, rfl, rfl⟩ | ⟨y, u, rfl, rfl⟩
      · rw [key_rl] at h; exact SeqAt.EqAt.str_int x t j u _ _ _ _ h
      · rw [key_rr] at h; exact wpAny_eqBool_str h
  «strs» := fun k x t v h => by
    rcases keyIs_shape h with ⟨i, u, rfl, e⟩ | ⟨y, u, rfl, e⟩
    · exact nomatch e
    · injection e with e1 _
      subst e1
      cases v <;> rfl
end L2
namespace L2
open PySem PySem.Spec PyProof.Rows
inductive V where
  | non | bl (b : Bool) | int (i : Int) | str (x : Str) | byt (b : Array UInt8) | flt (b : UInt64) | ref (a : Addr) | ty (n : String)
  deriving DecidableEq
def RelV : V → Value → Prop
  | .non, u => u = Value.none
  | .bl b, u => u = Value.bool b
  | .int i, u => ∃ t, u = Value.int i t
  | .str x, u => ∃ t, u = Value.str x t
  | .byt b, u => ∃ t, u = Value.bytes b t
  | .flt b, u => ∃ t, u = Value.float b t
  | .ref a, u => u = Value.ref a
  | .ty n, u => u = Value.type n
abbrev Vals : List V → List Value → Prop := Paired RelV
theorem Vals.length {xs : List V} {us : List Value} (r : Vals xs us) : xs.length = us.length := Paired.length r
theorem Vals.get : ∀ {xs : List V} {us : List Value} {i : Nat} {x : V}, Vals xs us → xs[i]? = some x → ∃ u, us[i]? = some u ∧ RelV x u
  | _, _, _, _, .nil, e => by simp at e
  | _, _, 0, _, .cons r _, e => by simp at e; subst e; exact ⟨_, rfl, r⟩
  | _, _, i + 1, x, .cons _ t, e => by
    obtain ⟨u, h1, h2⟩ := Vals.get (i := i) (x := x) t (by simpa using e)
    exact ⟨u, by simpa using h1, h2⟩
theorem Vals.append : ∀ {xs ys : List V} {us ws : List Value}, Vals xs us → Vals ys ws → Vals (xs ++ ys) (us ++ ws)
  | _, _, _, _, .nil, s => s
  | _, _, _, _, .cons r t, s => .cons r (Vals.append t s)
theorem Vals.take : ∀ {xs : List V} {us : List Value} (n : Nat), Vals xs us → Vals (xs.take n) (us.take n)
  | _, _, 0, _ => .nil
  | _, _, _ + 1, .nil => .nil
  | _, _, n + 1, .cons r t => .cons r (Vals.take n t)
theorem Vals.drop : ∀ {xs : List V} {us : List Value} (n : Nat), Vals xs us → Vals (xs.drop n) (us.drop n)
  | _, _, 0, r => r
  | _, _, _ + 1, .nil => .nil
  | _, _, n + 1, .cons _ t => Vals.drop n t
def RelO : Option V → Option Value → Prop
  | some v, some u => RelV v u
  | none, none => True
  | _, _ => False
def KV {κ : Type} : List (κ × V) → List (κ × Value) → Prop := Paired fun (p : κ × V) (q : κ × Value) => p.1 = q.1 ∧ RelV p.2 q.2
def kV : Key → V
  | .inl i => .int i
  | .inr x => .str x
inductive HO where
  /-- a list -/
  | lst (xs : List V)
  /-- a tuple (never changes) -/
  | tup (xs : List V)
  /-- a dict whose keys are ints and texts; one whose keys are tuples of ints and texts (the empty one is both) -/
  | dK (kvs : List (Key × V)) | dT (kvs : List (List Key × V))
  /-- a set of ints: its members, its size -/
  | set (S : Int → Bool) (n : Nat)
  /-- an instance of the class at C, its dict at dx, its attributes -/
  | ins (C dx : Addr) (fs : List (Str × V))
  /-- the dict of the instance at x -/
  | own (x : Addr)
  /-- the dict of an exception -/
  | xd (fs : List (Str × V))
  /-- a bound method, f of x -/
  | met (f x : Addr)
  /-- a range object lo, lo + 1, .. below hi -/
  | rng (lo hi : Int)
  /-- a thing that is known to the object (the script; a dict while a loop walks it): read, never written while it is so -/
  | frz (o : Obj) (u : HO)
  /-- a code object's table -/
  | tbl (ps : Array Value)
  /-- any other thing, by what is true of its one object (a def of one's own: SetO a S n := HO.ext fun h => ..) -/
  | ext (φ : Heap → Prop)
abbrev Hp := Addr → Option HO
def upd (H : Hp) (a : Addr) (o : HO) : Hp := fun b => if b = a then some o else H b
theorem upd_same {H : Hp} {a : Addr} {o : HO} : upd H a o a = some o := by unfold upd; rw [if_pos rfl]
theorem upd_ne {H : Hp} {a b : Addr} {o : HO} (h : b ≠ a) : upd H a o b = H b := by unfold upd; rw [if_neg h]
theorem ne_of_none {H : Hp} {a b : Addr} {o : HO} (h : H a = some o) (h' : H b = none) : a ≠ b := by
  intro e; subst e; rw [h] at h'; cases h'
section
variable (P : Program) (w : World)
def ObjOk (H : Hp) (h : Heap) (a : Addr) : HO → Prop
  | .lst xs => xs.length ≤ sizeLine ∧ ∃ (its : List Value) (n : Nat), Vals xs its ∧ h.get? a = some { cls := .type "list", data := .seq its.toArray n }
  | .tup xs => xs.length ≤ sizeLine ∧ ∃ its : List Value, Vals xs its ∧ IsTup h a its.toArray
  | .dK kvs => kvs.length ≤ sizeLine ∧ (a == sysModules) = false ∧ ∃ vs, KV kvs vs ∧ h.DictOf (mixKind P w) a vs
  | .dT kvs => kvs.length ≤ sizeLine ∧ (a == sysModules) = false ∧ ∃ xs : List (List Key × Addr × Value),
      Paired (fun (p : List Key × V) (q : List Key × Addr × Value) => p.1 = q.1 ∧ H q.2.1 = some (.tup (p.1.map kV)) ∧ RelV p.2 q.2.2) kvs xs ∧
      ∃ o es ep, h.get? a = some o ∧ o.ExactDict ∧ o.data = .dict es ep ∧ es.toList = xs.map (entryOfKey (tupleKind (mixKind P w))) ∧ (xs.map (·.1)).Nodup
  | .set S n => h.SetOf (intKind P w) a S n
  | .ins C dx fs => H dx = some (.own a) ∧ fs.length ≤ 1000 ∧ dx ≠ a ∧ h.get? a = some (PySem.W.instObj C dx) ∧
      ∃ mA, h.Ns1 dx mA ∧ (∀ f, RelO (fs.lookup f) (mA f)) ∧ PySem.Within mA (fs.map (·.1))
  | .own _ => ∃ o, h.get? a = some o
  | .xd fs => ∃ mA, h.Ns1 a mA ∧ ∀ f, RelO (fs.lookup f) (mA f)
  | .rng lo hi => ∃ t u v, h.get? a = some { cls := .type "range", data := .fields #[.int lo t, .int hi u, .int 1 v] }
  | .frz o u => h.get? a = some o ∧ ObjOk H h a u
  | .tbl ps => h.get? a = some { cls := .none, data := .fields ps }
  | .met f x => h.get? a = some (PySem.W.methodObj (.ref f) (.ref x))
  | .ext φ => φ h ∧ (∃ o, h.get? a = some o) ∧ ∀ h1 h2 : Heap, φ h1 → (∀ o, h1.get? a = some o → h2.get? a = some o) → φ h2
def HOk (H : Hp) (h : Heap) : Prop := ∀ a o, H a = some o → ObjOk P w H h a o
end
section
variable {P : Program} {w : World} {H H' : Hp} {h h' : Heap} {a : Addr} {o : HO}
theorem ObjOk.lt (x : ObjOk P w H h a o) : a < h.objs.size := by
  cases o with
  | lst xs => obtain ⟨_, _, _, _, e⟩ := x; exact Heap.lt_size e
  | tup xs => obtain ⟨_, _, _, p⟩ := x; exact p.lt
  | dK kvs => obtain ⟨_, _, _, _, o, _, _, e, _⟩ := x; exact Heap.lt_size e
  | dT kvs => obtain ⟨_, _, _, _, o, _, _, e, _⟩ := x; exact Heap.lt_size e
  | set S n => obtain ⟨o, _, _, _, e, _⟩ := x; exact Heap.lt_size e
  | ins C dx fs => obtain ⟨_, _, _, e, _⟩ := x; exact Heap.lt_size e
  | own y => obtain ⟨_, e⟩ := x; exact Heap.lt_size e
  | xd fs => obtain ⟨_, ⟨_, _, _, e, _⟩, _⟩ := x; exact Heap.lt_size e
  | rng lo hi => obtain ⟨_, _, _, e⟩ := x; exact Heap.lt_size e
  | frz ob u => obtain ⟨e, _⟩ := x; exact Heap.lt_size e
  | tbl ps => exact Heap.lt_size (show h.get? a = some _ from x)
  | met f y => exact Heap.lt_size (show h.get? a = some _ from x)
  | ext φ => obtain ⟨_, ⟨_, e⟩, _⟩ := x; exact Heap.lt_size e
theorem Paired.mapP {α β : Type} {F G : α → β → Prop} : ∀ {l₁ : List α} {l₂ : List β}, Paired F l₁ l₂ → (∀ a b, F a b → G a b) → Paired G l₁ l₂
  | _, _, .nil, _ => .nil
  | _, _, .cons r t, f => .cons (f _ _ r) (Paired.mapP t f)
theorem ObjOk.stay (x : ObjOk P w H h a o) (k : ∀ b u, (b = a ∨ H b = some (.own a)) → h.get? b = some u → h'.get? b = some u)
    (ho : ∀ b, H b = some (.own a) → H' b = some (.own a)) (ht : ∀ b xs, H b = some (.tup xs) → H' b = some (.tup xs)) : ObjOk P w H' h' a o := by
  induction o with
  | lst xs => obtain ⟨z, its, n, r, e⟩ := x; exact ⟨z, its, n, r, k _ _ (.inl rfl) e⟩
  | tup xs => obtain ⟨z, its, r, ob, e, c⟩ := x; exact ⟨z, its, r, ob, k _ _ (.inl rfl) e, c⟩
  | dK kvs => obtain ⟨z, y, vs, r, ob, es, ep, e, c⟩ := x; exact ⟨z, y, vs, r, ob, es, ep, k _ _ (.inl rfl) e, c⟩
  | dT kvs =>
    obtain ⟨z, y, xs, r, ob, es, ep, e, c⟩ := x
    exact ⟨z, y, xs, Paired.mapP r fun p q z => ⟨z.1, ht _ _ z.2.1, z.2.2⟩, ob, es, ep, k _ _ (.inl rfl) e, c⟩
  | set S n => obtain ⟨ob, es, ep, t, e, c⟩ := x; exact ⟨ob, es, ep, t, k _ _ (.inl rfl) e, c⟩
  | ins C dx fs =>
    obtain ⟨d, z, ne, e, mA, ⟨od, es, ep, e2, c⟩, r⟩ := x
    exact ⟨ho _ d, z, ne, k _ _ (.inl rfl) e, mA, ⟨od, es, ep, k _ _ (.inr d) e2, c⟩, r⟩
  | own y => obtain ⟨ob, e⟩ := x; exact ⟨ob, k _ _ (.inl rfl) e⟩
  | xd fs => obtain ⟨mA, ⟨od, es, ep, e, c⟩, r⟩ := x; exact ⟨mA, ⟨od, es, ep, k _ _ (.inl rfl) e, c⟩, r⟩
  | rng lo hi => obtain ⟨t, u, v, e⟩ := x; exact ⟨t, u, v, k _ _ (.inl rfl) e⟩
  | frz ob u ih => obtain ⟨e, q⟩ := x; exact ⟨k _ _ (.inl rfl) e, ih q⟩
  | tbl ps =>
    have e : h.get? a = some { cls := .none, data := .fields ps } := x
    show h'.get? a = some { cls := .none, data := .fields ps }
    exact k a _ (.inl rfl) e
  | met f y =>
    have e : h.get? a = some (PySem.W.methodObj (.ref f) (.ref y)) := x
    show h'.get? a = some (PySem.W.methodObj (.ref f) (.ref y))
    exact k a _ (.inl rfl) e
  | ext φ => obtain ⟨p, ⟨o, e⟩, st⟩ := x; exact ⟨st _ _ p fun o q => k _ _ (.inl rfl) q, ⟨o, k _ _ (.inl rfl) e⟩, st⟩
theorem HOk.lt (x : HOk P w H h) (e : H a = some o) : a < h.objs.size := (x a o e).lt
theorem HOk.fresh (x : HOk P w H h) (e : h.objs.size ≤ a) : H a = none := by
  cases q : H a with
  | none => rfl
  | some u => exact absurd (Nat.lt_of_lt_of_le (x.lt q) e) (Nat.lt_irrefl _)
theorem HOk.kept (x : HOk P w H h) (k : ∀ b u, h.get? b = some u → h'.get? b = some u) : HOk P w H h' := fun a o e =>
  (x a o e).stay (fun b u _ q => k b u q) (fun _ q => q) fun _ _ q => q
theorem HOk.laid (x : HOk P w H h) (k : ∀ b u, h.get? b = some u → h'.get? b = some u) (hp : h.objs.size ≤ a) (new : ObjOk P w (upd H a o) h' a o) : HOk P w (upd H a o) h' := fun b u e => by
  have hn := x.fresh hp
  by_cases hb : b = a
  · subst hb; rw [upd_same] at e; cases e; exact new
  · rw [upd_ne hb] at e
    exact (x b u e).stay (fun c v _ q => k c v q) (fun c q => by rw [upd_ne (ne_of_none q hn)]; exact q) fun c xs q => by rw [upd_ne (ne_of_none q hn)]; exact q
end
def Rd (H : Hp) (a : Addr) (u : HO) : Prop := H a = some u ∨ ∃ o, H a = some (.frz o u)
theorem Rd.ok {P : Program} {w : World} {H : Hp} {h : Heap} {a : Addr} {u : HO} (r : Rd H a u) (x : HOk P w H h) : ObjOk P w H h a u := by
  rcases r with r | ⟨o, r⟩
  · exact x a u r
  · obtain ⟨_, q⟩ := x a _ r
    exact q
def Mut : Option HO → Prop
  | some (.lst _) => True
  | some (.dK _) => True
  | some (.dT _) => True
  | some (.set _ _) => True
  | some (.ins _ _ _) => True
  | some (.ext _) => True
  | _ => False
section
variable {P : Program} {w : World} {H : Hp} {h h' : Heap} {x e : Addr} {o' : HO}
theorem HOk.write (ok : HOk P w H h) (mu : Mut (H x)) (he : e = x ∨ H e = some (.own x)) (k : ∀ b u, b ≠ e → h.get? b = some u → h'.get? b = some u) (heo : ∃ u, h'.get? e = some u)
    (new : ObjOk P w (upd H x o') h' x o') : HOk P w (upd H x o') h' := fun b u q => by
  have nown : ∀ c y, H c = some (.own y) → c ≠ x := fun c y r z => by subst z; rw [r] at mu; exact mu
  have ntup : ∀ c xs, H c = some (.tup xs) → c ≠ x := fun c xs r z => by subst z; rw [r] at mu; exact mu
  by_cases hb : b = x
  · subst hb; rw [upd_same] at q; cases q; exact new
  · rw [upd_ne hb] at q
    by_cases hbe : b = e
    · have q' : H b = some (.own x) := by
        rcases he with z | z
        · exact absurd (hbe.trans z) hb
        · rw [hbe]; exact z
      rw [q] at q'; cases q'
      obtain ⟨v, hv⟩ := heo
      exact ⟨v, by rw [hbe]; exact hv⟩
    · refine (ok b u q).stay (fun c v hc r => k c v ?_ r) (fun c r => by rw [upd_ne (nown c b r)]; exact r) fun c xs r => by rw [upd_ne (ntup c xs r)]; exact r
      rcases hc with rfl | hc
      · exact hbe
      · rintro rfl
        rcases he with z | z
        · exact nown c b hc z
        · rw [hc] at z; cases z; exact hb rfl
end
structure Un (fs ex : List Addr) (H H' : Hp) (h h' : Heap) : Prop where
  keep : ∀ b o, h.get? b = some o → H b = none → b ∉ fs → b ∉ ex → h'.get? b = some o
  slot : ∀ b o, h.get? b = some o → H b = none → b ∈ fs → b ∉ ex → ∃ sl, h'.get? b = some { o with slots := sl }
  free : ∀ b o, h.get? b = some o → H b = none → b ∉ ex → H' b = none
  there : ∀ b o, h.get? b = some o → b ∉ ex → ∃ o', h'.get? b = some o'
  tups : ∀ b xs, H b = some (.tup xs) → H' b = some (.tup xs)
  frzs : ∀ b o u, H b = some (.frz o u) → H' b = some (.frz o u)
  tbls : ∀ b ps, H b = some (.tbl ps) → ∃ more, H' b = some (.tbl (ps ++ more))
section
variable {fs fs' ex ex' : List Addr} {H H1 H2 : Hp} {h h1 h2 h' : Heap} {a x e : Addr} {o : HO}
theorem Un.any (u : Un fs ex H H1 h h1) {b : Addr} {ob : Obj} (q : h.get? b = some ob) (n : H b = none) (hx : b ∉ ex) : ∃ sl, h1.get? b = some { ob with slots := sl } := by
  by_cases hb : b ∈ fs
  · exact u.slot b ob q n hb hx
  · exact ⟨ob.slots, u.keep b ob q n hb hx⟩
theorem Un.kept (k : ∀ b u, h.get? b = some u → h'.get? b = some u) : Un fs ex H H h h' :=
  ⟨fun b ob q _ _ _ => k b ob q, fun b ob q _ _ _ => ⟨ob.slots, k b ob q⟩, fun _ _ _ n _ => n, fun b ob q _ => ⟨ob, k b ob q⟩, fun _ _ q => q, fun _ _ _ q => q, fun _ ps q => ⟨#[], by rw [q]; simp⟩⟩
theorem Un.refl : Un fs ex H H h h := Un.kept fun _ _ q => q
theorem Un.laid (k : ∀ b u, h.get? b = some u → h'.get? b = some u) (hp : h.objs.size ≤ a) (hn : H a = none) : Un fs ex H (upd H a o) h h' where
  keep := fun b u q _ _ _ => k b u q
  slot := fun b u q _ _ _ => ⟨u.slots, k b u q⟩
  free := fun b u q n _ => by rw [upd_ne (Nat.ne_of_lt (Nat.lt_of_lt_of_le (Heap.lt_size q) hp))]; exact n
  there := fun b u q _ => ⟨u, k b u q⟩
  tups := fun b xs q => by rw [upd_ne (ne_of_none q hn)]; exact q
  frzs := fun b u xs q => by rw [upd_ne (ne_of_none q hn)]; exact q
  tbls := fun b ps q => ⟨#[], by rw [upd_ne (ne_of_none q hn), q]; simp⟩
theorem Un.write (mu : Mut (H x)) (he : e = x ∨ H e = some (.own x)) (k : ∀ b u, b ≠ e → h.get? b = some u → h'.get? b = some u) (heo : ∃ u, h'.get? e = some u) : Un fs ex H (upd H x o) h h' := by
  have hx : ∀ b, H b = none → b ≠ x := fun b n z => by subst z; rw [n] at mu; exact mu
  have hb : ∀ b, H b = none → b ≠ e := fun b n z => by
    subst z
    rcases he with r | r
    · exact hx b n r
    · rw [n] at r; cases r
  have hm : ∀ b u, H b = some u → ¬ Mut (some u) → b ≠ x := fun b u q nm z => by subst z; rw [q] at mu; exact nm mu
  refine ⟨fun b u q n _ _ => k b u (hb b n) q, fun b u q n _ _ => ⟨u.slots, k b u (hb b n) q⟩, fun b u q n _ => by rw [upd_ne (hx b n)]; exact n, fun b u q _ => ?_,
    fun b xs q => by rw [upd_ne (hm b _ q fun z => z)]; exact q, fun b u xs q => by rw [upd_ne (hm b _ q fun z => z)]; exact q, fun b ps q => ⟨#[], by rw [upd_ne (hm b _ q fun z => z), q]; simp⟩⟩
  by_cases hbe : b = e
  · subst hbe; exact heo
  · exact ⟨u, k b u hbe q⟩
end
def trk (h : Heap) (H : Hp) : List Addr := (List.range h.objs.size).filter fun a => (H a).isSome
def hidT (h : Heap) (H : Hp) : Heap := PySem.W.hideAll h (trk h H)
theorem hidT_size (h : Heap) (H : Hp) : (hidT h H).objs.size = h.objs.size := PySem.W.hideAll_size _ _
theorem hidT_get {h : Heap} {H : Hp} {b : Addr} {o : Obj} (e : h.get? b = some o) (n : H b = none) : (hidT h H).get? b = some o :=
  PySem.W.hideAll_get _ e fun hm => by
    have q : (H b).isSome = true := (List.mem_filter.mp hm).2
    rw [n] at q; simp at q
theorem of_hidT {h : Heap} {H : Hp} {b : Addr} {o : Obj} (e : (hidT h H).get? b = some o) : h.get? b = some o ∧ H b = none := by
  have e' : h.get? b = some o := PySem.W.of_hideAll (trk h H) e
  refine ⟨e', ?_⟩
  cases q : H b with
  | none => rfl
  | some x =>
    have hm : b ∈ trk h H := List.mem_filter.mpr ⟨List.mem_range.mpr (Heap.lt_size e'), by simp [q]⟩
    have z : (hidT h H).get? b = none := PySem.W.hideAll_none (trk h H) hm
    rw [z] at e; cases e
end L2
namespace L2
open PySem PySem.Spec PyProof.Rows
structure Mod (K : PySem.W.Frag) (mg : Str → Option Value) (base : Heap) : Prop where
  kin : K.In base
  glob : base.Ns mainGlobals mg
  blt : ∃ mb, base.Ns builtinsNs mb ∧ ∀ x : Str, x ≠ "__name__" → mb x = bootBuiltins x
  nolimit : base.NoLimit
structure Cx where
  prog : Program
  w : World
  K : PySem.W.Frag
  mg : Str → Option Value
  base : Heap
  A : Around
  N : List Str
  s_0 : Shared
  H_0 : Hp
  env : Env
  outer : List Env
  stack : List Env
  ex : List Addr
  fn : Str → Bool
  calm : Bool
  pn : List (Addr × Obj)
  xe : Value → Shared → Prop
def frs (l : List Env) : List Addr := l.filterMap (·.frame)
abbrev Cx.fs (X : Cx) : List Addr := frs X.outer
def Vis (sc : Scope) (x : Str) : Prop := sc.names.lookup x = some .local ∨ sc.names.lookup x = some .cell ∨ sc.names.lookup x = some .free
def Loc (sc : Scope) (x : Str) : Prop := sc.names.lookup x = some .local ∨ sc.names.lookup x = some .cell
def Look (env : Env) (h : Heap) (m : Str → Option Value) (x : Str) (u : Value) : Prop :=
  (env.kindOf x = some .local ∧ m x = some u) ∨ ((env.kindOf x = some .cell ∨ env.kindOf x = some .free) ∧ ∃ c, env.cells.lookup x = some c ∧ h.IsCell c (some u))
structure Cx.Ok (X : Cx) : Prop where
  mod : Mod X.K X.mg X.base
  kind : X.env.scope.kind = .function
  glob : X.env.globals = mainGlobals
  blt : X.env.builtins = builtinsNs
  above : X.s_0.heap.objs.size ≤ X.env.locals
  inj : ∀ x y c, X.env.cells.lookup x = some c → X.env.cells.lookup y = some c → x = y
  has : ∀ x, (X.env.kindOf x = some .cell ∨ X.env.kindOf x = some .free) → ∃ c, X.env.cells.lookup x = some c
  cab : ∀ x c, X.fn x = true → X.env.cells.lookup x = some c → X.s_0.heap.objs.size ≤ c
  hd : X.calm = true → X.A.handled = none
  frames : X.A.frames = some X.stack
  stk : X.stack = X.outer ∨ (X.stack = X.env :: X.outer ∧ X.env.frame = some X.env.locals)
  exf : ∀ b ∈ X.ex, b ≠ X.env.locals ∧ ∀ x c, X.env.cells.lookup x = some c → c ≠ b
  bs : ∀ b o, X.base.get? b = some o → X.s_0.heap.get? b = some o ∧ X.H_0 b = none
  bsz : X.base.objs.size ≤ X.s_0.heap.objs.size
  noex : ∀ b o, X.base.get? b = some o → b ∉ X.ex
  exfs : ∀ b ∈ X.ex, b ∉ X.fs
  funs : X.s_0.heap.FunFrames X.base X.outer
  frf : ∀ b ∈ X.fs, X.H_0 b = none
structure Inv (X : Cx) (pins : List (Addr × Obj)) (σ : List (Option V)) (H : Hp) (s : Shared) : Prop where
  ok : X.Ok
  os : s.os = X.s_0.os
  bare : AllBare s.gens
  base : Un X.fs X.ex X.H_0 H X.s_0.heap s.heap
  loc : ∃ m, s.heap.Ns X.env.locals m ∧ ∀ (i : Nat) (x : Str) (v : V), X.N[i]? = some x → σ[i]? = some (some v) → Vis X.env.scope x → ∃ u, RelV v u ∧ Look X.env s.heap m x u
  cell : ∀ x c, X.env.cells.lookup x = some c → ∃ v, s.heap.IsCell c v
  free : H X.env.locals = none
  freeC : ∀ x c, X.env.cells.lookup x = some c → H c = none
  pin : ∀ p ∈ X.pn ++ pins, s.heap.get? p.1 = some p.2 ∧ H p.1 = none ∧ p.1 ≠ X.env.locals ∧ p.1 ∉ X.fs ∧ ∀ v, p.2.data ≠ .cell v
  hok : HOk X.prog X.w H s.heap
  len : σ.length = X.N.length
section
variable {X : Cx} {pins : List (Addr × Obj)} {σ : List (Option V)} {H H' : Hp} {s : Shared} {h' : Heap}
theorem Cx.Ok.nofr (ok : X.Ok) {b : Addr} {o : Obj} (e : X.base.get? b = some o) : b ∉ X.fs := fun hb => by
  have := (ok.funs.mem hb).1
  rw [e] at this; cases this
theorem Inv.bs (I : Inv X pins σ H s) : ∀ b o, X.base.get? b = some o → s.heap.get? b = some o ∧ H b = none := fun b o e =>
  ⟨I.base.keep b o (I.ok.bs b o e).1 (I.ok.bs b o e).2 (I.ok.nofr e) (I.ok.noex b o e), I.base.free b o (I.ok.bs b o e).1 (I.ok.bs b o e).2 (I.ok.noex b o e)⟩
theorem Inv.bk (I : Inv X pins σ H s) : ∀ b o, X.base.get? b = some o → s.heap.get? b = some o := fun b o e => (I.bs b o e).1
theorem Inv.mod (I : Inv X pins σ H s) : Mod X.K X.mg X.base := I.ok.mod
theorem Inv.kIn (I : Inv X pins σ H s) : X.K.In s.heap := I.ok.mod.kin.keeps I.bk
theorem Inv.lt (I : Inv X pins σ H s) : X.env.locals < s.heap.objs.size := let ⟨_, hn, _⟩ := I.loc; hn.lt
theorem Inv.sz (I : Inv X pins σ H s) : X.s_0.heap.objs.size ≤ s.heap.objs.size := Nat.le_trans I.ok.above (Nat.le_of_lt I.lt)
theorem Inv.nofs (I : Inv X pins σ H s) {a : Addr} (h : s.heap.objs.size ≤ a) : a ∉ X.fs := fun hb => by
  obtain ⟨_, o, ho, _⟩ := I.ok.funs.mem hb
  exact absurd (Nat.lt_of_lt_of_le (Heap.lt_size ho) (Nat.le_trans I.sz h)) (Nat.lt_irrefl _)
theorem Inv.cne (I : Inv X pins σ H s) : ∀ x c, X.env.cells.lookup x = some c → c ≠ X.env.locals := fun x c e z => by
  obtain ⟨v, o, ho, hd⟩ := I.cell x c e
  obtain ⟨m, ⟨o', es, ep, ho', hd', _⟩, _⟩ := I.loc
  rw [z, ho'] at ho; cases ho; rw [hd'] at hd; cases hd
theorem Inv.funs (I : Inv X pins σ H s) : s.heap.FunFrames X.base X.outer := by
  have all : ∀ (l : List Env), (∀ b ∈ frs l, b ∈ X.fs) → X.s_0.heap.FunFrames X.base l → s.heap.FunFrames X.base l := by
    intro l
    induction l with
    | nil => intro _ _; trivial
    | cons env r ih =>
      intro hs hl
      obtain ⟨hk, ⟨L, o, hf, hn, ho, hd⟩, hr⟩ := hl
      have hL : L ∈ X.fs := hs L (by unfold frs; rw [List.filterMap_cons, hf]; exact List.mem_cons_self)
      obtain ⟨sl, e⟩ := I.base.slot L o ho (I.ok.frf L hL) hL fun z => I.ok.exfs L z hL
      exact ⟨hk, ⟨L, _, hf, hn, e, hd⟩, ih (fun b hb => hs b (by unfold frs; rw [List.filterMap_cons, hf]; exact List.mem_cons_of_mem _ hb)) hr⟩
  exact all X.outer (fun _ hb => hb) I.ok.funs
theorem Inv.stack (I : Inv X pins σ H s) : s.heap.FunFrames X.base X.stack := by
  rcases I.ok.stk with e | ⟨e, hf⟩
  · rw [e]; exact I.funs
  · rw [e]
    obtain ⟨m, hn, _⟩ := I.loc
    refine .cons (by rw [I.ok.kind]; decide) hf hn ?_ I.funs
    exact Heap.get?_none_of_le (Nat.le_trans I.ok.bsz I.ok.above)
theorem Inv.stkSub (I : Inv X pins σ H s) : ∀ b ∈ frs X.stack, b ∈ X.env.locals :: X.fs := fun b hb => by
  rcases I.ok.stk with e | ⟨e, hf⟩
  · rw [e] at hb; exact List.mem_cons_of_mem _ hb
  · rw [e] at hb
    unfold frs at hb
    rw [List.filterMap_cons, hf] at hb
    exact hb
theorem Inv.stkFree (I : Inv X pins σ H s) : ∀ b ∈ frs X.stack, H b = none := fun b hb => by
  rcases List.mem_cons.mp (I.stkSub b hb) with e | hb
  · rw [e]; exact I.free
  · obtain ⟨_, o, ho, _⟩ := I.ok.funs.mem hb
    exact I.base.free b o ho (I.ok.frf b hb) fun z => I.ok.exfs b z hb
theorem Inv.step {g' : Array GenState} {t' : Nat} {d' : Drawn} {ch : List Addr} (I : Inv X pins σ H s)
    (hch : ∀ b ∈ ch, (b ∈ X.ex ∨ X.s_0.heap.objs.size ≤ b) ∧ b ≠ X.env.locals ∧ (∀ x c, X.env.cells.lookup x = some c → c ≠ b) ∧ ∀ p ∈ X.pn ++ pins, p.1 ≠ b)
    (keep : ∀ b o, b ≠ X.env.locals → b ∉ X.fs → b ∉ ch → s.heap.get? b = some o → H b = none → h'.get? b = some o)
    (slot : ∀ b o, b ≠ X.env.locals → b ∈ X.fs → b ∉ ch → s.heap.get? b = some o → H b = none → ∃ sl, h'.get? b = some { o with slots := sl }) (free : ∀ b o, b ∉ ch → s.heap.get? b = some o → H b = none → H' b = none)
    (there : ∀ b o, b ∉ ch → s.heap.get? b = some o → ∃ o', h'.get? b = some o')
    (tups : ∀ b xs, H b = some (.tup xs) → H' b = some (.tup xs)) (frzs : ∀ b o u, H b = some (.frz o u) → H' b = some (.frz o u)) (tbls : ∀ b ps, H b = some (.tbl ps) → ∃ more, H' b = some (.tbl (ps ++ more)))
    (ns : ∀ m, s.heap.Ns X.env.locals m → h'.Ns X.env.locals m) (hok : HOk X.prog X.w H' h') (hg : AllBare g') :
    Inv X pins σ H' { s with heap := h', gens := g', drawn := d', toks := t' } := by
  have neL : ∀ b o, X.s_0.heap.get? b = some o → b ≠ X.env.locals := fun b o e => Nat.ne_of_lt (Nat.lt_of_lt_of_le (Heap.lt_size e) I.ok.above)
  have neC : ∀ b o, X.s_0.heap.get? b = some o → b ∉ X.ex → b ∉ ch := fun b o e hx hb => by
    rcases (hch b hb).1 with z | z
    · exact hx z
    · exact absurd (Nat.lt_of_lt_of_le (Heap.lt_size e) z) (Nat.lt_irrefl _)
  have cellK : ∀ x c, X.env.cells.lookup x = some c → ∀ v, s.heap.IsCell c v → h'.IsCell c v := fun x c e v ⟨o, ho, hd⟩ => by
    have nch : c ∉ ch := fun z => (hch c z).2.2.1 x c e rfl
    by_cases hc : c ∈ X.fs
    · obtain ⟨sl, q⟩ := slot c o (I.cne x c e) hc nch ho (I.freeC x c e)
      exact ⟨_, q, hd⟩
    · exact ⟨o, keep c o (I.cne x c e) hc nch ho (I.freeC x c e), hd⟩
  refine ⟨I.ok, I.os, hg, ⟨fun b o e n hb hx => ?_, fun b o e n hb hx => ?_, fun b o e n hx => ?_, fun b o e hx => ?_, fun b xs e => tups b xs (I.base.tups b xs e), fun b o xs e => frzs b o xs (I.base.frzs b o xs e), fun b ps e => ?_⟩, ?_, fun x c e => ?_, ?_, fun x c e => ?_, fun p hp => ?_, hok, I.len⟩
  · exact keep b o (neL b o e) hb (neC b o e hx) (I.base.keep b o e n hb hx) (I.base.free b o e n hx)
  · obtain ⟨sl, e1⟩ := I.base.slot b o e n hb hx
    obtain ⟨sl', e2⟩ := slot b _ (neL b o e) hb (neC b o e hx) e1 (I.base.free b o e n hx)
    exact ⟨sl', e2⟩
  · obtain ⟨o', e1⟩ := I.base.there b o e hx
    exact free b o' (neC b o e hx) e1 (I.base.free b o e n hx)
  · obtain ⟨o', e1⟩ := I.base.there b o e hx
    exact there b o' (neC b o e hx) e1
  · obtain ⟨m1, e1⟩ := I.base.tbls b ps e
    obtain ⟨m2, e2⟩ := tbls b _ e1
    exact ⟨m1 ++ m2, by rw [e2, Array.append_assoc]⟩
  · obtain ⟨m, hn, hl⟩ := I.loc
    refine ⟨m, ns m hn, fun i x v e1 e2 e3 => ?_⟩
    obtain ⟨u, r, l⟩ := hl i x v e1 e2 e3
    refine ⟨u, r, ?_⟩
    rcases l with l | ⟨k, c, e, z⟩
    · exact .inl l
    · exact .inr ⟨k, c, e, cellK x c e _ z⟩
  · obtain ⟨v, z⟩ := I.cell x c e
    exact ⟨v, cellK x c e v z⟩
  · obtain ⟨m, ⟨o, _, _, ho, _⟩, _⟩ := I.loc
    exact free _ o (fun z => (hch _ z).2.1 rfl) ho I.free
  · obtain ⟨v, o, ho, hd⟩ := I.cell x c e
    exact free c o (fun z => (hch c z).2.2.1 x c e rfl) ho (I.freeC x c e)
  · obtain ⟨e, n, ne, nf, d⟩ := I.pin p hp
    have nch : p.1 ∉ ch := fun z => (hch p.1 z).2.2.2 p hp rfl
    exact ⟨keep p.1 p.2 ne nf nch e n, free p.1 p.2 nch e n, ne, nf, d⟩
theorem Inv.un {t' : Nat} (I : Inv X pins σ H s) (u : Un X.fs [] H H' s.heap h') (hok : HOk X.prog X.w H' h') : Inv X pins σ H' { s with heap := h', toks := t' } := by
  obtain ⟨m, ⟨o, es, ep, ho, r⟩, _⟩ := id I.loc
  obtain ⟨sl, hL⟩ := u.any ho I.free (by simp)
  exact I.step (g' := s.gens) (d' := s.drawn) (ch := []) (fun _ z => nomatch z) (fun b o _ hb _ e n => u.keep b o e n hb (by simp)) (fun b o _ hb _ e n => u.slot b o e n hb (by simp)) (fun b o _ e n => u.free b o e n (by simp)) (fun b o _ e => u.there b o e (by simp)) u.tups u.frzs u.tbls (fun m' hm => by
    obtain ⟨o', es', ep', ho', r'⟩ := hm
    rw [ho] at ho'; cases ho'
    exact ⟨_, es', ep', hL, r'⟩) hok I.bare
theorem Inv.call {g' : Array GenState} {t' : Nat} {d' : Drawn} {ch : List Addr} (I : Inv X pins σ H s) (u : Un (frs X.stack) ch H H' s.heap h') (hok : HOk X.prog X.w H' h') (hg : AllBare g')
    (hch : ∀ b ∈ ch, (b ∈ X.ex ∨ X.s_0.heap.objs.size ≤ b) ∧ b ≠ X.env.locals ∧ (∀ x c, X.env.cells.lookup x = some c → c ≠ b) ∧ ∀ p ∈ X.pn ++ pins, p.1 ≠ b) :
    Inv X pins σ H' { s with heap := h', gens := g', drawn := d', toks := t' } := by
  obtain ⟨m, ⟨o, es, ep, ho, r⟩, _⟩ := id I.loc
  obtain ⟨sl, hL⟩ := u.any ho I.free fun z => (hch _ z).2.1 rfl
  exact I.step (ch := ch) hch (fun b o hL hb hc e n => u.keep b o e n (fun z => (List.mem_cons.mp (I.stkSub b z)).elim hL hb) hc) (fun b o _ _ hc e n => u.any e n hc) (fun b o hc e n => u.free b o e n hc) (fun b o hc e => u.there b o e hc) u.tups u.frzs u.tbls (fun m' hm => by
    obtain ⟨o', es', ep', ho', r'⟩ := hm
    rw [ho] at ho'; cases ho'
    exact ⟨_, es', ep', hL, r'⟩) hok hg
theorem Inv.turned {t' : Nat} {it : Addr} (I : Inv X pins σ H s) (k : ∀ b o, b ≠ it → s.heap.get? b = some o → h'.get? b = some o) (hn : H it = none) (hL : it ≠ X.env.locals)
    (h1 : it ∈ X.ex ∨ X.s_0.heap.objs.size ≤ it) (h2 : ∀ x c, X.env.cells.lookup x = some c → c ≠ it) (h3 : ∀ p ∈ X.pn ++ pins, p.1 ≠ it) : Inv X pins σ H { s with heap := h', toks := t' } := by
  have nit : ∀ b u, H b = some u → b ≠ it := fun b u e z => by rw [z, hn] at e; cases e
  refine I.step (g' := s.gens) (d' := s.drawn) (ch := [it]) (fun b hb => ?_) (fun b o _ _ hc e _ => k b o (fun z => hc (by simp [z])) e) (fun b o _ _ hc e _ => ⟨o.slots, k b o (fun z => hc (by simp [z])) e⟩) (fun _ _ _ _ n => n)
    (fun b o hc e => ⟨o, k b o (fun z => hc (by simp [z])) e⟩) (fun _ _ e => e) (fun _ _ _ e => e) (fun b ps e => ⟨#[], by rw [e]; simp⟩) (fun m hm => ?_) (fun b u e => ?_) I.bare
  · have e : b = it := by simpa using hb
    subst e
    exact ⟨h1, hL, h2, h3⟩
  · obtain ⟨o, es, ep, ho, r⟩ := hm
    exact ⟨o, es, ep, k _ o (Ne.symm hL) ho, r⟩
  · refine (I.hok b u e).stay (fun c v hc q => k c v ?_ q) (fun _ q => q) fun _ _ q => q
    rcases hc with z | z
    · rw [z]; exact nit b u e
    · exact nit c _ z
theorem Inv.tok (I : Inv X pins σ H s) (t : Nat) : Inv X pins σ H { s with toks := t } := I.un (h' := s.heap) (t' := t) Un.refl I.hok
theorem Inv.kept {t' : Nat} (I : Inv X pins σ H s) (k : ∀ b u, s.heap.get? b = some u → h'.get? b = some u) : Inv X pins σ H { s with heap := h', toks := t' } := I.un (Un.kept k) (I.hok.kept k)
theorem Inv.laid {a : Addr} {o : HO} {t' : Nat} (I : Inv X pins σ H s) (k : ∀ b u, s.heap.get? b = some u → h'.get? b = some u) (hp : s.heap.objs.size ≤ a) (new : ObjOk X.prog X.w (upd H a o) h' a o) :
    Inv X pins σ (upd H a o) { s with heap := h', toks := t' } := I.un (Un.laid k hp (I.hok.fresh hp)) (I.hok.laid k hp new)
theorem Inv.write {x e : Addr} {o : HO} {t' : Nat} (I : Inv X pins σ H s) (mu : Mut (H x)) (he : e = x ∨ H e = some (.own x)) (k : ∀ b u, b ≠ e → s.heap.get? b = some u → h'.get? b = some u) (heo : ∃ u, h'.get? e = some u)
    (new : ObjOk X.prog X.w (upd H x o) h' x o) : Inv X pins σ (upd H x o) { s with heap := h', toks := t' } := I.un (Un.write mu he k heo) (I.hok.write mu he k heo new)
theorem Inv.weak {σ' : List (Option V)} (I : Inv X pins σ H s) (hl : σ'.length = σ.length) (w : ∀ (i : Nat) v, σ'[i]? = some (some v) → σ[i]? = some (some v)) : Inv X pins σ' H s :=
  ⟨I.ok, I.os, I.bare, I.base, let ⟨m, hn, hl'⟩ := I.loc; ⟨m, hn, fun i x v e1 e2 e3 => hl' i x v e1 (w i v e2) e3⟩, I.cell, I.free, I.freeC, I.pin, I.hok, hl.trans I.len⟩
theorem Inv.pins_of {pins' : List (Addr × Obj)} (I : Inv X pins σ H s) (h : ∀ p ∈ pins', s.heap.get? p.1 = some p.2 ∧ H p.1 = none ∧ p.1 ≠ X.env.locals ∧ p.1 ∉ X.fs ∧ ∀ v, p.2.data ≠ .cell v) : Inv X pins' σ H s :=
  ⟨I.ok, I.os, I.bare, I.base, I.loc, I.cell, I.free, I.freeC, fun p hp => (List.mem_append.mp hp).elim (fun z => I.pin p (List.mem_append_left _ z)) (h p), I.hok, I.len⟩
theorem nodup_ix {N : List Str} (hN : N.Nodup) {i j : Nat} {x : Str} (a : N[i]? = some x) (b : N[j]? = some x) : i = j := by
  obtain ⟨h1, e1⟩ := List.getElem?_eq_some_iff.mp a
  obtain ⟨h2, e2⟩ := List.getElem?_eq_some_iff.mp b
  exact (List.getElem_inj hN).mp (e1.trans e2.symm)
theorem store_ok2 {M : Model} {A : Around} {E : Value → Shared → Prop} {i : Nat} {x : Str} {v : V} {u : Value} {Q : Unit → Shared → Prop} (I : Inv X pins σ H s) (hN : X.N.Nodup) (hi : X.N[i]? = some x) (hx : Loc X.env.scope x) (r : RelV v u)
    (h : ∀ s', Inv X pins (σ.set i (some v)) H s' → (∃ a, Heap.SameBut a s.heap s'.heap ∧ (a = X.env.locals ∨ X.env.cells.lookup x = some a)) → Q () s') (hf : X.fn x = true ∨ X.env.scope.names.lookup x = some .local := by first | exact .inl rfl | exact .inr rfl | assumption) : wpAny M A (storeName X.env x u) Q E s := by
  obtain ⟨m, hn, hl⟩ := id I.loc
  have hcls : (X.env.scope.kind == .class || (X.env.scope.kind == .module && X.env.locals != X.env.globals)) = false := by rw [I.ok.kind]; rfl
  have hiσ : i < σ.length := by rw [I.len]; exact (List.getElem?_eq_some_iff.mp hi).1
  have cne := I.cne
  have tracked : ∀ {a : Addr} {h' : Heap}, (∃ o, s.heap.get? a = some o ∧ H a = none) → Heap.SameBut a s.heap h' → HOk X.prog X.w H h' := fun {a h'} ha hs b ob e => by
    obtain ⟨_, _, hfree⟩ := ha
    refine (I.hok b ob e).stay (fun c w' hc q => (hs.2 c ?_).trans q) (fun _ q => q) fun _ _ q => q
    rintro rfl
    rcases hc with rfl | hc
    · rw [hfree] at e; cases e
    · rw [hfree] at hc; cases hc
  rcases hx with hk | hk
  · refine wpAny_storeName_local hk hn (fun h' hn' hs => ?_) hcls
    obtain ⟨oL, _, _, hoL, _⟩ := id hn
    refine h _ ⟨I.ok, I.os, I.bare, ⟨fun b o e n hb hx => ?_, fun b o e n hb hx => ?_, I.base.free, fun b o e hx => ?_, I.base.tups, I.base.frzs, I.base.tbls⟩, ⟨_, hn', fun j y v' e1 e2 e3 => ?_⟩, fun y c e => ?_, I.free, I.freeC, fun p hp => ?_, tracked ⟨oL, hoL, I.free⟩ hs, by simpa using I.len⟩ ⟨_, hs, .inl rfl⟩
    · exact (hs.2 b (Nat.ne_of_lt (Nat.lt_of_lt_of_le (Heap.lt_size e) I.ok.above))).trans (I.base.keep b o e n hb hx)
    · obtain ⟨sl, e1⟩ := I.base.slot b o e n hb hx
      exact ⟨sl, (hs.2 b (Nat.ne_of_lt (Nat.lt_of_lt_of_le (Heap.lt_size e) I.ok.above))).trans e1⟩
    · obtain ⟨o', e1⟩ := I.base.there b o e hx
      exact ⟨o', (hs.2 b (Nat.ne_of_lt (Nat.lt_of_lt_of_le (Heap.lt_size e) I.ok.above))).trans e1⟩
    · by_cases hj : j = i
      · subst hj
        rw [hi] at e1; cases e1
        rw [List.getElem?_set_self hiσ] at e2
        cases e2
        exact ⟨u, r, .inl ⟨hk, by simp⟩⟩
      · rw [List.getElem?_set_ne (Ne.symm hj)] at e2
        obtain ⟨u', r', q⟩ := hl j y v' e1 e2 e3
        refine ⟨u', r', ?_⟩
        rcases q with ⟨k, e⟩ | ⟨k, c, e, z⟩
        · refine .inl ⟨k, ?_⟩
          have : y ≠ x := fun e => hj (nodup_ix hN e1 (e ▸ hi))
          simp [this, e]
        · exact .inr ⟨k, c, e, z.sameBut hs (cne y c e)⟩
    · obtain ⟨w', z⟩ := I.cell y c e
      exact ⟨w', z.sameBut hs (cne y c e)⟩
    · obtain ⟨e, n, ne, nf, d⟩ := I.pin p hp
      exact ⟨(hs.2 p.1 ne).trans e, n, ne, nf, d⟩
  · have hfn : X.fn x = true := by
      rcases hf with z | z
      · exact z
      · rw [z] at hk; cases hk
    obtain ⟨c, hc⟩ := I.ok.has x (.inl hk)
    obtain ⟨w', z⟩ := I.cell x c hc
    refine wpAny_storeName_cell I.ok.kind hk hc z (fun h' hc' hs => ?_)
    obtain ⟨oc, hoc, hocd⟩ := id z
    refine h { s with heap := h' } ⟨I.ok, I.os, I.bare, ⟨fun b o e n hb hx => ?_, fun b o e n hb hx => ?_, I.base.free, fun b o e hx => ?_, I.base.tups, I.base.frzs, I.base.tbls⟩, ⟨m, hn.sameBut hs (Ne.symm (cne x c hc)), fun j y v' e1 e2 e3 => ?_⟩, fun y c' e => ?_, I.free, I.freeC, fun p hp => ?_, tracked ⟨oc, hoc, I.freeC x c hc⟩ hs, by simpa using I.len⟩ ⟨c, hs, .inr hc⟩
    · exact (hs.2 b (Nat.ne_of_lt (Nat.lt_of_lt_of_le (Heap.lt_size e) (I.ok.cab x c hfn hc)))).trans (I.base.keep b o e n hb hx)
    · obtain ⟨sl, e1⟩ := I.base.slot b o e n hb hx
      exact ⟨sl, (hs.2 b (Nat.ne_of_lt (Nat.lt_of_lt_of_le (Heap.lt_size e) (I.ok.cab x c hfn hc)))).trans e1⟩
    · obtain ⟨o', e1⟩ := I.base.there b o e hx
      exact ⟨o', (hs.2 b (Nat.ne_of_lt (Nat.lt_of_lt_of_le (Heap.lt_size e) (I.ok.cab x c hfn hc)))).trans e1⟩
    · by_cases hj : j = i
      · subst hj
        rw [hi] at e1; cases e1
        rw [List.getElem?_set_self hiσ] at e2
        cases e2
        exact ⟨u, r, .inr ⟨.inl hk, c, hc, hc'⟩⟩
      · rw [List.getElem?_set_ne (Ne.symm hj)] at e2
        obtain ⟨u', r', q⟩ := hl j y v' e1 e2 e3
        refine ⟨u', r', ?_⟩
        rcases q with q | ⟨k, c', e, z'⟩
        · exact .inl q
        · refine .inr ⟨k, c', e, z'.sameBut hs ?_⟩
          rintro rfl
          exact hj (nodup_ix hN e1 (I.ok.inj _ _ _ e hc ▸ hi))
    · by_cases hcc : c' = c
      · subst hcc; exact ⟨_, hc'⟩
      · obtain ⟨w2, z2⟩ := I.cell y c' e
        exact ⟨w2, z2.sameBut hs hcc⟩
    · obtain ⟨e, n, ne, nf, d⟩ := I.pin p hp
      refine ⟨(hs.2 p.1 ?_).trans e, n, ne, nf, d⟩
      intro q
      rw [q, hoc] at e
      have q' : oc = p.2 := Option.some.inj e
      exact d w' (by rw [← q']; exact hocd)
theorem store_ok {M : Model} {A : Around} {E : Value → Shared → Prop} {i : Nat} {x : Str} {v : V} {u : Value} {Q : Unit → Shared → Prop} (I : Inv X pins σ H s) (hN : X.N.Nodup) (hi : X.N[i]? = some x) (hx : Loc X.env.scope x) (r : RelV v u)
    (h : ∀ s', Inv X pins (σ.set i (some v)) H s' → Q () s') (hf : X.fn x = true ∨ X.env.scope.names.lookup x = some .local := by first | exact .inl rfl | exact .inr rfl | assumption) : wpAny M A (storeName X.env x u) Q E s :=
  store_ok2 I hN hi hx r (fun s' I' _ => h s' I') hf
theorem Inv.call' {s' : Shared} {ch : List Addr} (I : Inv X pins σ H s) (ho : s'.os = s.os) (u : Un (frs X.stack) ch H H' s.heap s'.heap) (hok : HOk X.prog X.w H' s'.heap) (hg : AllBare s'.gens)
    (hch : ∀ b ∈ ch, (b ∈ X.ex ∨ X.s_0.heap.objs.size ≤ b) ∧ b ≠ X.env.locals ∧ (∀ x c, X.env.cells.lookup x = some c → c ≠ b) ∧ ∀ p ∈ X.pn ++ pins, p.1 ≠ b) : Inv X pins σ H' s' := by
  obtain ⟨h', g', d', t', o'⟩ := s'
  have e : o' = s.os := ho
  subst e
  exact I.call (g' := g') (t' := t') (d' := d') u hok hg hch
end
abbrev XK := Value → Option Addr → Hp → Prop
abbrev St := List (Option V)
abbrev VK := V → Hp → Prop
abbrev TE := St → Hp → VK → Prop
abbrev TT := St → Hp → (Bool → Hp → Prop) → Prop
abbrev TA := St → Hp → (List V → Hp → Prop) → Prop
structure Ends where
  nx : St → Hp → Prop
  rt : VK
  bk : St → Hp → Prop := fun _ _ => False
  ct : St → Hp → Prop := fun _ _ => False
abbrev TS := Ends → St → Hp → Prop
def EP (X : Cx) (pins : List (Addr × Obj)) (σ : St) (Q : VK) (u : Value) (s' : Shared) : Prop := ∃ v H', Inv X pins σ H' s' ∧ RelV v u ∧ Q v H'
def TP (X : Cx) (pins : List (Addr × Obj)) (σ : St) (Q : Bool → Hp → Prop) (b : Bool) (s' : Shared) : Prop := ∃ H', Inv X pins σ H' s' ∧ Q b H'
def AP (X : Cx) (pins : List (Addr × Obj)) (σ : St) (Q : List V → Hp → Prop) (us : List Value) (s' : Shared) : Prop := ∃ vs H', Inv X pins σ H' s' ∧ Vals vs us ∧ Q vs H'
def SP (X : Cx) (pins : List (Addr × Obj)) (D : Ends) (f : Flow) (s' : Shared) : Prop :=
  match f with
  | .next => ∃ σ' H', Inv X pins σ' H' s' ∧ D.nx σ' H'
  | .brk => ∃ σ' H', Inv X pins σ' H' s' ∧ D.bk σ' H'
  | .cont => ∃ σ' H', Inv X pins σ' H' s' ∧ D.ct σ' H'
  | .ret u => ∃ v σ' H', Inv X pins σ' H' s' ∧ RelV v u ∧ D.rt v H'
def PE (X : Cx) (e : Expr) (t : TE) : Prop :=
  ∀ (pins : List (Addr × Obj)) (s : Shared) (σ : St) (H : Hp) (Q : VK), Inv X pins σ H s → t σ H Q → wpAny (model X.prog X.w) X.A (eval e X.env) (EP X pins σ Q) X.xe s
def PT (X : Cx) (e : Expr) (t : TT) : Prop :=
  ∀ (pins : List (Addr × Obj)) (s : Shared) (σ : St) (H : Hp) (Q : Bool → Hp → Prop), Inv X pins σ H s → t σ H Q → wpAny (model X.prog X.w) X.A (isTrue e X.env (eval e X.env)) (TP X pins σ Q) X.xe s
def PW (X : Cx) (e : Expr) (t : TT) : Prop :=
  ∀ (whole : Sem Value) (pins : List (Addr × Obj)) (s : Shared) (σ : St) (H : Hp) (Q : Bool → Hp → Prop), Inv X pins σ H s → t σ H Q → wpAny (model X.prog X.w) X.A (isTrue e X.env whole) (TP X pins σ Q) X.xe s
theorem PW.pt {X : Cx} {e : Expr} {t : TT} (h : PW X e t) : PT X e t := h _
def PA (X : Cx) (es : List Expr) (t : TA) : Prop :=
  ∀ (pos : Pos) (pins : List (Addr × Obj)) (s : Shared) (σ : St) (H : Hp) (Q : List V → Hp → Prop), Inv X pins σ H s → t σ H Q → wpAny (model X.prog X.w) X.A (spliced (backTo pos (starEach es X.env))) (AP X pins σ Q) X.xe s
def PS (X : Cx) (st : Stmt) (t : TS) : Prop :=
  ∀ (pins : List (Addr × Obj)) (s : Shared) (σ : St) (H : Hp) (D : Ends), Inv X pins σ H s → t D σ H → wpAny (model X.prog X.w) X.A (exec st X.env) (SP X pins D) X.xe s
def PSs (X : Cx) (st : List Stmt) (t : TS) : Prop :=
  ∀ (pins : List (Addr × Obj)) (s : Shared) (σ : St) (H : Hp) (D : Ends), Inv X pins σ H s → t D σ H → wpAny (model X.prog X.w) X.A (execs st X.env) (SP X pins D) X.xe s
theorem thn {α : Type} {t : Sem α} {Q Q' : α → Shared → Prop} {M : Model} {A : Around} {E : Value → Shared → Prop} {s : Shared} (h : wpAny M A t Q E s) (hQ : ∀ a s, Q a s → Q' a s) : wpAny M A t Q' E s := wpAny_mono h hQ fun _ _ x => x
end L2
namespace L2
open PySem PySem.Spec PyProof.Rows
section
variable {X : Cx}
def tVar (i : Nat) : TE := fun σ H Q => ∃ v, σ[i]? = some (some v) ∧ Q v H
def tC (v : V) : TE := fun _ H Q => Q v H
theorem pe_var {i : Nat} {x : Str} {pos : Pos} (hN : X.N[i]? = some x) (hv : Vis X.env.scope x) (hd : (x == ("__debug__" : Str)) = false := by decide) (hcd : (x == ("__classdict__" : Str)) = false := by decide) : PE X (.Name x pos) (tVar i) := by
  intro pins s σ H Q I h
  obtain ⟨v, e, h⟩ := h
  obtain ⟨m, hn, hl⟩ := I.loc
  obtain ⟨u, r, l⟩ := hl i x v hN e hv
  have fin : EP X pins σ Q u s := ⟨v, H, I, r, h⟩
  rcases l with ⟨hk, hm⟩ | ⟨hk, c, hc, hcell⟩
  · exact wpAny_Name (wpAny_loadName_local I.ok.kind hk hn hm fin) hd
  · rcases hk with hk | hk
    · exact wpAny_Name (wpAny_loadName_cell I.ok.kind hk hc hcell fin) hd
    · exact wpAny_Name (wpAny_loadName_free I.ok.kind hk hc hcell fin hcd) hd
theorem pe_int {i j pos} : PE X (.Constant (.int i) j pos) (tC (.int i)) := fun _ _ _ H _ I h => wpAny_Constant_int ⟨.int i, H, I.tok _, ⟨_, rfl⟩, h⟩
theorem pe_bl {b j pos} : PE X (.Constant (.bool b) j pos) (tC (.bl b)) := fun _ _ _ H _ I h => Constant_bool ⟨.bl b, H, I, rfl, h⟩
def Gl (X : Cx) (x : Str) : Prop := X.env.kindOf x = some .globalImplicit
theorem ld_glob {E : Value → Shared → Prop} {pins : List (Addr × Obj)} {s : Shared} {σ : St} {H : Hp} {x : Str} {u : Value} {pos : Pos} {Q : Value → Shared → Prop} (I : Inv X pins σ H s) (hg : Gl X x) (hm : X.mg x = some u) (h : Q u s)
    (hd : (x == ("__debug__" : Str)) = false := by decide) : wpAny (model X.prog X.w) X.A (eval (.Name x pos) X.env) Q E s :=
  Calls.Name_function_global I.ok.kind hg (Calls.loadGlobal_global (by rw [I.ok.glob]; exact I.mod.glob.keeps I.bk) hm h) hd
theorem ld_blt {E : Value → Shared → Prop} {pins : List (Addr × Obj)} {s : Shared} {σ : St} {H : Hp} {x : Str} {u : Value} {pos : Pos} {Q : Value → Shared → Prop} (I : Inv X pins σ H s) (hg : Gl X x) (hm : X.mg x = none) (hv : bootBuiltins x = some u) (h : Q u s)
    (hn : x ≠ "__name__" := by decide) (hd : (x == ("__debug__" : Str)) = false := by decide) : wpAny (model X.prog X.w) X.A (eval (.Name x pos) X.env) Q E s := by
  obtain ⟨mb, h1, h2⟩ := I.mod.blt
  exact Calls.Name_function_global I.ok.kind hg (Calls.loadGlobal_builtin (by rw [I.ok.glob]; exact I.mod.glob.keeps I.bk) hm (by rw [I.ok.blt]; exact h1.keeps I.bk) ((h2 x hn).trans hv) h) hd
variable {a b : Expr} {ta tb : TE} {pos : Pos}
def tB (t : TE) : TT := fun σ H Q => t σ H fun x H1 => ∃ c, x = .bl c ∧ Q c H1
theorem pt_val {e : Expr} {t : TE} (h : PE X e t) (he : ∀ whole, isTrue e X.env whole = (do let v ← whole; standAt e.pos; holding [v] (truthy v)) := by intro _; rfl) : PT X e (tB t) := by
  intro pins s σ H Q I hw
  refine isTrue_plain (thn (h pins s σ H _ I hw) fun v s1 ⟨x, H1, I1, r1, q1⟩ => ?_) (he _)
  obtain ⟨d, rfl, q⟩ := q1
  cases r1
  exact wpAny_truthy_bool ⟨H1, I1, q⟩
variable {tA tB' : TT} {rest : List Expr}
def tOr (t u : TT) : TT := fun σ H Q => t σ H fun c H1 => if c = true then Q true H1 else u σ H1 Q
def tNot (t : TT) : TT := fun σ H Q => t σ H fun c H1 => Q (!c) H1
theorem pw_or1 (ha : PT X a tA) : PW X (.BoolOp .Or [a] pos) tA := by
  intro wh pins s σ H Q I h
  refine isTrue_or (thn (ha pins s σ H Q I h) fun c s1 e => ?_)
  cases c with
  | false => exact isTrue_or_nil e
  | true => exact e
theorem pw_or (ha : PT X a tA) (hb : PW X (.BoolOp .Or (b :: rest) pos) tB') : PW X (.BoolOp .Or (a :: b :: rest) pos) (tOr tA tB') := by
  intro wh pins s σ H Q I h
  refine isTrue_or (thn (ha pins s σ H _ I h) fun c s1 ⟨H1, I1, q1⟩ => ?_)
  cases c with
  | true => exact ⟨H1, I1, q1⟩
  | false => exact hb wh pins s1 σ H1 Q I1 q1
theorem pt_not (ha : PT X a tA) : PT X (.UnaryOp .Not a pos) (tNot tA) := by
  intro pins s σ H Q I h
  exact isTrue_not (ha pins s σ H (fun c H1 => Q (!c) H1) I h)
def tAndV (ta tb : TE) : TE := fun σ H Q => ta σ H fun x H1 => ∃ c, x = .bl c ∧ if c = true then tb σ H1 Q else Q (.bl false) H1
def tNotV (ta : TE) : TE := fun σ H Q => ta σ H fun x H1 => ∃ c, x = .bl c ∧ Q (.bl (!c)) H1
theorem pe_one {op} {t : TE} (h : PE X a t) : PE X (.BoolOp op [a] pos) t := fun pins s σ H Q I hw => BoolOp_one (h pins s σ H Q I hw)
theorem pe_and (ha : PE X a ta) (hb : PE X (.BoolOp .And (b :: rest) pos) tb) : PE X (.BoolOp .And (a :: b :: rest) pos) (tAndV ta tb) := by
  intro pins s σ H Q I h
  refine BoolOp_and (thn (ha pins s σ H _ I h) fun v s1 ⟨x, H1, I1, r1, q1⟩ => ?_)
  obtain ⟨c, rfl, q1⟩ := q1
  cases r1
  refine wpAny_truthy_bool ?_
  cases c with
  | true => exact hb pins s1 σ H1 Q I1 q1
  | false => exact ⟨.bl false, H1, I1, rfl, q1⟩
theorem pe_not (ha : PE X a ta) : PE X (.UnaryOp .Not a pos) (tNotV ta) := by
  intro pins s σ H Q I h
  refine UnaryOp_ (thn (ha pins s σ H _ I h) fun v s1 ⟨x, H1, I1, r1, q1⟩ => ?_)
  obtain ⟨c, rfl, q1⟩ := q1
  cases r1
  exact not_of (wpAny_truthy_bool ⟨.bl (!c), H1, I1, rfl, q1⟩)
end
end L2
namespace L2
open PySem PySem.Spec PyProof.Rows
def SqL (K : PySem.W.Frag) (H : Hp) (a : Addr) (xs : List V) : Prop :=
  Rd H a (.lst xs) ∨
    ∃ (o : Obj) (its : Array Value) (n : Nat), K.lookup a = some o ∧ o.cls = .type "list" ∧ o.dict = none ∧ o.data = .seq its n ∧ its.size ≤ sizeLine ∧ Vals xs its.toList
def SqT (K : PySem.W.Frag) (H : Hp) (a : Addr) (xs : List V) : Prop :=
  Rd H a (.tup xs) ∨
    ∃ (o : Obj) (its : Array Value) (n : Nat), K.lookup a = some o ∧ o.cls = .type "tuple" ∧ o.data = .seq its n ∧ its.size ≤ sizeLine ∧ Vals xs its.toList
def absV : Value → Option V
  | .none => some .non
  | .bool b => some (.bl b)
  | .int i _ => some (.int i)
  | .str x _ => some (.str x)
  | .bytes b _ => some (.byt b)
  | .float b _ => some (.flt b)
  | .ref a => some (.ref a)
  | .type n => some (.ty n)
  | _ => none
theorem RelV.abs {x : V} {u : Value} (r : RelV x u) : absV u = some x := by
  cases x with
  | non => cases r; rfl
  | bl _ => cases r; rfl
  | int _ => obtain ⟨t, rfl⟩ := r; rfl
  | str _ => obtain ⟨t, rfl⟩ := r; rfl
  | byt _ => obtain ⟨t, rfl⟩ := r; rfl
  | flt _ => obtain ⟨t, rfl⟩ := r; rfl
  | ref _ => cases r; rfl
  | ty _ => cases r; rfl
theorem RelV.inj {x y : V} {u : Value} (r : RelV x u) (q : RelV y u) : x = y := Option.some.inj (r.abs.symm.trans q.abs)
theorem Vals.inj : ∀ {xs ys : List V} {us : List Value}, Vals xs us → Vals ys us → xs = ys
  | _, _, _, .nil, .nil => rfl
  | _, _, _, .cons r t, .cons r' t' => by rw [r.inj r', Vals.inj t t']
section
variable {X : Cx} {pins : List (Addr × Obj)} {σ : St} {H : Hp} {s : Shared} {a : Addr} {xs ys : List V}
theorem SqL.of {K : PySem.W.Frag} (h : H a = some (.lst xs)) : SqL K H a xs := .inl (.inl h)
theorem Inv.list (I : Inv X pins σ H s) (h : SqL X.K H a xs) : ∃ its : List Value, Vals xs its ∧ PlainL s.heap a its.toArray ∧ xs.length ≤ sizeLine := by
  rcases h with h | ⟨o, its, n, hk, hc, hd, hs, hz, r⟩
  · obtain ⟨z, its, n, r, e⟩ := h.ok I.hok
    exact ⟨its, r, ⟨_, n, e, rfl, rfl, rfl⟩, z⟩
  · refine ⟨its.toList, r, ⟨o, n, I.kIn a o hk, hc, hd, by simpa using hs⟩, ?_⟩
    have e := r.length
    simp only [Array.length_toList] at e
    omega
theorem Inv.tuple (I : Inv X pins σ H s) (h : SqT X.K H a xs) : ∃ its : List Value, Vals xs its ∧ IsTup s.heap a its.toArray ∧ xs.length ≤ sizeLine := by
  rcases h with h | ⟨o, its, n, hk, hc, hs, hz, r⟩
  · obtain ⟨z, its, r, p⟩ := h.ok I.hok
    exact ⟨its, r, p, z⟩
  · refine ⟨its.toList, r, ⟨o, I.kIn a o hk, hc, n, by simpa using hs⟩, ?_⟩
    have e := r.length
    simp only [Array.length_toList] at e
    omega
theorem Inv.list_inj (I : Inv X pins σ H s) (h : SqL X.K H a xs) (h' : SqL X.K H a ys) : xs = ys := by
  obtain ⟨its, r, ⟨o, n, e, _, _, d⟩, _⟩ := I.list h
  obtain ⟨its', r', ⟨o', n', e', _, _, d'⟩, _⟩ := I.list h'
  rw [e] at e'; cases e'
  rw [d] at d'
  injection d' with d1 _
  have : its = its' := by simpa using congrArg Array.toList d1
  subst this
  exact r.inj r'
end
abbrev Cx.wish (X : Cx) (E : Value → Shared → Prop) : Cx := { X with xe := E }
abbrev Cx.nox (X : Cx) : Cx := X.wish fun _ _ => False
theorem Cx.Ok.wish {X : Cx} (ok : X.Ok) (E : Value → Shared → Prop) : (X.wish E).Ok :=
  ⟨ok.mod, ok.kind, ok.glob, ok.blt, ok.above, ok.inj, ok.has, ok.cab, ok.hd, ok.frames, ok.stk, ok.exf, ok.bs, ok.bsz, ok.noex, ok.exfs, ok.funs, ok.frf⟩
theorem Cx.Ok.unwish {X : Cx} {E : Value → Shared → Prop} (ok : (X.wish E).Ok) : X.Ok :=
  ⟨ok.mod, ok.kind, ok.glob, ok.blt, ok.above, ok.inj, ok.has, ok.cab, ok.hd, ok.frames, ok.stk, ok.exf, ok.bs, ok.bsz, ok.noex, ok.exfs, ok.funs, ok.frf⟩
section
variable {X : Cx} {pins : List (Addr × Obj)} {σ : St} {H : Hp} {s : Shared} {E : Value → Shared → Prop}
theorem Inv.wish (I : Inv X pins σ H s) (E : Value → Shared → Prop) : Inv (X.wish E) pins σ H s := ⟨I.ok.wish E, I.os, I.bare, I.base, I.loc, I.cell, I.free, I.freeC, I.pin, I.hok, I.len⟩
theorem Inv.unwish (I : Inv (X.wish E) pins σ H s) : Inv X pins σ H s := ⟨I.ok.unwish, I.os, I.bare, I.base, I.loc, I.cell, I.free, I.freeC, I.pin, I.hok, I.len⟩
theorem SP.unwish {D : Ends} {f : Flow} {s' : Shared} (h : SP (X.wish E) pins D f s') : SP X pins D f s' := by
  cases f with
  | next => obtain ⟨σ', H', I, q⟩ := h; exact ⟨σ', H', I.unwish, q⟩
  | brk => obtain ⟨σ', H', I, q⟩ := h; exact ⟨σ', H', I.unwish, q⟩
  | cont => obtain ⟨σ', H', I, q⟩ := h; exact ⟨σ', H', I.unwish, q⟩
  | ret u => obtain ⟨v, σ', H', I, r, q⟩ := h; exact ⟨v, σ', H', I.unwish, r, q⟩
theorem PSs.nox {st : List Stmt} {t : TS} (h : PSs X.nox st t) : PSs X st t := fun pins s σ H D I hw =>
  wpAny_mono (h pins s σ H D (I.wish _) hw) (fun _ _ q => q.unwish) fun _ _ z => False.elim z
end
section
variable {X : Cx} {st : Stmt} {rest : List Stmt} {t u : TS} {e : Expr} {te : TE} {pos : Pos}
def tNext : TS := fun D σ H => D.nx σ H
def tSeq (t u : TS) : TS := fun D σ H => t { D with nx := u D } σ H
theorem pss_nil : PSs X [] tNext := fun _ _ σ H _ I h => wpAny_execs_nil ⟨σ, H, I, h⟩
theorem pss_cons (h1 : PS X st t) (h2 : PSs X rest u) : PSs X (st :: rest) (tSeq t u) := by
  intro pins s σ H D I h
  refine wpAny_execs_cons (thn (h1 pins s σ H { D with nx := u D } I h) fun f s1 q => ?_)
  cases f with
  | next =>
    obtain ⟨σ', H', I', q⟩ := q
    exact h2 pins s1 σ' H' D I' q
  | ret v => exact q
  | brk => exact q
  | cont => exact q
theorem pss_one (h1 : PS X st t) : PSs X [st] t := by
  intro pins s σ H D I h
  refine wpAny_execs_cons (thn (h1 pins s σ H D I h) fun f s1 q => ?_)
  cases f with
  | next => exact wpAny_execs_nil q
  | ret v => exact q
  | brk => exact q
  | cont => exact q
theorem Inv.quiet {pins : List (Addr × Obj)} {σ : St} {H : Hp} {s : Shared} (I : Inv X pins σ H s) : interactive X.env = false := by simp [interactive, I.ok.kind]
def tDrop (te : TE) : TS := fun D σ H => te σ H fun _ H1 => D.nx σ H1
theorem ps_expr (he : PE X e te) (hs : swapsWith e none pos.line X.env = pure false := by rfl) : PS X (.Expr e pos) (tDrop te) := by
  intro pins s σ H D I h
  exact wpAny_Expr_any (thn (he pins s σ H _ I h) fun v s1 ⟨x, H1, I1, r1, q1⟩ => ⟨σ, H1, I1, q1⟩) I.quiet hs
def tRet (te : TE) : TS := fun D σ H => te σ H D.rt
theorem ps_ret (he : PE X e te) : PS X (.Return (some e) pos) (tRet te) := by
  intro pins s σ H D I h
  exact wpAny_Return_some (thn (he pins s σ H _ I h) fun v s1 ⟨x, H1, I1, r1, q1⟩ => ⟨x, σ, H1, I1, r1, q1⟩)
def tIfS (c : TT) (t u : TS) : TS := fun D σ H => c σ H fun b H1 => if b = true then t D σ H1 else u D σ H1
theorem ps_if {c : Expr} {a b : List Stmt} {tc : TT} (hc : PT X c tc) (ha : PSs X a t) (hb : PSs X b u) : PS X (.If c a b pos) (tIfS tc t u) := by
  intro pins s σ H D I h
  refine wpAny_If (thn (hc pins s σ H _ I h) fun d s1 ⟨H1, I1, q1⟩ => ?_)
  cases d with
  | true => exact ha pins s1 σ H1 D I1 q1
  | false => exact hb pins s1 σ H1 D I1 q1
end
abbrev TG := V → St → Hp → (St → Hp → Prop) → Prop
def PG (X : Cx) (target : Expr) (t : TG) : Prop :=
  ∀ (pins : List (Addr × Obj)) (s : Shared) (σ : St) (H : Hp) (v : V) (u : Value) (Q : St → Hp → Prop), Inv X pins σ H s → RelV v u → t v σ H Q →
    wpAny (model X.prog X.w) X.A (assign target X.env u) (fun _ s' => ∃ σ' H', Inv X pins σ' H' s' ∧ Q σ' H') X.xe s
abbrev TIp := V → V → Hp → VK → Prop
def PIp (X : Cx) (op : Operator) (t : TIp) : Prop :=
  ∀ (pins : List (Addr × Obj)) (s : Shared) (σ : St) (H : Hp) (x y : V) (v u : Value) (Q : VK), Inv X pins σ H s → RelV x v → RelV y u → t x y H Q →
    wpAny (model X.prog X.w) X.A (inplaceOp op v u) (EP X pins σ Q) X.xe s
section
variable {X : Cx} {pos : Pos}
def gName (i : Nat) : TG := fun v σ H Q => Q (σ.set i (some v)) H
theorem pg_name {i : Nat} {x : Str} (hN : X.N.Nodup) (hi : X.N[i]? = some x) (hx : Loc X.env.scope x) (hf : X.fn x = true ∨ X.env.scope.names.lookup x = some .local := by first | exact .inl rfl | exact .inr rfl | assumption) : PG X (.Name x pos) (gName i) := by
  intro pins s σ H v u Q I r h
  exact wpAny_assign_Name (store_ok I hN hi hx r (fun s' I' => ⟨_, H, I', h⟩) hf)
def tAsg (te : TE) (g : TG) : TS := fun D σ H => te σ H fun x H1 => g x σ H1 D.nx
theorem ps_set {i : Nat} {x : Str} {e : Expr} {te : TE} {pos' : Pos} (hN : X.N.Nodup) (hi : X.N[i]? = some x) (hx : Loc X.env.scope x) (he : PE X e te) (hs : swapsWith e (some (.Name x pos')) pos.line X.env = pure false := by rfl) (hf : X.fn x = true ∨ X.env.scope.names.lookup x = some .local := by first | exact .inl rfl | exact .inr rfl | assumption) :
    PS X (.Assign [.Name x pos'] e pos) (tAsg te (gName i)) := by
  intro pins s σ H D I h
  refine wpAny_Assign_Name (thn (he pins s σ H _ I h) fun v s1 ⟨y, H1, I1, r1, q1⟩ => ?_) hs
  exact store_ok I1 hN hi hx r1 (fun s2 I2 => ⟨_, H1, I2, q1⟩) hf
def tAug (i : Nat) (te : TE) (ti : TIp) : TS := fun D σ H => ∃ x, σ[i]? = some (some x) ∧ te σ H fun y H1 => ti x y H1 fun z H2 => D.nx (σ.set i (some z)) H2
theorem ps_aug {i : Nat} {x : Str} {e : Expr} {te : TE} {op : Operator} {ti : TIp} {pos' : Pos} (hN : X.N.Nodup) (hi : X.N[i]? = some x) (hx : Loc X.env.scope x) (he : PE X e te) (ho : PIp X op ti) (hf : X.fn x = true ∨ X.env.scope.names.lookup x = some .local := by first | exact .inl rfl | exact .inr rfl | assumption) :
    PS X (.AugAssign (.Name x pos') op e pos) (tAug i te ti) := by
  intro pins s σ H D I h
  obtain ⟨v, e1, h⟩ := h
  obtain ⟨m, hn, hl⟩ := I.loc
  have vis : Vis X.env.scope x := by rcases hx with k | k; exact .inl k; exact .inr (.inl k)
  obtain ⟨u, r, l⟩ := hl i x v hi e1 vis
  refine wpAny_AugAssign_Name ?_
  have go : wpAny (model X.prog X.w) X.A (eval e X.env) (fun w s₂ => wpAny (model X.prog X.w) X.A (inplaceOp op u w) (fun r s₃ => wpAny (model X.prog X.w) X.A (storeName X.env x r) (fun _ => SP X pins D .next) X.xe s₃) X.xe s₂) X.xe s := by
    refine thn (he pins s σ H _ I h) fun w s1 ⟨y, H1, I1, r1, q1⟩ => ?_
    refine thn (ho pins s1 σ H1 v y u w _ I1 r r1 q1) fun z s2 ⟨zv, H2, I2, r2, q2⟩ => ?_
    exact store_ok I2 hN hi hx r2 (fun s3 I3 => ⟨_, H2, I3, q2⟩) hf
  rcases l with ⟨hk, hm⟩ | ⟨hk, c, hc, hcell⟩
  · exact wpAny_loadName_local I.ok.kind hk hn hm go
  · rcases hk with hk | hk
    · exact wpAny_loadName_cell I.ok.kind hk hc hcell go
    · rcases hx with k | k
      · have : X.env.scope.names.lookup x = some .free := hk
        rw [k] at this; cases this
      · have : X.env.scope.names.lookup x = some .free := hk
        rw [k] at this; cases this
def ipI (f : Int → Int → Int) : TIp := fun x y H Q => ∃ i j, x = .int i ∧ y = .int j ∧ Q (.int (f i j)) H
theorem ip_add : PIp X .Add (ipI fun i j => i + j) := by
  intro pins s σ H x y v u Q I r1 r2 h
  obtain ⟨i, j, e1, e2, q⟩ := h
  subst e1; subst e2
  obtain ⟨t, rfl⟩ := r1
  obtain ⟨t', rfl⟩ := r2
  exact iadd_int ⟨.int _, H, I.tok _, ⟨_, rfl⟩, q⟩
end
section
variable {X : Cx} {pos : Pos}
def tWhile (c : TT) (tb : TS) : TS := fun D σ H => ∃ W : Nat → St → Hp → Prop, (∃ m, W m σ H) ∧ ∀ m σ H, W m σ H →
  c σ H fun b H1 => if b = true then ∃ N : St → Hp → Prop, (∀ σ' H', N σ' H' → ∃ m', m' < m ∧ W m' σ' H') ∧ tb { D with nx := N, ct := N, bk := D.nx } σ H1 else D.nx σ H1
theorem ps_while {c : Expr} {body : List Stmt} {tc : TT} {tb : TS} (hp : PassesOwn (model X.prog X.w) X.A X.env X.xe) (hc : PT X c tc) (hb : PSs X body tb) : PS X (.While c body [] pos) (tWhile tc tb) := by
  intro pins s σ H D I h
  obtain ⟨W, ⟨m0, w0⟩, turn⟩ := h
  refine wpAny_While (codeAny_whileLoop (fun n s' => ∃ σ' H', Inv X pins σ' H' s' ∧ W n σ' H') ?_ m0 ⟨σ, H, I, w0⟩)
  rintro n s1 ⟨σ1, H1, I1, w1⟩
  refine wpAny_passesOwn hp (thn (hc pins s1 σ1 H1 _ I1 (turn n σ1 H1 w1)) fun b s2 ⟨H2, I2, q2⟩ => ?_)
  cases b with
  | true =>
    obtain ⟨N, hN, q2⟩ := q2
    rw [if_pos rfl]
    refine wpAny_passesOwn hp (thn (hb pins s2 σ1 H2 _ I2 q2) fun f s3 q3 => ?_)
    cases f with
    | next =>
      obtain ⟨σ3, H3, I3, n3⟩ := q3
      obtain ⟨m', hm, w3⟩ := hN σ3 H3 n3
      exact ⟨m', hm, σ3, H3, I3, w3⟩
    | cont =>
      obtain ⟨σ3, H3, I3, n3⟩ := q3
      obtain ⟨m', hm, w3⟩ := hN σ3 H3 n3
      exact ⟨m', hm, σ3, H3, I3, w3⟩
    | brk => exact q3
    | ret v => exact q3
  | false =>
    rw [if_neg Bool.false_ne_true]
    exact wpAny_execs_nil ⟨σ1, H2, I2, q2⟩
end
structure It where
  go : Nat → Hp → Prop
  yld : Nat → Hp → V → Hp → Prop
  stop : Nat → Hp → Prop
def FpOk (X : Cx) (pins : List (Addr × Obj)) (H : Hp) (b : Addr) : Prop :=
  H b = none ∧ b ≠ X.env.locals ∧ b ∉ X.fs ∧ (b ∈ X.ex ∨ X.s_0.heap.objs.size ≤ b) ∧ (∀ x c, X.env.cells.lookup x = some c → c ≠ b) ∧ ∀ p ∈ X.pn ++ pins, p.1 ≠ b
theorem Inv.fpOk {X : Cx} {pins : List (Addr × Obj)} {σ : St} {H H' : Hp} {s : Shared} {b : Addr} (I : Inv X pins σ H s) (hb : s.heap.objs.size ≤ b) (hn : H' b = none) : FpOk X pins H' b := by
  refine ⟨hn, Nat.ne_of_gt (Nat.lt_of_lt_of_le I.lt hb), I.nofs hb, .inr (Nat.le_trans I.sz hb), fun x c e z => ?_, fun p hp z => ?_⟩
  · obtain ⟨v, q⟩ := I.cell x c e
    exact absurd (Nat.lt_of_lt_of_le q.lt (by rw [z]; exact hb)) (Nat.lt_irrefl _)
  · exact absurd (Nat.lt_of_lt_of_le (Heap.lt_size (I.pin p hp).1) (by rw [z]; exact hb)) (Nat.lt_irrefl _)
structure Turn (P : Program) (w : World) (K : PySem.W.Frag) (tg : Expr) (J : It) (fp : List Addr) (it : Addr) (tn : Nat → Heap → Prop) : Prop where
  mem : it ∈ fp
  obj : ∀ i h, tn i h → ∀ b ∈ fp, ∃ o, h.get? b = some o ∧ ∀ v, o.data ≠ .cell v
  keep : ∀ i h h', tn i h → (∀ b ∈ fp, ∀ o, h.get? b = some o → h'.get? b = some o) → tn i h'
  item : ∀ (X : Cx), X.prog = P → X.w = w → X.K = K → X.calm = true → ∀ (i : Nat) (pins : List (Addr × Obj)) (s : Shared) (σ : St) (H : Hp) (E : Value → Shared → Prop), Inv X pins σ H s → (∀ b ∈ fp, FpOk X pins H b) → tn i s.heap → J.go i H →
    wpAny (model P w) X.A (pyNext (.ref it)) (fun r s1 => ∃ u, r = some u ∧
      wpAny (model P w) X.A (letOwnedTupleGo tg (.ref it) u) (fun _ s2 => ∃ x H', Inv X pins σ H' s2 ∧ RelV x u ∧ J.yld i H x H' ∧ tn (i + 1) s2.heap ∧ ∀ b ∈ fp, H' b = none) E s1) E s
  done : ∀ (X : Cx), X.prog = P → X.w = w → X.K = K → X.calm = true → ∀ (i : Nat) (pins : List (Addr × Obj)) (s : Shared) (σ : St) (H : Hp) (E : Value → Shared → Prop), Inv X pins σ H s → (∀ b ∈ fp, FpOk X pins H b) → tn i s.heap → J.stop i H →
    wpAny (model P w) X.A (pyNext (.ref it)) (fun r s1 => r = none ∧ Inv X pins σ H s1) E s
  self : ∀ (A : Around) (i : Nat) (s : Shared) (Q : Value → Shared → Prop) (E : Value → Shared → Prop), tn i s.heap → Q (.ref it) s → wpAny (model P w) A (pyIter (.ref it)) Q E s
abbrev TI := St → Hp → (It → Hp → Prop) → Prop
def PIE (X : Cx) (pins : List (Addr × Obj)) (σ : St) (tg : Expr) (R : It → Hp → Prop) (itv : Value) (s2 : Shared) : Prop :=
  ∃ (it : Addr) (fp : List Addr) (tn : Nat → Heap → Prop) (J : It) (H' : Hp), itv = .ref it ∧ Inv X pins σ H' s2 ∧ Turn X.prog X.w X.K tg J fp it tn ∧ tn 0 s2.heap ∧ (∀ b ∈ fp, FpOk X pins H' b) ∧ R J H'
def PI (X : Cx) (tg iter : Expr) (wi : TI) : Prop :=
  ∀ (pins : List (Addr × Obj)) (s : Shared) (σ : St) (H : Hp) (R : It → Hp → Prop), Inv X pins σ H s → wi σ H R →
    wpAny (model X.prog X.w) X.A (eval iter X.env) (fun v s1 => wpAny (model X.prog X.w) X.A (pyIter v) (PIE X pins σ tg R) X.xe s1) X.xe s
theorem go_of {M : Model} {A : Around} {E : Value → Shared → Prop} {s : Shared} {tg : Expr} {it : Addr} {u : Value} {o : Obj} {n : String} {vs : Array Value} {Q : Unit → Shared → Prop} (ho : s.heap.get? it = some o) (hc : o.cls = .type n) (hd : o.data = .fields vs)
    (hn : ["enumerate", "zip", "dict_itemiterator", "dict_reverseitemiterator", "odict_iterator", "itertools.zip_longest", "itertools.pairwise"].contains n = false) (hQ : Q () s) : wpAny M A (letOwnedTupleGo tg (.ref it) u) Q E s := by
  unfold letOwnedTupleGo
  cases tg <;> first
    | exact wpAny_pure hQ
    | (cases u <;> first
        | exact wpAny_pure hQ
        | (refine wpAny_bind (wpAny_load ho ?_)
           rw [hc, hd]
           show wpAny M A (if (["enumerate", "zip", "dict_itemiterator", "dict_reverseitemiterator", "odict_iterator", "itertools.zip_longest", "itertools.pairwise"].contains n && vs[0]? == some (rawInt _)) = true then _ else _) Q E s
           rw [if_neg (by intro h; rw [hn, Bool.false_and] at h; cases h)]
           exact wpAny_pure hQ))
def Itl (K : PySem.W.Frag) (a : Addr) : It :=
  ⟨fun i H => ∃ xs x, SqL K H a xs ∧ xs[i]? = some x, fun i H x H' => H' = H ∧ ∀ xs, SqL K H a xs → xs[i]? = some x, fun i H => ∃ xs, SqL K H a xs ∧ xs.length ≤ i⟩
def Itr (lo : Int) (n : Nat) : It := ⟨fun i _ => i < n, fun i H x H' => H' = H ∧ x = .int (lo + i), fun i _ => n ≤ i⟩
theorem turn_list {P : Program} {w : World} {K : PySem.W.Frag} {tg : Expr} (a it : Addr) : Turn P w K tg (Itl K a) [it] it (fun i h => h.IsListIter it a i) where
  mem := by simp
  obj := fun i h st b hb => by
    have e : b = it := by simpa using hb
    subst e
    obtain ⟨o, e, c, d⟩ := st
    exact ⟨o, e, fun v z => by rw [d] at z; cases z⟩
  keep := fun i h h' st k => st.at fun o e => k it (by simp) o e
  item := by
    intro X hP hw hK hc i pins s σ H E I hf st hg
    subst hP hw hK
    obtain ⟨xs, x, hq, hx⟩ := hg
    obtain ⟨its, rv, p, hz⟩ := I.list hq
    obtain ⟨u, hu, ru⟩ := rv.get hx
    obtain ⟨f0, f1, f2, f3, f4, f5⟩ := hf it (by simp)
    refine wpAny_pyNext_list_item st p.isList (x := u) (by simpa using hu) fun h' st' sb => ?_
    have I1 : Inv X pins σ H { s with heap := h' } := I.turned (t' := s.toks) (fun b o hb e => (sb.2 b hb).trans e) f0 f1 f3 f4 f5
    obtain ⟨o, e, c, d⟩ := id st'
    exact ⟨u, rfl, go_of (s := { s with heap := h' }) e c d (by decide) ⟨x, H, I1, ru, ⟨rfl, fun ys hy => by rw [I.list_inj hy hq]; exact hx⟩, st', fun b hb => (hf b hb).1⟩⟩
  done := by
    intro X hP hw hK hc i pins s σ H E I hf st hg
    subst hP hw hK
    obtain ⟨xs, hq, hx⟩ := hg
    obtain ⟨its, rv, p, hz⟩ := I.list hq
    obtain ⟨f0, f1, f2, f3, f4, f5⟩ := hf it (by simp)
    have hl := rv.length
    exact wpAny_pyNext_list_end (I.ok.hd hc) st p.isList (by simp; omega) fun h' eb => ⟨rfl, I.turned (t' := s.toks) (fun b o hb e => eb b o hb e) f0 f1 f3 f4 f5⟩
  self := fun _ _ _ _ _ st h => wpAny_pyIter_listiter st h
theorem turn_range {P : Program} {w : World} {K : PySem.W.Frag} {tg : Expr} (it : Addr) (lo : Int) (n : Nat) : Turn P w K tg (Itr lo n) [it] it (fun i h => IsRangeIter h it (lo + (i : Nat) * 1) ((n : Int) - (i : Nat)) 1) where
  mem := by simp
  obj := fun i h st b hb => by
    have e : b = it := by simpa using hb
    subst e
    exact ⟨_, st, fun v z => by
      have z' : Data.fields _ = Data.cell v := z
      cases z'⟩
  keep := fun i h h' st k => k it (by simp) _ st
  item := by
    intro X hP hw hK hc i pins s σ H E I hf st hg
    subst hP hw hK
    obtain ⟨f0, f1, f2, f3, f4, f5⟩ := hf it (by simp)
    have W := Walks.range (prog := X.prog) (w := X.w) (I.ok.hd hc) it lo 1 n
    refine W.item i s _ _ hg st fun v h' tk hv st' kk => ?_
    obtain ⟨t, rfl⟩ := hv
    have I1 : Inv X pins σ H { s with heap := h', toks := tk } := I.turned (fun b o hb e => kk b o (by simpa using hb) e) f0 f1 f3 f4 f5
    refine ⟨_, rfl, go_of (s := { s with heap := h', toks := tk }) (n := "range_iterator") st' rfl rfl (by decide) ⟨.int (lo + i), H, I1, ⟨t, ?_⟩, ⟨rfl, rfl⟩, st', fun b hb => (hf b hb).1⟩⟩
    rw [Int.mul_one]
  done := by
    intro X hP hw hK hc i pins s σ H E I hf st hg
    subst hP hw hK
    obtain ⟨f0, f1, f2, f3, f4, f5⟩ := hf it (by simp)
    exact wpAny_pyNext_range_end (I.ok.hd hc) st (by have : n ≤ i := hg; omega) fun h' eb => ⟨rfl, I.turned (t' := s.toks) (fun b o hb e => eb b o hb e) f0 f1 f3 f4 f5⟩
  self := fun _ _ _ _ _ st h => wpAny_pyIter_rangeiter st h
end L2
namespace L2
open PySem PySem.Spec PyProof.Rows
section
variable {X : Cx} {tg : Expr}
def iList (K : PySem.W.Frag) (tl : TE) : TI := fun σ H R => tl σ H fun x H1 => ∃ a, x = .ref a ∧ (∃ xs, SqL K H1 a xs) ∧ R (Itl K a) H1
theorem pi_list {l : Expr} {tl : TE} (hl : PE X l tl) : PI X tg l (iList X.K tl) := by
  intro pins s σ H R I h
  refine thn (hl pins s σ H _ I h) fun v s1 ⟨x, H1, I1, r1, q1⟩ => ?_
  obtain ⟨a, e, ⟨xs, hq⟩, q⟩ := q1
  subst e
  cases r1
  obtain ⟨its, rv, p, hz⟩ := I1.list hq
  refine wpAny_pyIter_list p.isList ?_
  refine ⟨s1.heap.objs.size, [s1.heap.objs.size], _, _, H1, rfl, I1.kept (t' := s1.toks) fun b o e => Heap.get?_push_of_some _ e, turn_list a _, ⟨_, Heap.get?_push_size _ rfl, rfl, rfl⟩, fun b hb => ?_, q⟩
  have e : b = s1.heap.objs.size := by simpa using hb
  subst e
  exact I1.fpOk (Nat.le_refl _) (I1.hok.fresh (Nat.le_refl _))
theorem range_it {pins : List (Addr × Obj)} {σ : St} {H : Hp} {s : Shared} {R : It → Hp → Prop} {E : Value → Shared → Prop} {lo hi : Int} {t u v : Tok} {tk : Nat} (I : Inv X pins σ H s) (h1 : -(2 ^ 62) ≤ lo) (h2 : lo < 2 ^ 62) (h3 : -(2 ^ 62) ≤ hi) (h4 : hi < 2 ^ 62)
    (q : R (Itr lo (hi - lo).toNat) H) : wpAny (model X.prog X.w) X.A (pyIter (.ref s.heap.objs.size)) (PIE X pins σ tg R) E { s with heap := s.heap.push { cls := .type "range", data := .fields #[.int lo t, .int hi u, .int 1 v] }, toks := tk } := by
  refine wpAny_pyIter_range (IsRange.new ..) (small_one h1 h2 h3 h4) ?_
  have I1 : Inv X pins σ H { s with heap := s.heap.push { cls := .type "range", data := .fields #[.int lo t, .int hi u, .int 1 v] }, toks := tk } := I.kept fun b o e => Heap.get?_push_of_some _ e
  refine ⟨(s.heap.push { cls := .type "range", data := .fields #[.int lo t, .int hi u, .int 1 v] }).objs.size, [(s.heap.push { cls := .type "range", data := .fields #[.int lo t, .int hi u, .int 1 v] }).objs.size], _, _, H, rfl,
    I1.kept (t' := tk) fun b o e => Heap.get?_push_of_some _ e, turn_range _ lo (hi - lo).toNat, ?_, fun b hb => ?_, q⟩
  · have e1 : lo + ((0 : Nat) : Int) * 1 = lo := by simp
    have e2 : (((hi - lo).toNat : Nat) : Int) - ((0 : Nat) : Int) = Builtin.Range.rangeSize lo hi 1 := by rw [rangeSize_one]; split <;> omega
    show IsRangeIter _ _ (lo + ((0 : Nat) : Int) * 1) ((((hi - lo).toNat : Nat) : Int) - ((0 : Nat) : Int)) 1
    rw [e1, e2]
    exact Heap.get?_push_size _ rfl
  · have e : b = (s.heap.push { cls := .type "range", data := .fields #[.int lo t, .int hi u, .int 1 v] }).objs.size := by simpa using hb
    subst e
    exact I1.fpOk (Nat.le_refl _) (I1.hok.fresh (Nat.le_refl _))
def iRng1 (ta : TA) : TI := fun σ H R => ta σ H fun vs H1 => ∃ j : Int, vs = [.int j] ∧ -(2 ^ 62) ≤ j ∧ j < 2 ^ 62 ∧ R (Itr 0 j.toNat) H1
theorem pi_range1 {a : Expr} {ta : TA} {p pos : Pos} (hg : Gl X "range") (hm : X.mg "range" = none) (ha : PA X [a] ta) (hs : starEach [a] X.env = [(false, eval a X.env)] := by rfl) : PI X tg (.Call (.Name "range" p) [a] [] pos) (iRng1 ta) := by
  intro pins s σ H R I h
  refine Call_ (ld_blt I hg hm boot_range (PyProof.Rows.callWith_type1 (thn (ha pos pins s σ H _ I h) fun us s1 ⟨vs, H1, I1, r1, q1⟩ => ?_) hs rfl))
  obtain ⟨j, e, q1, q2, q⟩ := q1
  subst e
  cases r1 with
  | cons r rr =>
    cases rr
    obtain ⟨t, rfl⟩ := r
    exact call_range_1 (range_it I1 (by omega) (by omega) q1 q2 (by simpa using q))
def tFor (wi : TI) (g : TG) (tb : TS) : TS := fun D σ H => wi σ H fun J H1 => ∃ W : Nat → Nat → St → Hp → Prop, (∃ m, W 0 m σ H1) ∧ ∀ i m σ H, W i m σ H →
  (J.stop i H ∧ D.nx σ H) ∨ (J.go i H ∧ ∃ N : St → Hp → Prop, (∀ σ' H', N σ' H' → ∃ m', m' < m ∧ W (i + 1) m' σ' H') ∧ ∀ x H', J.yld i H x H' → g x σ H' fun σ2 H2 => tb { D with nx := N, ct := N, bk := D.nx } σ2 H2)
def pinsAt (fp : List Addr) (h : Heap) : List (Addr × Obj) := fp.filterMap fun b => (h.get? b).map fun o => (b, o)
theorem mem_pinsAt {fp : List Addr} {h : Heap} {b : Addr} {o : Obj} (hb : b ∈ fp) (e : h.get? b = some o) : (b, o) ∈ pinsAt fp h := List.mem_filterMap.mpr ⟨b, hb, by rw [e]; rfl⟩
theorem of_pinsAt {fp : List Addr} {h : Heap} {p : Addr × Obj} (hp : p ∈ pinsAt fp h) : p.1 ∈ fp ∧ h.get? p.1 = some p.2 := by
  obtain ⟨b, hb, e⟩ := List.mem_filterMap.mp hp
  cases q : h.get? b with
  | none => rw [q] at e; cases e
  | some o =>
    rw [q] at e
    have e' : (b, o) = p := Option.some.inj e
    subst e'
    exact ⟨hb, q⟩
theorem Inv.pinned {pins : List (Addr × Obj)} {σ : St} {H : Hp} {s : Shared} {fp : List Addr} (I : Inv X pins σ H s) (hf : ∀ b ∈ fp, FpOk X pins H b) (ho : ∀ b ∈ fp, ∃ o, s.heap.get? b = some o ∧ ∀ v, o.data ≠ .cell v) : Inv X (pins ++ pinsAt fp s.heap) σ H s :=
  I.pins_of fun p hp => (List.mem_append.mp hp).elim (fun z => I.pin p (List.mem_append_right _ z)) fun z => by
    obtain ⟨hb, e⟩ := of_pinsAt z
    obtain ⟨f0, f1, f2, _⟩ := hf p.1 hb
    obtain ⟨o, e', d⟩ := ho p.1 hb
    rw [e] at e'; cases e'
    exact ⟨e, f0, f1, f2, d⟩
theorem Inv.unpinned {pins pl : List (Addr × Obj)} {σ : St} {H : Hp} {s : Shared} (I : Inv X (pins ++ pl) σ H s) : Inv X pins σ H s := I.pins_of fun p hp => I.pin p (List.mem_append_right _ (List.mem_append_left _ hp))
theorem ps_for {iter : Expr} {body : List Stmt} {wi : TI} {g : TG} {tb : TS} {pos : Pos} (hp : PassesOwn (model X.prog X.w) X.A X.env X.xe) (hc : X.calm = true) (hi : PI X tg iter wi) (hg : PG X tg g) (hb : PSs X body tb)
    (hs : ∀ x, foldedSetIterable iter X.env x = pure x := by intro _; rfl) : PS X (.For tg iter body [] pos) (tFor wi g tb) := by
  intro pins s σ H D I h
  refine wpAny_For (thn (hi pins s σ H _ I h) fun v s1 h1 => thn h1 fun itv s2 h2 => ?_) hs
  obtain ⟨it, fp, tn, J, H2, e, I2, T, st2, f2, W, ⟨m0, w0⟩, turn⟩ := h2
  subst e
  -- what stays true of the iterator's objects through the loop
  have stat : ∀ {H' : Hp}, (∀ b ∈ fp, H' b = none) → ∀ b ∈ fp, FpOk X pins H' b := fun hn b hb => ⟨hn b hb, (f2 b hb).2⟩
  refine codeAny_forLoop_any (fun n s' => ∃ i σ' H', Inv X pins σ' H' s' ∧ tn i s'.heap ∧ (∀ b ∈ fp, H' b = none) ∧ W i n σ' H') ?_ m0 ⟨0, σ, H2, I2, st2, fun b hb => (f2 b hb).1, w0⟩
  rintro n s3 ⟨i, σ3, H3, I3, st3, fr3, w3⟩
  rcases turn i n σ3 H3 w3 with ⟨stop, qn⟩ | ⟨go, N, hN, step⟩
  · refine wpAny_passesOwn hp (thn (T.done X rfl rfl rfl hc i pins s3 σ3 H3 X.xe I3 (stat fr3) st3 stop) fun r s4 ⟨hr, I4⟩ => ?_)
    subst hr
    exact wpAny_execs_nil ⟨σ3, H3, I4, qn⟩
  · refine wpAny_passesOwn hp (thn (T.item X rfl rfl rfl hc i pins s3 σ3 H3 X.xe I3 (stat fr3) st3 go) fun r s4 ⟨u, hr, h4⟩ => ?_)
    subst hr
    refine wpAny_passesOwn hp (thn h4 fun _ s5 ⟨x, H5, I5, r5, y5, st5, fr5⟩ => ?_)
    have I5' := I5.pinned (stat fr5) (T.obj _ _ st5)
    refine wpAny_passesOwn hp (thn (hg _ s5 σ3 H5 x u _ I5' r5 (step x H5 y5)) fun _ s6 ⟨σ6, H6, I6, q6⟩ => ?_)
    refine wpAny_passesOwn hp (thn (hb _ s6 σ6 H6 _ I6 q6) fun f s7 q7 => ?_)
    have again : ∀ {σ7 : St} {H7 : Hp}, Inv X (pins ++ pinsAt fp s5.heap) σ7 H7 s7 → N σ7 H7 → ∃ m, m < n ∧ ∃ i σ' H', Inv X pins σ' H' s7 ∧ tn i s7.heap ∧ (∀ b ∈ fp, H' b = none) ∧ W i m σ' H' := fun {σ7 H7} I7 n7 => by
      obtain ⟨m', hm, w7⟩ := hN σ7 H7 n7
      refine ⟨m', hm, i + 1, σ7, H7, I7.unpinned, T.keep _ _ _ st5 fun b hb o e => (I7.pin (b, o) (List.mem_append_right _ (List.mem_append_right _ (mem_pinsAt hb e)))).1, fun b hb => ?_, w7⟩
      obtain ⟨o, e, d⟩ := T.obj _ _ st5 b hb
      exact (I7.pin (b, o) (List.mem_append_right _ (List.mem_append_right _ (mem_pinsAt hb e)))).2.1
    cases f with
    | next => obtain ⟨σ7, H7, I7, n7⟩ := q7; exact again I7 n7
    | cont => obtain ⟨σ7, H7, I7, n7⟩ := q7; exact again I7 n7
    | brk => obtain ⟨σ7, H7, I7, q7⟩ := q7; exact ⟨σ7, H7, I7.unpinned, q7⟩
    | ret v => obtain ⟨x7, σ7, H7, I7, r7, q7⟩ := q7; exact ⟨x7, σ7, H7, I7.unpinned, r7, q7⟩
end
theorem for_list {K : PySem.W.Frag} {a : Addr} {xs : List V} {g : TG} {tb : TS} {D : Ends} {σ : St} {H : Hp} (Pv : Nat → St → Hp → Prop) (h0 : Pv 0 σ H) (hl : ∀ i σ H, i ≤ xs.length → Pv i σ H → SqL K H a xs)
    (hs : ∀ i x σ H, xs[i]? = some x → Pv i σ H → g x σ H fun σ2 H2 => tb { D with nx := Pv (i + 1), ct := Pv (i + 1), bk := D.nx } σ2 H2) (hd : ∀ σ H, Pv xs.length σ H → D.nx σ H) :
    ∃ W : Nat → Nat → St → Hp → Prop, (∃ m, W 0 m σ H) ∧ ∀ i m σ H, W i m σ H →
      ((Itl K a).stop i H ∧ D.nx σ H) ∨ ((Itl K a).go i H ∧ ∃ N : St → Hp → Prop, (∀ σ' H', N σ' H' → ∃ m', m' < m ∧ W (i + 1) m' σ' H') ∧ ∀ x H', (Itl K a).yld i H x H' → g x σ H' fun σ2 H2 => tb { D with nx := N, ct := N, bk := D.nx } σ2 H2) := by
  refine ⟨fun i m σ H => m = xs.length - i ∧ i ≤ xs.length ∧ Pv i σ H, ⟨xs.length, by simp, Nat.zero_le _, h0⟩, ?_⟩
  rintro i m σ H ⟨rfl, hi, p⟩
  have q := hl i σ H hi p
  by_cases hlt : i < xs.length
  · refine .inr ⟨⟨xs, xs[i], q, by simp [hlt]⟩, Pv (i + 1), fun σ' H' p' => ⟨xs.length - (i + 1), by omega, rfl, hlt, p'⟩, fun x H' y => ?_⟩
    obtain ⟨e, y⟩ := y
    subst e
    exact hs i x σ _ (y xs q) p
  · have e : i = xs.length := by omega
    subst e
    exact .inl ⟨⟨xs, q, Nat.le_refl _⟩, hd σ H p⟩
theorem for_range {lo : Int} {n : Nat} {g : TG} {tb : TS} {D : Ends} {σ : St} {H : Hp} (Pv : Nat → St → Hp → Prop) (h0 : Pv 0 σ H)
    (hs : ∀ i σ H, i < n → Pv i σ H → g (.int (lo + i)) σ H fun σ2 H2 => tb { D with nx := Pv (i + 1), ct := Pv (i + 1), bk := D.nx } σ2 H2) (hd : ∀ σ H, Pv n σ H → D.nx σ H) :
    ∃ W : Nat → Nat → St → Hp → Prop, (∃ m, W 0 m σ H) ∧ ∀ i m σ H, W i m σ H →
      ((Itr lo n).stop i H ∧ D.nx σ H) ∨ ((Itr lo n).go i H ∧ ∃ N : St → Hp → Prop, (∀ σ' H', N σ' H' → ∃ m', m' < m ∧ W (i + 1) m' σ' H') ∧ ∀ x H', (Itr lo n).yld i H x H' → g x σ H' fun σ2 H2 => tb { D with nx := N, ct := N, bk := D.nx } σ2 H2) := by
  refine ⟨fun i m σ H => m = n - i ∧ i ≤ n ∧ Pv i σ H, ⟨n, by simp, Nat.zero_le _, h0⟩, ?_⟩
  rintro i m σ H ⟨rfl, hi, p⟩
  by_cases hlt : i < n
  · refine .inr ⟨hlt, Pv (i + 1), fun σ' H' p' => ⟨n - (i + 1), by omega, rfl, hlt, p'⟩, fun x H' y => ?_⟩
    obtain ⟨e, y⟩ := y
    subst e y
    exact hs i σ _ hlt p
  · have e : i = n := by omega
    subst e
    exact .inl ⟨Nat.le_refl _, hd σ H p⟩
end L2
namespace L2
open PySem PySem.Spec PyProof.Rows
abbrev R2 := V → V → Hp → VK → Prop
def OpR (X : Cx) (f : Value → Value → Sem Value) (r : R2) : Prop :=
  ∀ (pins : List (Addr × Obj)) (s : Shared) (σ : St) (H : Hp) (x y : V) (v u : Value) (Q : VK), Inv X pins σ H s → RelV x v → RelV y u → r x y H Q →
    wpAny (model X.prog X.w) X.A (f v u) (EP X pins σ Q) X.xe s
def UnR (X : Cx) (f : Value → Sem Value) (r : V → Hp → VK → Prop) : Prop :=
  ∀ (pins : List (Addr × Obj)) (s : Shared) (σ : St) (H : Hp) (x : V) (v : Value) (Q : VK), Inv X pins σ H s → RelV x v → r x H Q →
    wpAny (model X.prog X.w) X.A (f v) (EP X pins σ Q) X.xe s
def CallR (X : Cx) (f : Value) (r : List V → Hp → VK → Prop) : Prop :=
  ∀ (pins : List (Addr × Obj)) (s : Shared) (σ : St) (H : Hp) (xs : List V) (us : List Value) (Q : VK), Inv X pins σ H s → Vals xs us → r xs H Q →
    wpAny (model X.prog X.w) X.A (call f us) (EP X pins σ Q) X.xe s
def tOp (r : R2) (ta tb : TE) : TE := fun σ H Q => ta σ H fun x H1 => tb σ H1 fun y H2 => r x y H2 Q
def tUn (r : V → Hp → VK → Prop) (ta : TE) : TE := fun σ H Q => ta σ H fun x H1 => r x H1 Q
def rI (C : Int → Int → Prop) (g : Int → Int → V) : R2 := fun x y H Q => ∃ i j, x = .int i ∧ y = .int j ∧ C i j ∧ Q (g i j) H
def rI0 (g : Int → Int → V) : R2 := fun x y H Q => ∃ i j, x = .int i ∧ y = .int j ∧ Q (g i j) H
def rU (g : Int → V) : V → Hp → VK → Prop := fun x H Q => ∃ i, x = .int i ∧ Q (g i) H
section
variable {X : Cx} {a b c : Expr} {ta tb tc : TE} {pos : Pos}
theorem binT (ha : PE X a ta) (hb : PE X b tb) {pins : List (Addr × Obj)} {s : Shared} {σ : St} {H : Hp} {R : V → V → Hp → Prop} (I : Inv X pins σ H s)
    (h : ta σ H fun x H1 => tb σ H1 fun y H2 => R x y H2) {Q : Value → Shared → Prop} {f : Value → Value → Sem Value}
    (hf : ∀ v u s2 x y H2, Inv X pins σ H2 s2 → RelV x v → RelV y u → R x y H2 → wpAny (model X.prog X.w) X.A (f v u) Q X.xe s2) :
    wpAny (model X.prog X.w) X.A (eval a X.env) (fun v s₁ => wpAny (model X.prog X.w) X.A (eval b X.env) (fun u s₂ => wpAny (model X.prog X.w) X.A (f v u) Q X.xe s₂) X.xe s₁) X.xe s := by
  refine thn (ha pins s σ H _ I h) fun v s1 ⟨x, H1, I1, r1, q1⟩ => ?_
  refine thn (hb pins s1 σ H1 _ I1 q1) fun u s2 ⟨y, H2, I2, r2, q2⟩ => ?_
  exact hf v u s2 x y H2 I2 r1 r2 q2
theorem pe_op {op : Operator} {r : R2} (ho : OpR X (binaryOp op) r) (ha : PE X a ta) (hb : PE X b tb) : PE X (.BinOp a op b pos) (tOp r ta tb) := by
  intro pins s σ H Q I h
  exact wpAny_BinOp (binT ha hb I h fun v u s2 x y H2 I2 rx ry q => ho pins s2 σ H2 x y v u Q I2 rx ry q)
theorem pe_un {op : UnaryOp} {r : V → Hp → VK → Prop} (ho : UnR X (unaryOp op) r) (ha : PE X a ta) : PE X (.UnaryOp op a pos) (tUn r ta) := by
  intro pins s σ H Q I h
  exact UnaryOp_ (thn (ha pins s σ H _ I h) fun v s1 ⟨x, H1, I1, r1, q1⟩ => ho pins s1 σ H1 x v Q I1 r1 q1)
theorem opI {f : Value → Value → Sem Value} {C : Int → Int → Prop} {g : Int → Int → Int}
    (rule : ∀ (i j : Int) (t u : Tok) (s : Shared) (Q : Value → Shared → Prop) (E : Value → Shared → Prop), C i j → Q (.int (g i j) s.toks) { s with toks := s.toks + 1 } → wpAny (model X.prog X.w) X.A (f (.int i t) (.int j u)) Q E s) :
    OpR X f (rI C fun i j => .int (g i j)) := by
  intro pins s σ H x y v u Q I rx ry h
  obtain ⟨i, j, rfl, rfl, hc, q⟩ := h
  obtain ⟨t, rfl⟩ := rx
  obtain ⟨t', rfl⟩ := ry
  exact rule i j t t' s _ _ hc ⟨.int (g i j), H, I.tok _, ⟨_, rfl⟩, q⟩
theorem opI0 {f : Value → Value → Sem Value} {g : Int → Int → Int}
    (rule : ∀ (i j : Int) (t u : Tok) (s : Shared) (Q : Value → Shared → Prop) (E : Value → Shared → Prop), Q (.int (g i j) s.toks) { s with toks := s.toks + 1 } → wpAny (model X.prog X.w) X.A (f (.int i t) (.int j u)) Q E s) :
    OpR X f (rI0 fun i j => .int (g i j)) := by
  intro pins s σ H x y v u Q I rx ry h
  obtain ⟨i, j, rfl, rfl, q⟩ := h
  obtain ⟨t, rfl⟩ := rx
  obtain ⟨t', rfl⟩ := ry
  exact rule i j t t' s _ _ ⟨.int (g i j), H, I.tok _, ⟨_, rfl⟩, q⟩
theorem opB0 {f : Value → Value → Sem Value} {g : Int → Int → Bool}
    (rule : ∀ (i j : Int) (t u : Tok) (s : Shared) (Q : Value → Shared → Prop) (E : Value → Shared → Prop), Q (.bool (g i j)) s → wpAny (model X.prog X.w) X.A (f (.int i t) (.int j u)) Q E s) :
    OpR X f (rI0 fun i j => .bl (g i j)) := by
  intro pins s σ H x y v u Q I rx ry h
  obtain ⟨i, j, rfl, rfl, q⟩ := h
  obtain ⟨t, rfl⟩ := rx
  obtain ⟨t', rfl⟩ := ry
  exact rule i j t t' s _ _ ⟨.bl (g i j), H, I, rfl, q⟩
def CDiv (i j : Int) : Prop := 0 < j ∧ j < 1073741824
def CMul (i j : Int) : Prop := (-(2 ^ 64) < i ∧ i < 2 ^ 64) ∨ (-(2 ^ 64) < j ∧ j < 2 ^ 64)
theorem CMul.ok {i j : Int} (h : CMul i j) : IntMulOk i j := by
  rcases h with ⟨h1, h2⟩ | ⟨h1, h2⟩
  · exact .of_left (intBits_le_64 h1 h2)
  · exact .of_right (intBits_le_64 h1 h2)
theorem op_add : OpR X (binaryOp .Add) (rI0 fun i j => .int (i + j)) := opI0 fun _ _ _ _ _ _ _ q => add_int q
theorem op_sub : OpR X (binaryOp .Sub) (rI0 fun i j => .int (i - j)) := opI0 fun _ _ _ _ _ _ _ q => sub_int q
theorem op_mul : OpR X (binaryOp .Mult) (rI CMul fun i j => .int (i * j)) := opI fun _ _ _ _ _ _ _ hc q => mul_int q hc.ok
theorem op_fdiv : OpR X (binaryOp .FloorDiv) (rI CDiv fun i j => .int (i / j)) := opI fun i j _ _ _ _ _ hc q => by
  have h1 : (0 : Int) < j := hc.1
  have h2 : j < 1073741824 := hc.2
  exact floordiv_int (by omega) (by rw [Int.fdiv_eq_ediv_of_nonneg i (by omega)]; exact q) (.inl (PyProof.noPylong_small (by omega)))
theorem op_mod : OpR X (binaryOp .Mod) (rI (fun _ j => 0 < j) fun i j => .int (i % j)) := opI fun i j _ _ _ _ _ hc q => by
  have h1 : (0 : Int) < j := hc
  exact mod_int' (by omega) (by rw [Int.fmod_eq_emod_of_nonneg i (by omega)]; exact q)
theorem unI {f : Value → Sem Value} {g : Int → Int}
    (rule : ∀ (i : Int) (t : Tok) (s : Shared) (Q : Value → Shared → Prop) (E : Value → Shared → Prop), Q (.int (g i) s.toks) { s with toks := s.toks + 1 } → wpAny (model X.prog X.w) X.A (f (.int i t)) Q E s) :
    UnR X f (rU fun i => .int (g i)) := by
  intro pins s σ H x v Q I rx h
  obtain ⟨i, rfl, q⟩ := h
  obtain ⟨t, rfl⟩ := rx
  exact rule i t s _ _ ⟨.int (g i), H, I.tok _, ⟨_, rfl⟩, q⟩
theorem un_neg : UnR X (unaryOp .USub) (rU fun i => .int (-i)) := unI fun _ _ _ _ _ q => neg_int q
end
def scal : V → V → Bool
  | .non, .non => true | .non, .int _ => true | .int _, .non => true | .non, .bl _ => true | .bl _, .non => true | .non, .str _ => true | .str _, .non => true
  | .int _, .int _ => true | .bl _, .bl _ => true | .str _, .str _ => true | .byt _, .byt _ => true
  | .int _, .str _ => true | .str _, .int _ => true | .bl _, .str _ => true | .str _, .bl _ => true
  | _, _ => false
def rEq : R2 := fun x y H Q => scal x y = true ∧ Q (.bl (decide (x = y))) H
def rNe : R2 := fun x y H Q => scal x y = true ∧ Q (.bl (!decide (x = y))) H
theorem dec_int {i j : Int} : decide (V.int i = V.int j) = (i == j) := by
  rw [Bool.eq_iff_iff]
  simp
theorem dec_bl {i j : Bool} : decide (V.bl i = V.bl j) = (i == j) := by
  rw [Bool.eq_iff_iff]
  simp
theorem dec_str {i j : Str} : decide (V.str i = V.str j) = (i == j) := by
  rw [Bool.eq_iff_iff]
  simp
theorem dec_byt {i j : Array UInt8} : decide (V.byt i = V.byt j) = (i.toList == j.toList) := by
  rw [Bool.eq_iff_iff]
  cases i
  cases j
  simp
section
variable {X : Cx} {a b c : Expr} {ta tb tc : TE} {pos : Pos}
theorem fin_bl {pins : List (Addr × Obj)} {σ : St} {H : Hp} {s : Shared} {Q : VK} {k k' : Bool} (I : Inv X pins σ H s) (q : Q (.bl k) H) (e : k = k') : EP X pins σ Q (.bool k') s := by
  subst e
  exact ⟨.bl k, H, I, rfl, q⟩
theorem op_eq : OpR X (compareOp .Eq) rEq := by
  intro pins s σ H x y v u Q I rx ry h
  obtain ⟨hs, q⟩ := h
  cases x with
  | non =>
    cases rx
    cases y with
    | non => cases ry; exact PySem.EqNone.eq_none_none (fin_bl I q (by simp))
    | bl j => cases ry; exact PySem.EqNone.eq_none_bool (fin_bl I q (by simp))
    | int j => obtain ⟨t', rfl⟩ := ry; exact PySem.EqNone.eq_none_int (fin_bl I q (by simp))
    | str j => obtain ⟨t', rfl⟩ := ry; exact PySem.EqNone.eq_none_str (fin_bl I q (by simp))
    | _ => exact absurd (show false = true from hs) Bool.false_ne_true
  | bl i =>
    cases rx
    cases y with
    | non => cases ry; exact PySem.EqNone.eq_bool_none (fin_bl I q (by simp))
    | bl j => cases ry; exact eq_bool (fin_bl I q dec_bl)
    | str j => obtain ⟨t', rfl⟩ := ry; exact PySem.EqMixed.eq_bool_str (fin_bl I q (by simp))
    | _ => exact absurd (show false = true from hs) Bool.false_ne_true
  | int i =>
    obtain ⟨t, rfl⟩ := rx
    cases y with
    | non => cases ry; exact PySem.EqNone.eq_int_none (fin_bl I q (by simp))
    | int j => obtain ⟨t', rfl⟩ := ry; exact eq_int (fin_bl I q dec_int)
    | str j => obtain ⟨t', rfl⟩ := ry; exact PySem.EqMixed.eq_int_str (fin_bl I q (by simp))
    | _ => exact absurd (show false = true from hs) Bool.false_ne_true
  | str i =>
    obtain ⟨t, rfl⟩ := rx
    cases y with
    | non => cases ry; exact PySem.EqNone.eq_str_none (fin_bl I q (by simp))
    | bl j => cases ry; exact PySem.EqMixed.eq_str_bool (fin_bl I q (by simp))
    | int j => obtain ⟨t', rfl⟩ := ry; exact PySem.EqMixed.eq_str_int (fin_bl I q (by simp))
    | str j => obtain ⟨t', rfl⟩ := ry; exact eq_str (fin_bl I q dec_str)
    | _ => exact absurd (show false = true from hs) Bool.false_ne_true
  | byt i =>
    obtain ⟨t, rfl⟩ := rx
    cases y with
    | byt j => obtain ⟨t', rfl⟩ := ry; exact PySem.W.eq_bytes (fin_bl I q dec_byt)
    | _ => exact absurd (show false = true from hs) Bool.false_ne_true
  | _ => cases y <;> exact absurd (show false = true from hs) Bool.false_ne_true
theorem op_ne : OpR X (compareOp .NotEq) rNe := by
  intro pins s σ H x y v u Q I rx ry h
  obtain ⟨hs, q⟩ := h
  cases x with
  | non =>
    cases rx
    cases y with
    | non => cases ry; exact PySem.EqNone.ne_none_none (fin_bl I q (by simp))
    | bl j => cases ry; exact PySem.EqNone.ne_none_bool (fin_bl I q (by simp))
    | int j => obtain ⟨t', rfl⟩ := ry; exact PySem.EqNone.ne_none_int (fin_bl I q (by simp))
    | str j => obtain ⟨t', rfl⟩ := ry; exact PySem.EqNone.ne_none_str (fin_bl I q (by simp))
    | _ => exact absurd (show false = true from hs) Bool.false_ne_true
  | bl i =>
    cases rx
    cases y with
    | non => cases ry; exact PySem.EqNone.ne_bool_none (fin_bl I q (by simp))
    | bl j => cases ry; exact ne_bool (fin_bl I q (congrArg not dec_bl))
    | str j => obtain ⟨t', rfl⟩ := ry; exact PySem.EqMixed.ne_bool_str (fin_bl I q (by simp))
    | _ => exact absurd (show false = true from hs) Bool.false_ne_true
  | int i =>
    obtain ⟨t, rfl⟩ := rx
    cases y with
    | non => cases ry; exact PySem.EqNone.ne_int_none (fin_bl I q (by simp))
    | int j => obtain ⟨t', rfl⟩ := ry; exact ne_int (fin_bl I q (congrArg not dec_int))
    | str j => obtain ⟨t', rfl⟩ := ry; exact PySem.EqMixed.ne_int_str (fin_bl I q (by simp))
    | _ => exact absurd (show false = true from hs) Bool.false_ne_true
  | str i =>
    obtain ⟨t, rfl⟩ := rx
    cases y with
    | non => cases ry; exact PySem.EqNone.ne_str_none (fin_bl I q (by simp))
    | bl j => cases ry; exact PySem.EqMixed.ne_str_bool (fin_bl I q (by simp))
    | int j => obtain ⟨t', rfl⟩ := ry; exact PySem.EqMixed.ne_str_int (fin_bl I q (by simp))
    | str j => obtain ⟨t', rfl⟩ := ry; exact ne_str (fin_bl I q (congrArg not dec_str))
    | _ => exact absurd (show false = true from hs) Bool.false_ne_true
  | byt i =>
    obtain ⟨t, rfl⟩ := rx
    cases y with
    | byt j => obtain ⟨t', rfl⟩ := ry; exact PySem.W.ne_bytes (fin_bl I q (congrArg not dec_byt))
    | _ => exact absurd (show false = true from hs) Bool.false_ne_true
  | _ => cases y <;> exact absurd (show false = true from hs) Bool.false_ne_true
theorem op_lt : OpR X (compareOp .Lt) (rI0 fun i j => .bl (decide (i < j))) := opB0 fun _ _ _ _ _ _ _ q => lt_int q
theorem nomark (b : Expr) {op : CmpOp} (h : op ≠ .In := by decide) (h2 : op ≠ .NotIn := by decide) : behindInMarks op b = false := by
  have e1 : (op == CmpOp.In) = false := by cases op <;> first | rfl | exact absurd rfl h
  have e2 : (op == CmpOp.NotIn) = false := by cases op <;> first | rfl | exact absurd rfl h2
  cases b <;> simp [behindInMarks, e1, e2]
def tTest (t : TE) : TT := fun σ H Q => t σ H fun x H' => ∃ k, x = .bl k ∧ Q k H'
theorem pt_cmpR {op : CmpOp} {r : R2} (ho : OpR X (compareOp op) r) (ha : PE X a ta) (hb : PE X b tb) (hm : behindInMarks op b = false) : PT X (.Compare a [op] [b] pos) (tTest (tOp r ta tb)) := by
  intro pins s σ H Q I h
  refine wpAny_isTrue_Compare1 (thn (ha pins s σ H _ I h) fun v s1 ⟨x, H1, I1, r1, q1⟩ => thn (hb pins s1 σ H1 _ I1 q1) fun u s2 ⟨y, H2, I2, r2, q2⟩ =>
    thn (ho pins s2 σ H2 x y v u _ I2 r1 r2 q2) fun c s3 ⟨z, H3, I3, r3, k, e, q3⟩ => ?_) hm
  subst e
  cases r3
  exact wpAny_truthy_bool ⟨H3, I3, q3⟩
theorem line63 : (sizeLine : Nat) < 2 ^ 63 := by rw [sizeLine_eq]; decide
theorem vals1 {x : V} {us : List Value} (r : Vals [x] us) : ∃ u, us = [u] ∧ RelV x u := by
  cases r with
  | cons r1 r2 => cases r2; exact ⟨_, rfl, r1⟩
end
end L2
namespace L2
open PySem PySem.Spec PyProof.Rows
section
variable {prog : Program} {w : World} {A : Around} {E : Value → Shared → Prop} {s : Shared} {K : PySem.W.Frag} {x dx C f : Addr} {mA : Str → Option Value} {name : Str} {v : Value}
end
section
variable {P : Program} {w : World} {H H' : Hp} {h h' : Heap} {a C dx : Addr} {fs fs' : List (Str × V)}
end
section
variable {X : Cx} {pins : List (Addr × Obj)} {σ : St} {H : Hp} {s : Shared} {a C dx : Addr} {fs : List (Str × V)} {f : Str} {v : V} {A : Around} {E : Value → Shared → Prop}
end
section
variable {X : Cx} {o e value : Expr} {f : Str} {pos pos' tpos : Pos} {ta tv : TE}
end
section
variable {X : Cx} {pins : List (Addr × Obj)} {σ : St} {H : Hp} {s : Shared} {A : Around} {E : Value → Shared → Prop} {Q : Value → Shared → Prop} {c : Value} {b : Bool}
end
end L2
namespace L2
open PySem PySem.Spec PyProof.Rows
structure Room (k : Nat) (A : Around) : Prop where
  hd : A.handled = none
  dp : A.depth + 3 * k + 5 < recursionLimit
  un : A.units + 16 * k + 200 < cLine
theorem Room.mono {j k : Nat} {A : Around} (r : Room k A) (h : j ≤ k) : Room j A := ⟨r.hd, by have := r.dp; omega, by have := r.un; omega⟩
theorem Room.deeper {k : Nat} {A : Around} (r : Room (k + 1) A) (env : Env) : Room k (A.deeper env) :=
  ⟨r.hd, by have := r.dp; show A.depth + 1 + 3 * k + 5 < _; omega, by have := r.un; show A.units + 3 + 16 * k + 200 < _; omega⟩
theorem Room.depth {k : Nat} {A : Around} (r : Room k A) : A.depth < recursionLimit := by have := r.dp; omega
theorem Room.units {k : Nat} {A : Around} (r : Room k A) : A.units + 64 < cLine := by have := r.un; omega
def tNil : TA := fun _ H Q => Q [] H
def tCons (ta : TE) (tr : TA) : TA := fun σ H Q => ta σ H fun x H1 => tr σ H1 fun xs H2 => Q (x :: xs) H2
section
variable {X : Cx} {e : Expr} {es : List Expr} {te : TE} {t : TA} {pos : Pos}
theorem pa_nil : PA X [] tNil := fun _ _ _ _ H Q I h => Calls.spliced_nil ⟨[], H, I, .nil, h⟩
theorem pa_cons (ha : PE X e te) (hr : PA X es t) (hs : starEach (e :: es) X.env = (false, eval e X.env) :: starEach es X.env := by rfl) : PA X (e :: es) (tCons te t) := by
  intro pos pins s σ H Q I h
  rw [hs]
  show wpAny _ _ (spliced ((false, eval e X.env) :: backTo pos (starEach es X.env))) _ _ s
  refine Calls.spliced_cons (thn (ha pins s σ H _ I h) fun u s1 ⟨x, H1, I1, r1, q1⟩ => ?_)
  exact thn (hr pos pins s1 σ H1 _ I1 q1) fun us s2 ⟨xs, H2, I2, r2, q2⟩ => ⟨x :: xs, H2, I2, .cons r1 r2, q2⟩
def tLst (t : TA) : TE := fun σ H Q => t σ H fun xs H1 => xs.length ≤ sizeLine ∧ ∀ p, H1 p = none → Q (.ref p) (upd H1 p (.lst xs))
theorem pe_lst (h : PA X es t) : PE X (.List es pos) (tLst t) := by
  intro pins s σ H Q I hq
  refine wpAny_List_spliced (thn (h pos pins s σ H _ I hq) fun us s1 ⟨xs, H1, I1, r, z, q⟩ => ⟨by rw [← r.length]; exact z, ?_⟩)
  have hf : H1 s1.heap.objs.size = none := I1.hok.fresh (Nat.le_refl _)
  refine ⟨.ref s1.heap.objs.size, upd H1 s1.heap.objs.size (.lst xs), I1.laid (t' := s1.toks) (fun b u e => Heap.get?_push_of_some _ e) (Nat.le_refl _) ?_, rfl, q _ hf⟩
  exact ⟨z, us, 0, r, Heap.get?_push_size _ rfl⟩
end
abbrev Sp := List V → Hp → VK → XK → Prop
abbrev CXT := List Env → Hp → Shared → XK → Value → Shared → Prop
structure Env0 (P : Program) (w : World) (K : PySem.W.Frag) (mg : Str → Option Value) (base : Heap) (A : Around) (outer : List Env) (s : Shared) (H : Hp) : Prop where
  frames : A.frames = some outer
  mod : Mod K mg base
  bs : ∀ b o, base.get? b = some o → s.heap.get? b = some o ∧ H b = none
  bsz : base.objs.size ≤ s.heap.objs.size
  funs : s.heap.FunFrames base outer
  frf : ∀ b ∈ frs outer, H b = none
  hok : HOk P w H s.heap
  bare : AllBare s.gens
def CE (outer : List Env) (P : Program) (w : World) (H : Hp) (s : Shared) (Q : VK) (u : Value) (s' : Shared) : Prop :=
  ∃ v H', s'.os = s.os ∧ AllBare s'.gens ∧ Un (frs outer) [] H H' s.heap s'.heap ∧ HOk P w H' s'.heap ∧ RelV v u ∧ Q v H'
def CR (CX : CXT) (outer : List Env) (P : Program) (w : World) (H : Hp) (s : Shared) (Q : VK) (E : XK) (r : Result) (s' : Shared) : Prop :=
  match r with
  | .ok (.ret u) => CE outer P w H s Q u s'
  | .ok _ => False
  | .error e => CX outer H s E e s'
structure FnOk (P : Program) (w : World) (K : PySem.W.Frag) (mg : Str → Option Value) (base : Heap) (CX : CXT) (k : Nat) (f : Addr) (fd : FuncData) (ps : List Str) (sp : Sp) : Prop where
  len : ∀ vs H Q E, sp vs H Q E → vs.length = ps.length
  run : ∀ (A : Around) (outer : List Env) (s : Shared) (H : Hp) (args : Args) (us : List Value) (vs : List V) (Q : VK) (E : XK), Room k A → Env0 P w K mg base A outer s H → BindsTo s fd args (ps.zip us) → Vals vs us → sp vs H Q E →
    codeAny (model P w) A (.call (.ref f) args) (CR CX outer P w H s Q E) s
section
variable {X : Cx} {pins : List (Addr × Obj)} {σ : St} {H : Hp} {s s' : Shared}
theorem Inv.env0 (I : Inv X pins σ H s) : Env0 X.prog X.w X.K X.mg X.base X.A X.stack s H :=
  ⟨I.ok.frames, I.ok.mod, I.bs, Nat.le_trans I.ok.bsz I.sz, I.stack, I.stkFree, I.hok, I.bare⟩
theorem Inv.after {Q : VK} {u : Value} (I : Inv X pins σ H s) (h : CE X.stack X.prog X.w H s Q u s') : EP X pins σ Q u s' := by
  obtain ⟨v, H', os, bare, un, hok, r, q⟩ := h
  obtain ⟨hh, g, d, t, os'⟩ := s'
  obtain rfl : os' = s.os := os
  exact ⟨v, H', I.call (h' := hh) (g' := g) (d' := d) (t' := t) (ch := []) un hok bare (fun b z => absurd z (by simp)), r, q⟩
end
def tCall (sp : Sp) (dvs : List V) (E : XK) (t : TA) : TE := fun σ H Q => t σ H fun vs H1 => sp (vs ++ dvs) H1 Q E
def Binds (K : PySem.W.Frag) (fd : FuncData) (ps : List Str) (ds : List Value) : Prop :=
  ∀ (s : Shared) (us : List Value), K.In s.heap → (us ++ ds).length = ps.length → BindsTo s fd ⟨us, []⟩ (ps.zip (us ++ ds))
theorem Binds.all {K : PySem.W.Frag} {fd : FuncData} {ps : List Str} (h : ∀ us : List Value, us.length = ps.length → bindArgs fd ⟨us, []⟩ = pure (ps.zip us)) : Binds K fd ps [] := fun s us _ hl => by
  rw [List.append_nil] at hl ⊢
  exact .of_eq (h us hl)
def Passes (CX : CXT) (X : Cx) (E : XK) : Prop := ∀ (pins : List (Addr × Obj)) (σ : St) (H : Hp) (s : Shared) (e : Value) (s' : Shared), Inv X pins σ H s → CX X.stack H s E e s' → X.xe e s'
section
variable {X : Cx} {CX : CXT} {k : Nat} {f C : Addr} {fd : FuncData} {ps : List Str} {sp : Sp} {dvs : List V} {ds : List Value} {E : XK} {x m : Str} {p pos apos : Pos} {e o : Expr} {es : List Expr} {ta : TE} {t : TA}
theorem run_fn {pins : List (Addr × Obj)} {σ : St} {H : Hp} {s : Shared} {Q : VK} {us : List Value} {vs : List V} (F : FnOk X.prog X.w X.K X.mg X.base CX k f fd ps sp) (hr : Room k X.A) (hb : Binds X.K fd ps ds) (hd : Vals dvs ds) (hx : Passes CX X E)
    (I : Inv X pins σ H s) (r : Vals vs us) (h : sp (vs ++ dvs) H Q E) : wpAny (model X.prog X.w) X.A (call (.ref f) us) (EP X pins σ Q) X.xe s := by
  have r2 : Vals (vs ++ dvs) (us ++ ds) := r.append hd
  have hl : (us ++ ds).length = ps.length := by rw [← r2.length]; exact F.len _ _ _ _ h
  refine wpAny_call (codeAny_mono (F.run X.A X.stack s H ⟨us, []⟩ (us ++ ds) (vs ++ dvs) Q E hr I.env0 (hb s us I.kIn hl) r2 h) fun r s' hq => ?_)
  cases r with
  | error e => exact hx pins σ H s e s' I hq
  | ok fl =>
    cases fl with
    | ret u => exact I.after hq
    | next => exact False.elim hq
    | brk => exact False.elim hq
    | cont => exact False.elim hq
theorem pe_call (F : FnOk X.prog X.w X.K X.mg X.base CX k f fd ps sp) (hr : Room k X.A) (hg : Gl X x) (hm : X.mg x = some (.ref f)) (hk : PySem.W.keepIn X.K (.ref f) = true) (hb : Binds X.K fd ps ds) (hd : Vals dvs ds) (hx : Passes CX X E)
    (ha : PA X (e :: es) t) (hdb : (x == ("__debug__" : Str)) = false := by decide) (he : starEach (e :: es) X.env = (false, eval e X.env) :: starEach es X.env := by rfl) (hpl : (backTo pos (starEach es X.env)).any (·.1) = false := by rfl) :
    PE X (.Call (.Name x p) (e :: es) [] pos) (tCall sp dvs E t) := by
  intro pins s σ H Q I h
  refine wpAny_Call_Name_kw (ld_glob I hg hm ?_ hdb)
  refine PySem.W.callWith_K (h₀ := X.base) I.ok.mod.kin hk (thn (ha pos pins s σ H _ I h) fun us s1 ⟨vs, H1, I1, r, q⟩ => ⟨I1.kIn, ?_⟩) he hpl
  exact run_fn F hr hb hd hx I1 r q
end
section
variable {X : Cx} {CX : CXT} {k : Nat} {f C : Addr} {fd : FuncData} {ps ks : List Str} {sp : Sp} {E : XK} {x m : Str} {p pos apos kpos : Pos} {e o : Expr} {es : List Expr} {kws : List Keyword} {te ta : TE} {t tk : TA} {nm : Option Str}
variable {g : List Value → List Value → List Value} {gV : List V → List V → List V}
end
structure FnScope (N P : List Str) (sc : Scope) : Prop where
  kind : sc.kind = .function
  co : sc.isCoroutine = false
  gen : sc.isGenerator = false
  nd : N.Nodup
  pre : N.take P.length = P
  par : ∀ x ∈ P, sc.names.lookup x = some .local ∨ sc.names.lookup x = some .cell
  nofree : ∀ y ∈ sc.names, y.2 ≠ .free
theorem bindL_out {kindOf : Str → Option NameKind} {x : Str} : ∀ {binds : List (Str × Value)} {m : Str → Option Value}, (∀ v, (x, v) ∉ binds) → bindL kindOf binds m x = m x
  | [], _, _ => rfl
  | (n, v) :: r, m, h => by
    unfold bindL
    rw [bindL_out fun w hw => h w (List.mem_cons_of_mem _ hw)]
    split
    · have : x ≠ n := by rintro rfl; exact h v List.mem_cons_self
      simp [this]
    · rfl
theorem bindC_out {kindOf : Str → Option NameKind} {x : Str} : ∀ {binds : List (Str × Value)} {m : Str → Option Value}, (∀ v, (x, v) ∉ binds) → bindC kindOf binds m x = m x
  | [], _, _ => rfl
  | (n, v) :: r, m, h => by
    unfold bindC
    rw [bindC_out fun w hw => h w (List.mem_cons_of_mem _ hw)]
    split
    · rfl
    · have : x ≠ n := by rintro rfl; exact h v List.mem_cons_self
      simp [this]
theorem bindL_get {kindOf : Str → Option NameKind} {x : Str} {v : Value} : ∀ {P : List Str} {vs : List Value} {i : Nat} {m : Str → Option Value}, P.Nodup → P[i]? = some x → vs[i]? = some v → kindOf x = some .local →
    bindL kindOf (P.zip vs) m x = some v
  | [], _, _, _, _, h, _, _ => by simp at h
  | _ :: _, [], _, _, _, _, h, _ => by simp at h
  | p :: P, w :: vs, 0, m, nd, h1, h2, hk => by
    simp at h1 h2; subst h1; subst h2
    show bindL kindOf ((p, w) :: P.zip vs) m p = _
    unfold bindL
    rw [bindL_out fun v hv => (List.nodup_cons.mp nd).1 (List.of_mem_zip hv).1, if_pos hk]
    simp
  | p :: P, w :: vs, i + 1, m, nd, h1, h2, hk => by
    show bindL kindOf ((p, w) :: P.zip vs) m x = _
    unfold bindL
    exact bindL_get (i := i) (List.nodup_cons.mp nd).2 (by simpa using h1) (by simpa using h2) hk
theorem bindC_get {kindOf : Str → Option NameKind} {x : Str} {v : Value} : ∀ {P : List Str} {vs : List Value} {i : Nat} {m : Str → Option Value}, P.Nodup → P[i]? = some x → vs[i]? = some v → kindOf x ≠ some .local →
    bindC kindOf (P.zip vs) m x = some v
  | [], _, _, _, _, h, _, _ => by simp at h
  | _ :: _, [], _, _, _, _, h, _ => by simp at h
  | p :: P, w :: vs, 0, m, nd, h1, h2, hk => by
    simp at h1 h2; subst h1; subst h2
    show bindC kindOf ((p, w) :: P.zip vs) m p = _
    unfold bindC
    rw [bindC_out fun v hv => (List.nodup_cons.mp nd).1 (List.of_mem_zip hv).1, if_neg hk]
    simp
  | p :: P, w :: vs, i + 1, m, nd, h1, h2, hk => by
    show bindC kindOf ((p, w) :: P.zip vs) m x = _
    unfold bindC
    exact bindC_get (i := i) (List.nodup_cons.mp nd).2 (by simpa using h1) (by simpa using h2) hk
def start (N : List Str) (vs : List V) : St := vs.map some ++ List.replicate (N.length - vs.length) none
def cxOf (CX : CXT) (P : Program) (w : World) (K : PySem.W.Frag) (mg : Str → Option Value) (base : Heap) (N : List Str) (qual : Str) (scope : Scope) (f : Addr) (cd : Value) (A : Around) (outer : List Env) (s : Shared) (H : Hp) (E : XK) : Cx where
  prog := P
  w := w
  K := K
  mg := mg
  base := base
  A := A.deeper (envOfC qual scope s.heap.objs.size f cd)
  N := N
  s_0 := s
  H_0 := H
  env := envOfC qual scope s.heap.objs.size f cd
  outer := outer
  stack := envOfC qual scope s.heap.objs.size f cd :: outer
  ex := []
  calm := true
  fn := fun _ => true
  pn := []
  xe := fun e s' => wpAny (model P w) (A.deeper (envOfC qual scope s.heap.objs.size f cd)) (leaving (envOfC qual scope s.heap.objs.size f cd) e) (fun _ s'' => CX outer H s E e s'') (fun e' s'' => CX outer H s E e' s'') s'
theorem cell_has {sc : Scope} {n : Nat} {x : Str} (h : sc.names.lookup x = some .cell) : ∃ c, (cellsFrom n sc.names []).lookup x = some c := by
  have q := PySem.W.cellsFrom_some sc.names n [] (.inl h)
  exact Option.isSome_iff_exists.mp q
theorem inv_start {CX : CXT} {P : Program} {w : World} {K : PySem.W.Frag} {mg : Str → Option Value} {base : Heap} {N ps : List Str} {qual : Str} {scope : Scope} {f : Addr} {cd : Value} {A : Around} {outer : List Env} {s s1 : Shared} {H : Hp} {E : XK} {us : List Value} {vs : List V}
    (S : FnScope N ps scope) (hd : A.handled = none) (e0 : Env0 P w K mg base A outer s H) (hl : vs.length = ps.length) (r : Vals vs us)
    (x : InCallC s s.heap.objs.size (bindL (envOfC qual scope s.heap.objs.size f cd).kindOf (ps.zip us) fun _ => none) (cellsFrom (s.heap.objs.size + 1) scope.names []) (bindC (envOfC qual scope s.heap.objs.size f cd).kindOf (ps.zip us) fun _ => none) s1) :
    Inv (cxOf CX P w K mg base N qual scope f cd A outer s H E) [] (start N vs) H s1 := by
  have hpl : ps.length ≤ N.length := by have := congrArg List.length S.pre; rw [List.length_take] at this; omega
  obtain ⟨h1, tk, rfl, hk⟩ := x.done
  have noA : ∀ b : Addr, b ∉ (cxOf CX P w K mg base N qual scope f cd A outer s H E).ex := fun b z => absurd (show b ∈ ([] : List Addr) from z) (by simp)
  refine ⟨⟨e0.mod, S.kind, rfl, rfl, Nat.le_refl _, fun y z c h1 h2 => ?_, fun y hy => ?_, fun y c _ h => ?_, fun _ => hd, Around.frames_deeper e0.frames, .inr ⟨rfl, rfl⟩, fun b z => absurd z (noA b), e0.bs, e0.bsz, fun b _ _ => noA b, fun b z => absurd z (noA b), e0.funs, e0.frf⟩,
    rfl, e0.bare, Un.kept hk, ⟨_, x.toInCall.ns, fun i y v h1 h2 h3 => ?_⟩, fun y c h => ⟨_, x.cell y c h⟩, e0.hok.fresh (Nat.le_refl _), fun y c h => ?_, fun p hp => absurd (show p ∈ ([] : List (Addr × Obj)) from hp) (by simp), e0.hok.kept hk, ?_⟩
  · exact name_of_addr x.apart (PySem.mem_of_lookup h1) (PySem.mem_of_lookup h2)
  · have hy : scope.names.lookup y = some .cell ∨ scope.names.lookup y = some .free := hy
    rcases hy with hy | hy
    · exact cell_has hy
    · exact absurd rfl (S.nofree _ (PySem.mem_of_lookup hy))
  · exact Nat.le_of_lt (x.above y c (PySem.mem_of_lookup h))
  · have hi : i < vs.length := by
      unfold start at h2
      by_cases hi : i < vs.length
      · exact hi
      · rw [List.getElem?_append_right (by simpa using hi)] at h2
        rw [List.getElem?_replicate] at h2
        split at h2 <;> cases h2
    have ha : vs[i]? = some v := by
      unfold start at h2
      rw [List.getElem?_append_left (by simpa using hi), List.getElem?_map] at h2
      cases e : vs[i]? with
      | none => rw [e] at h2; cases h2
      | some a => rw [e] at h2; cases h2; rfl
    obtain ⟨u, hu, rv⟩ := r.get ha
    have hp : ps[i]? = some y := by
      rw [← S.pre, List.getElem?_take_of_lt (by omega)]; exact h1
    have ndP : ps.Nodup := by rw [← S.pre]; exact S.nd.sublist (List.take_sublist _ _)
    refine ⟨u, rv, ?_⟩
    rcases S.par y (List.mem_of_getElem? hp) with k | k
    · exact .inl ⟨k, bindL_get ndP hp hu k⟩
    · obtain ⟨c, e⟩ := cell_has (n := s.heap.objs.size + 1) k
      refine .inr ⟨.inl k, c, e, ?_⟩
      have q := x.cell y c e
      rw [bindC_get ndP hp hu (by show scope.names.lookup y ≠ _; rw [k]; decide)] at q
      exact q
  · exact e0.hok.fresh (Nat.le_of_lt (x.above y c (PySem.mem_of_lookup h)))
  · unfold start
    show _ = N.length
    rw [List.length_append, List.length_map, List.length_replicate]
    omega
theorem fn_of {CX : CXT} {P : Program} {w : World} {K : PySem.W.Frag} {mg : Str → Option Value} {base : Heap} {k : Nat} {f : Addr} {name qual : Str} {params : Arguments} {body : List Stmt} {scope : Scope} {dV kV doc pm cdv ct oc : Value} {an od : Option Addr}
    {osl : Array (Option Value)} {N ps : List Str} {sp : Sp} (lk : K.lookup f = some ⟨oc, od, .func (PySem.W.fnOf name qual params body scope dV kV doc pm an cdv ct), osl⟩) (hcd : PySem.W.codeIn K cdv qual = true) (S : FnScope N ps scope)
    (len : ∀ vs H Q E, sp vs H Q E → vs.length = ps.length)
    (hbody : ∀ (A : Around) (outer : List Env) (s : Shared) (H : Hp) (vs : List V) (Q : VK) (E : XK), Room k (A.deeper (envOfC qual scope s.heap.objs.size f cdv)) → sp vs H Q E →
      ∃ t, PSs (cxOf CX P w K mg base N qual scope f cdv A outer s H E) body t ∧ t { nx := fun _ H' => Q .non H', rt := Q } (start N vs) H) :
    FnOk P w K mg base CX (k + 1) f (PySem.W.fnOf name qual params body scope dV kV doc pm an cdv ct) ps sp := by
  refine ⟨len, fun A outer s H args us vs Q E hr e0 hb r hsp => ?_⟩
  have hl := len _ _ _ _ hsp
  have KX : K.In s.heap := e0.mod.kin.keeps fun b o e => (e0.bs b o e).1
  have lim : s.heap.NoLimit := e0.mod.nolimit.keeps fun b o e => (e0.bs b o e).1
  have hkind : ∀ y ∈ ps.zip us, scope.names.lookup y.1 = some .local ∨ (scope.names.lookup y.1 = some .cell ∧ ((cellsFrom (s.heap.objs.size + 1) scope.names []).lookup y.1).isSome = true) := fun ⟨n, v⟩ hy => by
    rcases S.par n (List.of_mem_zip hy).1 with q | q
    · exact .inl q
    · exact .inr ⟨q, PySem.W.cellsFrom_some _ _ _ (.inl q)⟩
  refine codeAny_call_function hr.depth (KX _ _ lk) rfl S.co S.gen rfl (PySem.W.codeRec_of KX hcd) (hb _ _ _ _ ?_)
  refine wpAny_newFunctionEnv_cells S.kind hkind fun env he s1 x => ?_
  subst he
  refine ⟨lim.keeps x.toInCall.keep, codeAny_func ?_⟩
  obtain ⟨t, ht, hq⟩ := hbody A outer s H vs Q E (hr.deeper _) hsp
  have I : Inv (cxOf CX P w K mg base N qual scope f cdv A outer s H E) [] (start N vs) H s1 := inv_start S hr.hd e0 hl r x
  refine wpAny_mono (ht [] s1 (start N vs) H _ I hq) (fun fl s' hs => ?_) fun e s' hs => hs
  have fin : ∀ {σ' : St} {H' : Hp} {v : V} {u : Value}, Inv (cxOf CX P w K mg base N qual scope f cdv A outer s H E) [] σ' H' s' → RelV v u → Q v H' → CE outer P w H s Q u s' :=
    fun {σ' H' v u} J rv q => ⟨v, H', J.os, J.bare, J.base, J.hok, rv, q⟩
  cases fl with
  | ret u =>
    obtain ⟨v, σ', H', J, rv, q⟩ := hs
    exact fin J rv q
  | next =>
    obtain ⟨σ', H', J, q⟩ := hs
    exact fin (v := V.non) (u := Value.none) J rfl q
  | brk =>
    obtain ⟨_, _, _, q⟩ := hs
    exact False.elim q
  | cont =>
    obtain ⟨_, _, _, q⟩ := hs
    exact False.elim q
end L2
namespace L2
open PySem PySem.Spec PyProof.Rows
section
variable {X : Cx} {x : Str} {p pos : Pos} {e : Expr} {es : List Expr} {t : TA} {id T : String} {r : List V → Hp → VK → Prop}
def tCB (r : List V → Hp → VK → Prop) (t : TA) : TE := fun σ H Q => t σ H fun vs H1 => r vs H1 Q
theorem pe_callB (hc : CallR X (.builtin id) r) (hg : Gl X x) (hm : X.mg x = none) (hv : bootBuiltins x = some (.builtin id)) (ha : PA X (e :: es) t) (hn : x ≠ "__name__" := by decide) (hdb : (x == ("__debug__" : Str)) = false := by decide)
    (he : starEach (e :: es) X.env = (false, eval e X.env) :: starEach es X.env := by rfl) (hpl : (backTo pos (starEach es X.env)).any (·.1) = false := by rfl) : PE X (.Call (.Name x p) (e :: es) [] pos) (tCB r t) := by
  intro pins s σ H Q I h
  refine wpAny_Call_Name_kw (ld_blt I hg hm hv ?_ hn hdb)
  exact PyProof.Rows.callWith_builtin1 (thn (ha pos pins s σ H _ I h) fun us s1 ⟨vs, H1, I1, r1, q1⟩ => hc pins s1 σ H1 vs us Q I1 r1 q1) he hpl
end
end L2
namespace HT
open PySem PyProof.Rows
section
open PySem.SeqAt
open PySem.AutoSeq1 (wpAny_loadPart')
open PySem.MeetsSeq PySem.MeetsSeq2 PySem.MeetsSeq3
end
section
variable {prog : Program} {w : World} {A : Around} {E : Value → Shared → Prop} {s : Shared}
def sIx (n d : Nat) : Option Int → Nat
  | none => d
  | some v => if v < 0 then (v + (n : Int)).toNat else min v.toNat n
end
end HT
namespace L2
open PySem PySem.Spec PyProof.Rows
abbrev TO := St → Hp → (Option Int → Hp → Prop) → Prop
def PO (X : Cx) (e : Option Expr) (t : TO) : Prop :=
  ∀ (pins : List (Addr × Obj)) (s : Shared) (σ : St) (H : Hp) (Q : Option Int → Hp → Prop), Inv X pins σ H s → t σ H Q →
    wpAny (model X.prog X.w) X.A (evalPart e X.env) (fun u s' => ∃ o H', Inv X pins σ H' s' ∧ IsPart u o ∧ Q o H') X.xe s
def tNoPart : TO := fun _ H Q => Q none H
def tPart (t : TE) : TO := fun σ H Q => t σ H fun x H1 => ∃ i, x = .int i ∧ Q (some i) H1
section
variable {X : Cx} {e : Expr} {te : TE} {lo hi : Option Expr} {tl th : TO} {pos p2 : Pos}
theorem po_none : PO X none tNoPart := by
  intro pins s σ H Q I h
  rw [evalPart_none]
  exact wpAny_pure ⟨none, H, I, .none, h⟩
theorem po_some (h : PE X e te) : PO X (some e) (tPart te) := by
  intro pins s σ H Q I hw
  rw [evalPart_some]
  refine thn (h pins s σ H _ I hw) fun u s1 ⟨x, H1, I1, r1, q1⟩ => ?_
  obtain ⟨i, rfl, q⟩ := q1
  obtain ⟨t, rfl⟩ := r1
  exact ⟨some i, H1, I1, .int i t, q⟩
def SlR (X : Cx) (r : V → Option Int → Option Int → Hp → VK → Prop) : Prop :=
  ∀ (pins : List (Addr × Obj)) (s : Shared) (σ : St) (H : Hp) (x : V) (v vl vu : Value) (lo hi : Option Int) (sl : Addr) (Q : VK), Inv X pins σ H s → RelV x v → s.heap.IsSliceOf sl vl vu .none → IsPart vl lo → IsPart vu hi → r x lo hi H Q →
    ∃ T id, typeLookup (.type T) "__getitem__" = pure (some (.builtin id)) ∧ s.TypeIs v T ∧ wpAny (model X.prog X.w) X.A (getItem v (.ref sl)) (EP X pins σ Q) X.xe s
def tSl (r : V → Option Int → Option Int → Hp → VK → Prop) (te : TE) (tl th : TO) : TE := fun σ H Q => te σ H fun x H1 => tl σ H1 fun l H2 => th σ H2 fun u H3 => r x l u H3 Q
theorem pe_slice {r : V → Option Int → Option Int → Hp → VK → Prop} (hr : SlR X r) (he : PE X e te) (hl : PO X lo tl) (hu : PO X hi th) : PE X (.Subscript e (.Slice lo hi none p2) pos) (tSl r te tl th) := by
  intro pins s σ H Q I h
  refine Subscript_ (thn (he pins s σ H _ I h) fun v s1 ⟨x, H1, I1, r1, q1⟩ => ?_)
  refine wpAny_Slice (thn (hl pins s1 σ H1 _ I1 q1) fun vl s2 ⟨l, H2, I2, pl, q2⟩ => thn (hu pins s2 σ H2 _ I2 q2) fun vu s3 ⟨u, H3, I3, pu, q3⟩ => ?_)
  rw [evalPart_none]
  refine wpAny_pure ?_
  have I4 : Inv X pins σ H3 { s3 with heap := s3.heap.push { cls := .type "slice", data := .fields #[vl, vu, .none] } } := I3.kept (t' := s3.toks) fun b ob q => Heap.get?_push_of_some _ q
  obtain ⟨T, id, hT, ht, hg⟩ := hr pins { s3 with heap := s3.heap.push { cls := .type "slice", data := .fields #[vl, vu, .none] } } σ H3 x v vl vu l u s3.heap.objs.size Q I4 r1 (Heap.IsSliceOf.new ..) pl pu q3
  show wpAny (model X.prog X.w) X.A (subscriptTail e (.Slice lo hi none p2) v (.ref s3.heap.objs.size)) (EP X pins σ Q) X.xe { s3 with heap := s3.heap.push { cls := .type "slice", data := .fields #[vl, vu, .none] } }
  exact tail_any (ops := [.ref s3.heap.objs.size, v]) ht hT hg (by with_unfolding_all rfl)
def cutV (xs : List V) (lo hi : Option Int) : List V := (xs.drop (HT.sIx xs.length 0 lo)).take (HT.sIx xs.length xs.length hi - HT.sIx xs.length 0 lo)
theorem cutV_length (xs : List V) (lo hi : Option Int) : (cutV xs lo hi).length ≤ xs.length := by
  unfold cutV
  rw [List.length_take, List.length_drop]
  omega
end
end L2
namespace L2
open PySem PySem.Spec PyProof.Rows
def ixN (n : Nat) (i : Int) : Option Nat := if 0 ≤ i then (if i < n then some i.toNat else none) else if -(n : Int) ≤ i then some (i + n).toNat else none
def atI {α : Type} (xs : List α) (i : Int) : Option α := (ixN xs.length i).bind fun j => xs[j]?
theorem ixN_seq {n : Nat} {i : Int} {j : Nat} (h : ixN n i = some j) : seqIndex? i n = some j ∧ j < n ∧ -(n : Int) ≤ i ∧ i < n := by
  unfold ixN at h
  by_cases h0 : 0 ≤ i
  · rw [if_pos h0] at h
    by_cases h1 : i < n
    · rw [if_pos h1] at h
      have e : i.toNat = j := Option.some.inj h
      exact ⟨by rw [seqIndex_of h0 h1, e], by omega, by omega, h1⟩
    · rw [if_neg h1] at h; cases h
  · rw [if_neg h0] at h
    by_cases h1 : -(n : Int) ≤ i
    · rw [if_pos h1] at h
      have e : (i + n).toNat = j := Option.some.inj h
      exact ⟨by rw [seqIndex_neg (by omega) h1, e], by omega, h1, by omega⟩
    · rw [if_neg h1] at h; cases h
theorem atI_get {α : Type} {xs : List α} {i : Int} {v : α} (h : atI xs i = some v) : ∃ j, seqIndex? i xs.length = some j ∧ xs[j]? = some v ∧ j < xs.length ∧ -(xs.length : Int) ≤ i ∧ i < xs.length := by
  unfold atI at h
  cases e : ixN xs.length i with
  | none => rw [e] at h; cases h
  | some j =>
    rw [e] at h
    obtain ⟨h1, h2, h3, h4⟩ := ixN_seq e
    exact ⟨j, h1, h, h2, h3, h4⟩
theorem atI_nat {α : Type} {xs : List α} {j : Nat} {v : α} (h : xs[j]? = some v) : atI xs (j : Int) = some v := by
  have hj : j < xs.length := (List.getElem?_eq_some_iff.mp h).1
  have e : ixN xs.length (j : Int) = some j := by
    unfold ixN
    rw [if_pos (by omega), if_pos (by omega)]; simp
  unfold atI; rw [e]; exact h
def PlainIx (b : Expr) : Prop := ∀ o i, subscripted b false o i = operate [o, i] (getItem o i)
def IxR (X : Cx) (r : R2) : Prop :=
  ∀ (value slice : Expr) (pins : List (Addr × Obj)) (s : Shared) (σ : St) (H : Hp) (x y : V) (v u : Value) (Q : VK), Inv X pins σ H s → RelV x v → RelV y u → r x y H Q →
    subscripted slice false v u = operate [v, u] (getItem v u) → wpAny (model X.prog X.w) X.A (subscriptTail value slice v u) (EP X pins σ Q) X.xe s
def MtR (X : Cx) (id : String) (r : V → List V → Hp → VK → Prop) : Prop :=
  ∀ (pins : List (Addr × Obj)) (s : Shared) (σ : St) (H : Hp) (x : V) (xs : List V) (v : Value) (us : List Value) (Q : VK), Inv X pins σ H s → RelV x v → Vals xs us → r x xs H Q →
    wpAny (model X.prog X.w) X.A (call (.builtin id) (v :: us)) (EP X pins σ Q) X.xe s
section
variable {X : Cx} {a b : Expr} {ta tb : TE} {pos : Pos}
theorem pe_ix {r : R2} (hr : IxR X r) (ha : PE X a ta) (hb : PE X b tb) (hs : PlainIx b) : PE X (.Subscript a b pos) (tOp r ta tb) := by
  intro pins s σ H Q I h
  exact Subscript_ (binT ha hb I h fun v u s2 x y H2 I2 rx ry q => hr a b pins s2 σ H2 x y v u Q I2 rx ry q (hs _ _))
def rIxL (K : PySem.W.Frag) : R2 := fun x y H Q => ∃ p xs i v, x = .ref p ∧ y = .int i ∧ SqL K H p xs ∧ atI xs i = some v ∧ Q v H
theorem ix_list : IxR X (rIxL X.K) := by
  intro value slice pins s σ H x y v u Q I rx ry h hs
  obtain ⟨p, xs, i, z, rfl, rfl, hq, he, q⟩ := h
  cases rx
  obtain ⟨t, rfl⟩ := ry
  obtain ⟨its, r, pl, hz⟩ := I.list hq
  obtain ⟨j, h1, h2, h3, h4, h5⟩ := atI_get he
  obtain ⟨w, ew, rw'⟩ := r.get h2
  have hl := r.length
  have hn := line63
  have fin : EP X pins σ Q w s := ⟨z, H, I, rw', q⟩
  by_cases h0 : 0 ≤ i
  · have hj : i.toNat = j := by
      rw [seqIndex_of h0 h5] at h1
      exact Option.some.inj h1
    exact item_listR pl.isList h0 (by omega) (by rw [hj]; simpa using ew) fin hs
  · have hj : (i + (its.toArray.size : Int)).toNat = j := by
      rw [seqIndex_neg (by omega) h4] at h1
      rw [List.size_toArray, ← hl]
      exact Option.some.inj h1
    exact subscriptTail_builtinR (x := w) pl.isList.typeIs slot_list_getitem.lookup
      (wpAny_getItem_list_neg (Q := fun r s' => r = w ∧ EP X pins σ Q r s') pl.isList (by omega) (by rw [List.size_toArray] <;> omega) (by omega) (by rw [hj]; simpa using ew) ⟨rfl, fin⟩) hs
theorem slice_bounds (lo hi : Option Int) (n : Nat) : (sliceBounds lo hi none n).1 = ((HT.sIx n 0 lo : Nat) : Int) ∧ (sliceBounds lo hi none n).2.1 = ((HT.sIx n n hi : Nat) : Int) ∧ (sliceBounds lo hi none n).2.2 = 1 := by
  refine ⟨?_, ?_, rfl⟩
  · cases lo with
    | none => simp [sliceBounds, HT.sIx]
    | some i =>
      simp only [sliceBounds, HT.sIx, Option.getD_none, show (1 : Int) > 0 by decide, if_true]
      by_cases h : i < 0
      · simp only [h, if_true] <;> omega
      · simp only [h, if_false] <;> omega
  · cases hi with
    | none => simp [sliceBounds, HT.sIx]
    | some i =>
      simp only [sliceBounds, HT.sIx, Option.getD_none, show (1 : Int) > 0 by decide, if_true]
      by_cases h : i < 0
      · simp only [h, if_true] <;> omega
      · simp only [h, if_false] <;> omega
theorem slicePick_cut (its : List Value) (lo hi : Option Int) : slicePick its.toArray lo hi none = ((its.drop (HT.sIx its.length 0 lo)).take (HT.sIx its.length its.length hi - HT.sIx its.length 0 lo)).toArray := by
  obtain ⟨h1, h2, h3⟩ := slice_bounds lo hi its.toArray.size
  unfold slicePick
  rw [h1, h2, h3]
  simp only [sliceRange_one, pick_run, List.size_toArray] <;> rfl
def rSlL (K : PySem.W.Frag) : V → Option Int → Option Int → Hp → VK → Prop := fun x lo hi H Q => ∃ a xs, x = .ref a ∧ SqL K H a xs ∧ ∀ p, H p = none → Q (.ref p) (upd H p (.lst (cutV xs lo hi)))
theorem sl_list : SlR X (rSlL X.K) := by
  intro pins s σ H x v vl vu lo hi sl Q I rx hs pl pu h
  obtain ⟨a, xs, rfl, hx, q⟩ := h
  cases rx
  obtain ⟨its, r, ht, hz⟩ := I.list hx
  have hlen := r.length
  refine ⟨"list", _, slot_list_getitem.lookup, ht.isList.typeIs, ?_⟩
  refine wpAny_getItem_list_slice ht.isList hs pl pu .none (by simp) ?_ (by rw [List.size_toArray] <;> omega)
  rw [slicePick_cut, ← hlen]
  refine ⟨.ref s.heap.objs.size, _, I.laid (t' := s.toks) (o := .lst (cutV xs lo hi)) (fun b ob q => Heap.get?_push_of_some _ q) (Nat.le_refl _) ?_, rfl, q _ (I.hok.fresh (Nat.le_refl _))⟩
  exact ⟨Nat.le_trans (cutV_length xs lo hi) hz, _, 0, (r.drop (HT.sIx xs.length 0 lo)).take (HT.sIx xs.length xs.length hi - HT.sIx xs.length 0 lo), Heap.get?_push_size _ rfl⟩
theorem call_len_seq : CallR X (.builtin "len") (fun xs H Q => ∃ p ys, xs = [.ref p] ∧ (SqL X.K H p ys ∨ SqT X.K H p ys) ∧ Q (.int ys.length) H) := by
  intro pins s σ H xs us Q I r h
  obtain ⟨p, ys, rfl, hq, q⟩ := h
  obtain ⟨u, rfl, rx⟩ := vals1 r
  cases rx
  have hn := line63
  rcases hq with hq | hq
  · obtain ⟨its, r', pl, hz⟩ := I.list hq
    have hlen := r'.length
    exact Calls.call_len_list pl.isList (by simp only [List.size_toArray] <;> omega) ⟨.int ys.length, H, I.tok _, ⟨s.toks + 1, by rw [List.size_toArray, hlen]⟩, q⟩
  · obtain ⟨its, r', pl, hz⟩ := I.tuple hq
    have hlen := r'.length
    exact len_tuple pl (by simp only [List.size_toArray] <;> omega) ⟨.int ys.length, H, I.tok _, ⟨s.toks + 1, by rw [List.size_toArray, hlen]⟩, q⟩
def tyV (K : PySem.W.Frag) (T : String) (x : V) (H : Hp) : Prop := match x with
  | .str _ => T = "str"
  | .int _ => T = "int"
  | .ref p => (T = "list" ∧ ∃ xs, SqL K H p xs) ∨ (T = "tuple" ∧ ∃ o, K.lookup p = some o ∧ o.cls = .type "tuple" ∧ o.dict = none) ∨
      (T = "dict" ∧ ((∃ kvs, H p = some (.dK kvs)) ∨ ∃ kvs, H p = some (.dT kvs))) ∨ (T = "set" ∧ ∃ S n, H p = some (.set S n))
  | _ => False
theorem tyV_is {pins : List (Addr × Obj)} {σ : St} {H : Hp} {s : Shared} {T : String} {x : V} {v : Value} (I : Inv X pins σ H s) (r : RelV x v) (ty : tyV X.K T x H) :
    s.TypeIs v T ∧ ∀ a, v = .ref a → ∃ ob, s.heap.get? a = some ob ∧ ob.dict = none := by
  cases x with
  | str z =>
    obtain ⟨t, rfl⟩ := r
    cases (show T = "str" from ty)
    exact ⟨typeIs_str s z t, fun _ e => nomatch e⟩
  | int i =>
    obtain ⟨t, rfl⟩ := r
    cases (show T = "int" from ty)
    exact ⟨typeIs_int s i t, fun _ e => nomatch e⟩
  | ref p =>
    cases r
    rcases ty with ⟨rfl, xs, hq⟩ | ⟨rfl, o, hk, hc, hd⟩ | ⟨rfl, hk⟩ | ⟨rfl, S, n, hk⟩
    · obtain ⟨its, _, pl, _⟩ := I.list hq
      refine ⟨pl.isList.typeIs, fun a e => ?_⟩
      cases e
      obtain ⟨o, n, e, c, hd, _⟩ := pl
      exact ⟨o, e, hd⟩
    · refine ⟨⟨o, I.kIn p o hk, hc⟩, fun a e => ?_⟩
      cases e
      exact ⟨o, I.kIn _ o hk, hd⟩
    · have z : ∃ o, s.heap.get? p = some o ∧ o.ExactDict := by
        rcases hk with ⟨kvs, hk⟩ | ⟨kvs, hk⟩
        · obtain ⟨_, _, _, _, o, _, _, e, ex, _⟩ := I.hok p _ hk
          exact ⟨o, e, ex⟩
        · obtain ⟨_, _, _, _, o, _, _, e, ex, _⟩ := I.hok p _ hk
          exact ⟨o, e, ex⟩
      obtain ⟨o, e, ex⟩ := z
      refine ⟨⟨o, e, ex.1⟩, fun a e2 => ?_⟩
      cases e2
      exact ⟨o, e, ex.2.1⟩
    · obtain ⟨o, _, _, _, e, ex, _⟩ := I.hok p _ hk
      refine ⟨⟨o, e, ex.1⟩, fun a e2 => ?_⟩
      cases e2
      exact ⟨o, e, ex.2.1⟩
  | _ => exact False.elim ty
def tBM (K : PySem.W.Frag) (T : String) (r : V → List V → Hp → VK → Prop) (to : TE) (t : TA) : TE := fun σ H Q => to σ H fun x H1 => tyV K T x H1 ∧ t σ H1 fun xs H2 => r x xs H2 Q
variable {o e : Expr} {es : List Expr} {to : TE} {t : TA} {name : Str} {apos cpos : Pos} {T id : String} {r : V → List V → Hp → VK → Prop}
theorem pe_bm (pa : PlainAttrs T) (slot : Slot T name id) (hty : typeOf (.builtin id) = pure (.type "method_descriptor")) (hm : MtR X id r) (ho : PE X o to) (ha : PA X (e :: es) t)
    (hbase : attributeBase o name X.env (eval o X.env) = eval o X.env := by rfl)
    (hfew : ((backTo cpos (starEach (e :: es) X.env)).all (fun x => !x.1) && (backToKw cpos (keywordEach [] X.env)).all (fun x => x.1.isSome)
      && decide ((e :: es).length + ([] : List Keyword).length + (if ([] : List Keyword).isEmpty then 0 else 1) < 30)) = true := by rfl)
    (hline : (apos.endLine == cpos.line) = true := by rfl) (hs : starEach (e :: es) X.env = (false, eval e X.env) :: starEach es X.env := by rfl) (hplain : (backTo cpos (starEach es X.env)).any (·.1) = false := by rfl) :
    PE X (.Call (.Attribute o name apos) (e :: es) [] cpos) (tBM X.K T r to t) := by
  intro pins s σ H Q I h
  refine wpAny_Call_method_late hbase hfew hline rfl (thn (ho pins s σ H _ I h) fun v s1 ⟨x, H1, I1, r1, ty, q1⟩ => ?_)
  obtain ⟨h1, h2⟩ := tyV_is I1 r1 ty
  refine ⟨T, id, pa, slot, hty, h1, h2, ?_⟩
  have hA := ha cpos pins s1 σ H1 _ I1 q1
  rw [hs] at hA ⊢
  refine Calls.callWith_builtin (by show (false || (backTo cpos (starEach es X.env)).any (·.1)) = false; rw [hplain] <;> rfl) (Calls.evalArgs_plain ?_)
  exact thn hA fun us s2 ⟨vs, H2, I2, r2, q2⟩ => hm pins s2 σ H2 x vs v us Q I2 r1 r2 q2
end
end L2
namespace L2
open PySem PySem.Spec PyProof.Rows
def MtM (X : Cx) (id : String) (r : V → List V → Hp → VK → Prop) : Prop :=
  ∀ (pins : List (Addr × Obj)) (s : Shared) (σ : St) (H : Hp) (x : V) (xs : List V) (v : Value) (us : List Value) (Q : VK), Inv X pins σ H s → RelV x v → Vals xs us → r x xs H Q →
    wpAny (model X.prog X.w) X.A (call (.builtin id) (v :: us)) (EP X pins σ Q) X.xe s
theorem Vals.one : ∀ {x : V} {us : List Value}, Vals [x] us → ∃ u, us = [u] ∧ RelV x u
  | _, _, .cons r .nil => ⟨_, rfl, r⟩
section
variable {X : Cx} {pins : List (Addr × Obj)} {σ : St} {H : Hp} {s : Shared} {l b : Addr} {xs ys zs : List V}
theorem Inv.lset {its its' : List Value} {n : Nat} {f : Array Value → Array Value} {t' : Nat} (I : Inv X pins σ H s) (hH : H l = some (.lst xs))
    (e : s.heap.get? l = some { cls := .type "list", data := .seq its.toArray n }) (hf : f its.toArray = its'.toArray) (hv : Vals ys its') (hz : ys.length ≤ sizeLine) :
    Inv X pins σ (upd H l (.lst ys)) { s with heap := s.heap.update l (Obj.mapSeq f), toks := t' } := by
  have q := PySem.IsL.update e f
  rw [hf] at q
  refine I.write (x := l) (e := l) (by rw [hH]; exact trivial) (.inl rfl) (fun b' u hb hu => (Heap.get?_update_other s.heap (Obj.mapSeq f) (Ne.symm hb)).trans hu) ⟨_, q⟩ ?_
  exact ⟨hz, its', _, hv, q⟩
theorem Inv.lnew {its : List Value} {t' : Nat} (I : Inv X pins σ H s) (hv : Vals ys its) (hz : ys.length ≤ sizeLine) :
    Inv X pins σ (upd H s.heap.objs.size (.lst ys)) { s with heap := s.heap.push { cls := .type "list", data := .seq its.toArray }, toks := t' } :=
  I.laid (fun _ _ q => Heap.get?_push_of_some _ q) (Nat.le_refl _) ⟨hz, its, 0, hv, Heap.get?_push_size _ rfl⟩
theorem Inv.fresh (I : Inv X pins σ H s) : H s.heap.objs.size = none := I.hok.fresh (Nat.le_refl _)
theorem Inv.lstM (I : Inv X pins σ H s) (hH : H l = some (.lst xs)) : xs.length ≤ sizeLine ∧ ∃ (its : List Value) (n : Nat), Vals xs its ∧ xs.length = its.length ∧ s.heap.get? l = some { cls := .type "list", data := .seq its.toArray n } := by
  obtain ⟨z, its, n, r, e⟩ := I.hok l _ hH
  exact ⟨z, its, n, r, r.length, e⟩
end
section
variable {X : Cx}
def rAppend : V → List V → Hp → VK → Prop := fun x vs H Q => ∃ l xs y, x = .ref l ∧ vs = [y] ∧ H l = some (.lst xs) ∧ xs.length < sizeLine ∧ Q .non (upd H l (.lst (xs ++ [y])))
theorem mt_append : MtM X "list.append" rAppend := by
  intro pins s σ H x vs v us Q I rx rv h
  obtain ⟨l, xs, y, rfl, rfl, hH, hz, q⟩ := h
  cases rx
  obtain ⟨u, rfl, ru⟩ := rv.one
  obtain ⟨z, its, n, r, hl, e⟩ := I.lstM hH
  refine call_meets F.slot_list_append ⟨_, e, rfl⟩ F.entry_list_append (F.args_list_append_2 _ _) (PySem.list_append l its.toArray n u (by rw [List.size_toArray]; omega)) ⟨e, ?_⟩
  refine ⟨.non, _, I.lset (its' := its ++ [u]) hH e (by simp) (r.append (.cons ru .nil)) ?_, rfl, q⟩
  rw [List.length_append, List.length_singleton]
  omega
def rCat : R2 := fun x y H Q => ∃ l b xs zs, x = .ref l ∧ y = .ref b ∧ H l = some (.lst xs) ∧ H b = some (.lst zs) ∧ xs.length + zs.length ≤ sizeLine ∧ ∀ p, H p = none → Q (.ref p) (upd H p (.lst (xs ++ zs)))
theorem op_cat : OpR X (binaryOp .Add) rCat := by
  intro pins s σ H x y v u Q I rx ry h
  obtain ⟨l, b, xs, zs, rfl, rfl, hH, hB, hz, q⟩ := h
  cases rx
  cases ry
  obtain ⟨z, its, n, r, hl, e⟩ := I.lstM hH
  obtain ⟨z2, its2, n2, r2, hl2, e2⟩ := I.lstM hB
  refine PySem.P.add_list e e2 ?_ (by rw [List.size_toArray, List.size_toArray]; omega)
  have ea : its.toArray ++ its2.toArray = (its ++ its2).toArray := by simp
  rw [ea]
  exact ⟨.ref _, _, I.lnew (t' := s.toks) (r.append r2) (by rw [List.length_append]; omega), rfl, q _ I.fresh⟩
end
section
variable {prog : Program} {w : World} {A : Around} {E : Value → Shared → Prop} {s : Shared}
set_option maxRecDepth 100000 in
end
section
variable {X : Cx}
end
end L2
namespace L2
open PySem PySem.Spec PyProof.Rows
theorem Vals.ints : ∀ {ns : List Int} {us : List Value}, Vals (ns.map V.int) us → IntsAre us ns
  | [], us, h => by
    rw [List.map_nil] at h
    cases h
    exact IntsAre.nil
  | n :: ns, us, h => by
    rw [List.map_cons] at h
    cases h with
    | cons r t =>
      obtain ⟨k, rfl⟩ := r
      exact IntsAre.cons n k (Vals.ints t)
section
variable {prog : Program} {w : World} {A : Around} {E : Value → Shared → Prop} {s : Shared} {l : Addr} {its : List Value} {ns : List Int} {Q : Value → Shared → Prop}
end
section
variable {X : Cx}
end
section
variable {X : Cx}
end
section
variable {X : Cx}
end
section
variable {X : Cx}
end
mutual
inductive Dp (K : PySem.W.Frag) (H : Hp) : V → PyData → Prop
  | non : Dp K H .non .none
  | bl (b : Bool) : Dp K H (.bl b) (.bool b)
  | int (i : Int) : Dp K H (.int i) (.int i)
  | str (x : Str) : Dp K H (.str x) (.str x)
  | lst {a : Addr} {xs : List V} {ds : List PyData} : SqL K H a xs → DpAll K H xs ds → Dp K H (.ref a) (.list ds)
  | tup {a : Addr} {xs : List V} {ds : List PyData} : SqT K H a xs → DpAll K H xs ds → Dp K H (.ref a) (.tuple ds)
inductive DpAll (K : PySem.W.Frag) (H : Hp) : List V → List PyData → Prop
  | nil : DpAll K H [] []
  | cons {v : V} {vs : List V} {d : PyData} {ds : List PyData} : Dp K H v d → DpAll K H vs ds → DpAll K H (v :: vs) (d :: ds)
end
section
variable {X : Cx} {pins : List (Addr × Obj)} {σ : St} {H : Hp} {s : Shared}
mutual
theorem Dp.reads (I : Inv X pins σ H s) : ∀ (d : PyData) (v : V) (u : Value), Dp X.K H v d → RelV v u → ∃ as, Reads s.heap u d as
  | .none, _, _, h, r => by
    cases h
    cases r
    exact ⟨_, Reads.none⟩
  | .bool b, _, _, h, r => by
    cases h
    cases r
    exact ⟨_, Reads.bool b⟩
  | .int i, _, _, h, r => by
    cases h
    obtain ⟨t, rfl⟩ := r
    exact ⟨_, Reads.int i t⟩
  | .str x, _, _, h, r => by
    cases h
    obtain ⟨t, rfl⟩ := r
    exact ⟨_, Reads.str x t⟩
  | .list ds, _, _, h, r => by
    cases h with
    | lst hs ha =>
      cases r
      obtain ⟨its, rv, ⟨o, n, ho, hc, _, hd⟩, _⟩ := I.list hs
      obtain ⟨as, hr⟩ := Dp.readsAll I ds _ its ha rv
      exact ⟨_, Reads.list ho hc hd hr⟩
  | .tuple ds, _, _, h, r => by
    cases h with
    | tup hs ha =>
      cases r
      obtain ⟨its, rv, ⟨o, ho, hc, n, hd⟩, _⟩ := I.tuple hs
      obtain ⟨as, hr⟩ := Dp.readsAll I ds _ its ha rv
      exact ⟨_, Reads.tuple ho hc hd hr⟩
  | .dict _, _, _, h, _ => by cases h
theorem Dp.readsAll (I : Inv X pins σ H s) : ∀ (ds : List PyData) (vs : List V) (us : List Value), DpAll X.K H vs ds → Vals vs us → ∃ as, ReadsAll s.heap us ds as
  | [], _, _, h, r => by
    cases h
    cases r
    exact ⟨_, ReadsAll.nil⟩
  | d :: ds, _, _, h, r => by
    cases h with
    | cons h1 h2 =>
      cases r with
      | cons r1 r2 =>
        obtain ⟨as, q1⟩ := Dp.reads I d _ _ h1 r1
        obtain ⟨bs, q2⟩ := Dp.readsAll I ds _ _ h2 r2
        exact ⟨_, ReadsAll.cons q1 q2⟩
end
end
section
variable {X : Cx}
end
end L2
namespace L2
open PySem PySem.Spec PyProof.Rows
abbrev CellAt (h : Heap) (c : Addr) (v : Option Value) : Prop := h.IsCell c v
def relS (scope sc : Scope) : Scope :=
  { scope with names := scope.names.map fun (n, k) => if (k == .free && sc.kind == .function && sc.names.lookup n == some .cell) then (n, .cell) else (n, k) }
def cloFrom (cells : List (Str × Addr)) : List (Str × NameKind) → List (Str × Addr) → List (Str × Addr)
  | [], acc => acc
  | (n, k) :: r, acc => if k == .free then cloFrom cells r ((n, (cells.lookup n).getD 0) :: acc) else cloFrom cells r acc
theorem closure_loop (env : Env) (f : Str × NameKind → List (Str × Addr) → Sem (ForInStep (List (Str × Addr))))
    (hf : ∀ n k c, f (n, k) c = if k == .free then (do let a ← cellOf env n; pure (.yield ((n, a) :: c))) else pure (.yield c)) :
    ∀ (names : List (Str × NameKind)) (acc : List (Str × Addr)), (∀ y ∈ names, y.2 = .free → ∃ c, env.cells.lookup y.1 = some c) → forIn names acc f = pure (cloFrom env.cells names acc)
  | [], acc, _ => by rw [List.forIn_nil]; rfl
  | (n, k) :: r, acc, h => by
    rw [List.forIn_cons, hf]
    have ih := fun acc => closure_loop env f hf r acc fun y hy => h y (List.mem_cons_of_mem _ hy)
    unfold cloFrom
    by_cases hk : (k == NameKind.free) = true
    · rw [if_pos hk, if_pos hk]
      obtain ⟨c, hc⟩ := h (n, k) List.mem_cons_self (by simpa using hk)
      have e : cellOf env n = pure c := by unfold cellOf; rw [hc]
      rw [e]
      have e2 : (env.cells.lookup n).getD 0 = c := by rw [hc]; rfl
      rw [e2]
      exact ih _
    · rw [if_neg hk, if_neg hk]
      exact ih _
theorem closure_ok {scope : Scope} {env : Env} (h : ∀ y ∈ scope.names, y.2 = .free → ∃ c, env.cells.lookup y.1 = some c) : closureFor scope env = pure (cloFrom env.cells scope.names []) := by
  simp only [closureFor]
  rw [closure_loop env _ (fun n k c => rfl) scope.names [] h]
  rfl
theorem mem_lookup {α : Type} : ∀ {l : List (Str × α)} {n : Str} {c : α}, (n, c) ∈ l → ∃ c', l.lookup n = some c'
  | (k, v) :: r, n, c, h => by
    rw [List.lookup_cons]
    cases hb : n == k with
    | true => exact ⟨_, rfl⟩
    | false =>
      rcases List.mem_cons.mp h with e | h
      · cases e; simp at hb
      · exact mem_lookup h
theorem cloFrom_mem {cells : List (Str × Addr)} : ∀ {names : List (Str × NameKind)} {acc : List (Str × Addr)} {n : Str} {c : Addr}, (n, c) ∈ cloFrom cells names acc → (n, c) ∈ acc ∨ ((n, .free) ∈ names ∧ c = (cells.lookup n).getD 0)
  | [], _, _, _, h => .inl h
  | (m, k) :: r, acc, n, c, h => by
    unfold cloFrom at h
    split at h
    · rename_i hk
      have hk : k = .free := by simpa using hk
      rcases cloFrom_mem h with h | ⟨h1, h2⟩
      · rcases List.mem_cons.mp h with e | h
        · cases e; exact .inr ⟨hk ▸ List.mem_cons_self, rfl⟩
        · exact .inl h
      · exact .inr ⟨List.mem_cons_of_mem _ h1, h2⟩
    · rcases cloFrom_mem h with h | ⟨h1, h2⟩
      · exact .inl h
      · exact .inr ⟨List.mem_cons_of_mem _ h1, h2⟩
theorem cloFrom_acc {cells : List (Str × Addr)} : ∀ {names : List (Str × NameKind)} {acc : List (Str × Addr)} {p : Str × Addr}, p ∈ acc → p ∈ cloFrom cells names acc
  | [], _, _, h => h
  | (m, k) :: r, acc, p, h => by
    unfold cloFrom
    split
    · exact cloFrom_acc (List.mem_cons_of_mem _ h)
    · exact cloFrom_acc h
theorem cloFrom_has {cells : List (Str × Addr)} : ∀ {names : List (Str × NameKind)} {acc : List (Str × Addr)} {n : Str}, (n, .free) ∈ names → (n, (cells.lookup n).getD 0) ∈ cloFrom cells names acc
  | (m, k) :: r, acc, n, h => by
    unfold cloFrom
    rcases List.mem_cons.mp h with e | h
    · cases e
      exact cloFrom_acc List.mem_cons_self
    · split
      · exact cloFrom_has h
      · exact cloFrom_has h
theorem cells_mem : ∀ {names : List (Str × NameKind)} {h : Heap} {acc : List (Str × Addr)} {x : Str} {c : Addr}, (x, c) ∈ cellsFrom h.objs.size names acc →
    (x, c) ∈ acc ∨ ((x, .cell) ∈ names ∧ h.objs.size ≤ c ∧ CellAt (pushCells h names) c none)
  | [], _, _, _, _, h => .inl h
  | (n, k) :: r, h, acc, x, c, hm => by
    unfold cellsFrom at hm
    unfold pushCells
    split at hm
    · rename_i hk
      rw [if_pos hk]
      have hk : k = .cell := by simpa using hk
      rw [← Heap.size_push h { cls := .type "cell", data := .cell none }] at hm
      rcases cells_mem hm with hm | ⟨h1, h2, h3⟩
      · rcases List.mem_cons.mp hm with e | hm
        · cases e
          exact .inr ⟨hk ▸ List.mem_cons_self, Nat.le_refl _, _, pushCells_keeps r _ _ _ (Heap.get?_push_size _ rfl), rfl⟩
        · exact .inl hm
      · rw [Heap.size_push] at h2
        exact .inr ⟨List.mem_cons_of_mem _ h1, Nat.le_of_succ_le h2, h3⟩
    · rename_i hk
      rw [if_neg hk]
      rcases cells_mem hm with hm | ⟨h1, h2, h3⟩
      · exact .inl hm
      · exact .inr ⟨List.mem_cons_of_mem _ h1, h2, h3⟩
theorem cells_acc : ∀ {names : List (Str × NameKind)} {n : Nat} {acc : List (Str × Addr)} {p : Str × Addr}, p ∈ acc → p ∈ cellsFrom n names acc
  | [], _, _, _, h => h
  | (m, k) :: r, n, acc, p, h => by
    unfold cellsFrom
    split
    · exact cells_acc (List.mem_cons_of_mem _ h)
    · exact cells_acc h
theorem cells_has : ∀ {names : List (Str × NameKind)} {n : Nat} {acc : List (Str × Addr)} {x : Str}, (x, .cell) ∈ names → ∃ c, (x, c) ∈ cellsFrom n names acc
  | (m, k) :: r, n, acc, x, h => by
    unfold cellsFrom
    rcases List.mem_cons.mp h with e | h
    · cases e
      exact ⟨n, cells_acc List.mem_cons_self⟩
    · split
      · exact cells_has h
      · exact cells_has h
theorem cells_inj : ∀ {names : List (Str × NameKind)} {h : Heap} {acc : List (Str × Addr)} {x y : Str} {c : Addr}, (∀ p ∈ acc, p.2 < h.objs.size) → (∀ x y c, (x, c) ∈ acc → (y, c) ∈ acc → x = y) →
    (x, c) ∈ cellsFrom h.objs.size names acc → (y, c) ∈ cellsFrom h.objs.size names acc → x = y
  | [], _, _, _, _, _, _, hi, h1, h2 => hi _ _ _ h1 h2
  | (n, k) :: r, h, acc, x, y, c, hl, hi, h1, h2 => by
    unfold cellsFrom at h1 h2
    split at h1
    · rename_i hk
      rw [if_pos hk] at h2
      rw [← Heap.size_push h { cls := .type "cell", data := .cell none }] at h1 h2
      refine cells_inj (h := h.push _) (fun p hp => ?_) (fun x y c a b => ?_) h1 h2
      · rw [Heap.size_push]
        rcases List.mem_cons.mp hp with rfl | hp
        · exact Nat.lt_succ_self _
        · exact Nat.lt_succ_of_lt (hl p hp)
      · rcases List.mem_cons.mp a with e | a <;> rcases List.mem_cons.mp b with e' | b
        · cases e; cases e'; rfl
        · cases e; exact absurd (hl _ b) (Nat.lt_irrefl _)
        · cases e'; exact absurd (hl _ a) (Nat.lt_irrefl _)
        · exact hi _ _ _ a b
    · rename_i hk
      rw [if_neg hk] at h2
      exact cells_inj hl hi h1 h2
theorem newEnv_comp {M : Model} {A : Around} {E : Value → Shared → Prop} {s : Shared} {scope : Scope} {globals : Addr} {closure : List (Str × Addr)} {qual : Str} {func : Option Addr} {code : Value} {around : Env} {builtins : Addr} {Q : Env → Shared → Prop}
    (h : Q (newEnv scope s.heap.objs.size globals (cellsFrom (s.heap.objs.size + 1) scope.names closure) qual func code (some around) builtins)
      { s with heap := pushCells (s.heap.push { cls := .type "dict", data := .dict #[] }) scope.names }) :
    wpAny M A (newFunctionEnv scope globals closure [] qual func code (some around) builtins) Q E s := by
  simp only [newFunctionEnv, Option.isSome_some, if_true]
  refine wpAny_bind (wpAny_alloc ?_)
  refine wpAny_bind (wpAny_layCells _ (fun n k c => rfl) scope.names closure _ _ ?_)
  rw [show ({ s with heap := s.heap.push { cls := .type "dict", data := .dict #[] } } : Shared).heap.objs.size = s.heap.objs.size + 1 from Heap.size_push ..]
  rw [List.forIn_nil]
  exact wpAny_bind (wpAny_pure (wpAny_pure h))
theorem lookup_relS {sc : Scope} : ∀ {names : List (Str × NameKind)} {x : Str} {k : NameKind},
    (names.map fun (n, k) => if (k == NameKind.free && sc.kind == .function && sc.names.lookup n == some .cell) then (n, NameKind.cell) else (n, k)).lookup x = some k →
    ∃ k', names.lookup x = some k' ∧ (k = k' ∨ (k' = .free ∧ k = .cell))
  | [], _, _, h => by simp at h
  | (n, k₀) :: r, x, k, h => by
    have ih := @lookup_relS sc r x k
    have h' : List.lookup x ((if (k₀ == NameKind.free && sc.kind == .function && sc.names.lookup n == some .cell) = true then (n, NameKind.cell) else (n, k₀)) :: (r.map _)) = some k := h
    cases hx : x == n with
    | true =>
      simp only [List.lookup_cons, hx]
      by_cases hc : (k₀ == NameKind.free && sc.kind == .function && sc.names.lookup n == some .cell) = true
      · rw [if_pos hc] at h'
        simp only [List.lookup_cons, hx] at h'
        cases h'
        simp only [Bool.and_eq_true, beq_iff_eq] at hc
        exact ⟨k₀, rfl, .inr ⟨hc.1.1, rfl⟩⟩
      · rw [if_neg hc] at h'
        simp only [List.lookup_cons, hx] at h'
        cases h'
        exact ⟨_, rfl, .inl rfl⟩
    | false =>
      simp only [List.lookup_cons, hx]
      by_cases hc : (k₀ == NameKind.free && sc.kind == .function && sc.names.lookup n == some .cell) = true
      · rw [if_pos hc] at h'
        simp only [List.lookup_cons, hx] at h'
        exact ih h'
      · rw [if_neg hc] at h'
        simp only [List.lookup_cons, hx] at h'
        exact ih h'
structure BlkOk (N : List Str) (sc scope : Scope) (own : List (Str × Nat)) : Prop where
  kind : scope.kind = .function
  uniq : ∀ y ∈ scope.names, scope.names.lookup y.1 = some y.2
  ix : ∀ p ∈ own, N[p.2]? = some p.1
  free : ∀ y ∈ scope.names, y.2 = .free → sc.names.lookup y.1 = some .cell ∨ sc.names.lookup y.1 = some .free
  own : ∀ y ∈ scope.names, y.2 = .local ∨ y.2 = .cell → y.1 ∈ own.map (·.1) ∨ y.1 ∉ N
def wipe (σ : St) : List Nat → St
  | [] => σ
  | v :: vs => (wipe σ vs).set v none
theorem wipe_length (σ : St) : ∀ vs : List Nat, (wipe σ vs).length = σ.length
  | [] => rfl
  | v :: vs => by unfold wipe; rw [List.length_set, wipe_length σ vs]
theorem wipe_some {σ : St} {i : Nat} {x : V} : ∀ {vs : List Nat}, (wipe σ vs)[i]? = some (some x) → σ[i]? = some (some x) ∧ i ∉ vs
  | [], h => ⟨h, by simp⟩
  | v :: vs, h => by
    unfold wipe at h
    by_cases hi : v = i
    · subst hi
      by_cases hv : v < (wipe σ vs).length
      · rw [List.getElem?_set_self hv] at h; cases h
      · rw [List.getElem?_eq_none (by simpa using hv)] at h; cases h
    · rw [List.getElem?_set_ne hi] at h
      obtain ⟨h1, h2⟩ := wipe_some h
      exact ⟨h1, by simp only [List.mem_cons, not_or]; exact ⟨fun e => hi e.symm, h2⟩⟩
abbrev Cx.blk (X : Cx) (s : Shared) (H : Hp) (scope : Scope) (cenv : Env) (fp : List Addr) : Cx := { X with s_0 := s, H_0 := H, env := cenv, outer := X.stack, ex := fp, fn := fun x => scope.names.lookup x == some .cell, pn := [], xe := fun _ _ => False }
section
variable {X : Cx} {pins : List (Addr × Obj)} {σ : St} {H : Hp} {s : Shared}
theorem block_start {scope : Scope} {own : List (Str × Nat)} {fp : List Addr} (I : Inv X pins σ H s) (ok : BlkOk X.N X.env.scope scope own) (hN : X.N.Nodup) (hfp : ∀ b ∈ fp, FpOk X pins H b ∧ b < s.heap.objs.size) :
    Inv (X.blk s H scope (compEnvC scope (cellsFrom (s.heap.objs.size + 1) scope.names (cloFrom X.env.cells scope.names [])) s.heap.objs.size X.env) fp) [] (wipe σ (own.map (·.2))) H { s with heap := pushCells (s.heap.push { cls := .type "dict", data := .dict #[] }) scope.names } := by
  have hfree : ∀ y ∈ scope.names, y.2 = .free → ∃ c, X.env.cells.lookup y.1 = some c := fun y hy e => by
    rcases ok.free y hy e with k | k
    · exact I.ok.has _ (.inl k)
    · exact I.ok.has _ (.inr k)
  generalize hcenv : compEnvC scope (cellsFrom (s.heap.objs.size + 1) scope.names (cloFrom X.env.cells scope.names [])) s.heap.objs.size X.env = cenv
  have kp : ∀ b o, s.heap.get? b = some o → (pushCells (s.heap.push { cls := .type "dict", data := .dict #[] }) scope.names).get? b = some o := fun b o e => pushCells_keeps _ _ _ _ (Heap.get?_push_of_some _ e)
  have hL : cenv.locals = s.heap.objs.size := by rw [← hcenv]; rfl
  have hcl : cenv.cells = cellsFrom (s.heap.objs.size + 1) scope.names (cloFrom X.env.cells scope.names []) := by rw [← hcenv]; rfl
  have hsc : cenv.scope = relS scope X.env.scope := by rw [← hcenv]; rfl
  rw [← Heap.size_push s.heap { cls := .type "dict", data := .dict #[] }] at hcl
  have cm : ∀ {y c}, (y, c) ∈ cloFrom X.env.cells scope.names [] → X.env.cells.lookup y = some c ∧ c < s.heap.objs.size := fun {y c} hm => by
    rcases cloFrom_mem hm with hm | ⟨h1, rfl⟩
    · cases hm
    · obtain ⟨c, hc⟩ := hfree _ h1 rfl
      rw [hc]
      obtain ⟨w, z⟩ := I.cell _ _ hc
      exact ⟨rfl, z.lt⟩
  have mem : ∀ {y c}, cenv.cells.lookup y = some c → (X.env.cells.lookup y = some c ∧ c < s.heap.objs.size) ∨ (s.heap.objs.size + 1 ≤ c ∧ CellAt (pushCells (s.heap.push { cls := .type "dict", data := .dict #[] }) scope.names) c none) := fun {y c} e => by
    rw [hcl] at e
    rcases cells_mem (PySem.mem_of_lookup e) with hm | ⟨_, h2, h3⟩
    · exact .inl (cm hm)
    · rw [Heap.size_push] at h2; exact .inr ⟨h2, h3⟩
  have look : ∀ {y}, scope.names.lookup y = some .free → ∃ c, cenv.cells.lookup y = some c ∧ X.env.cells.lookup y = some c := fun {y} hl => by
    have hy : (y, NameKind.free) ∈ scope.names := PySem.mem_of_lookup hl
    obtain ⟨c', e'⟩ := mem_lookup (cells_acc (names := scope.names) (n := (s.heap.push { cls := .type "dict", data := .dict #[] }).objs.size) (cloFrom_has (cells := X.env.cells) (acc := []) hy))
    rw [← hcl] at e'
    refine ⟨c', e', ?_⟩
    rw [hcl] at e'
    rcases cells_mem (PySem.mem_of_lookup e') with hm | ⟨h1, _, _⟩
    · exact (cm hm).1
    · have := ok.uniq _ h1
      rw [hl] at this; cases this
  have okB : (X.blk s H scope cenv fp).Ok := by
    refine ⟨I.ok.mod, by show cenv.scope.kind = _; rw [hsc]; exact ok.kind, by show cenv.globals = _; rw [← hcenv]; exact I.ok.glob, by show cenv.builtins = _; rw [← hcenv]; exact I.ok.blt, by show s.heap.objs.size ≤ cenv.locals; rw [hL]; exact Nat.le_refl _,
      fun y z c e1 e2 => ?_, fun y hy => ?_, fun y c z e => ?_, I.ok.hd, I.ok.frames, .inl rfl, fun b hb => ⟨?_, fun y c e z => ?_⟩, I.bs, Nat.le_trans I.ok.bsz I.sz, fun b o e hb => ?_, fun b hb z => ?_, I.stack, I.stkFree⟩
    · have e1 : cenv.cells.lookup y = some c := e1
      have e2 : cenv.cells.lookup z = some c := e2
      rw [hcl] at e1 e2
      refine cells_inj (fun p hp => ?_) (fun y z c a b => I.ok.inj y z c (cm a).1 (cm b).1) (PySem.mem_of_lookup e1) (PySem.mem_of_lookup e2)
      rw [Heap.size_push]
      exact Nat.lt_succ_of_lt (cm (y := p.1) (c := p.2) hp).2
    · show ∃ c, cenv.cells.lookup y = some c
      have key : ∀ k, cenv.kindOf y = some k → (k = .cell ∨ k = .free) → ∃ c, cenv.cells.lookup y = some c := fun k hk hk' => by
        unfold Env.kindOf at hk
        rw [hsc] at hk
        obtain ⟨k', e, r⟩ := lookup_relS hk
        have : k' = .cell ∨ k' = .free := by
          rcases r with rfl | ⟨rfl, _⟩
          · exact hk'
          · exact .inr rfl
        rcases this with rfl | rfl
        · obtain ⟨c, hm⟩ := cells_has (n := (s.heap.push { cls := .type "dict", data := .dict #[] }).objs.size) (acc := cloFrom X.env.cells scope.names []) (PySem.mem_of_lookup e)
          obtain ⟨c', e'⟩ := mem_lookup hm
          exact ⟨c', by rw [hcl]; exact e'⟩
        · obtain ⟨c, h1, _⟩ := look e
          exact ⟨c, h1⟩
      rcases hy with hy | hy
      · exact key _ hy (.inl rfl)
      · exact key _ hy (.inr rfl)
    · have z : (scope.names.lookup y == some NameKind.cell) = true := z
      have z : scope.names.lookup y = some .cell := by simpa using z
      have e : cenv.cells.lookup y = some c := e
      rw [hcl] at e
      rcases cells_mem (PySem.mem_of_lookup e) with hm | ⟨_, h2, _⟩
      · rcases cloFrom_mem hm with hm | ⟨h1, _⟩
        · cases hm
        · have q := ok.uniq _ h1
          rw [z] at q; cases q
      · rw [Heap.size_push] at h2
        exact Nat.le_of_succ_le h2
    · show b ≠ cenv.locals
      rw [hL]; exact Nat.ne_of_lt (hfp b hb).2
    · have e : cenv.cells.lookup y = some c := e
      rcases mem e with ⟨h1, _⟩ | ⟨h1, _⟩
      · exact (hfp b hb).1.2.2.2.2.1 y c h1 z
      · have h2 : s.heap.objs.size + 1 ≤ b := by rw [← z]; exact h1
        exact absurd (Nat.lt_of_lt_of_le (hfp b hb).2 (Nat.le_of_succ_le h2)) (Nat.lt_irrefl _)
    · rcases (hfp b hb).1.2.2.2.1 with z | z
      · exact I.ok.noex b o e z
      · exact absurd (Nat.lt_of_lt_of_le (Heap.lt_size e) (Nat.le_trans I.ok.bsz z)) (Nat.lt_irrefl _)
    · rcases List.mem_cons.mp (I.stkSub b z) with z | z
      · exact (hfp b hb).1.2.1 z
      · exact (hfp b hb).1.2.2.1 z
  refine ⟨okB, rfl, I.bare, Un.kept kp, ⟨fun _ => none, ?_, fun i y av e1 e2 e3 => ?_⟩, fun y c e => ?_, ?_, fun y c e => ?_, fun p hp => ?_, I.hok.kept kp, by rw [wipe_length]; exact I.len⟩
  · show Heap.Ns _ cenv.locals _
    rw [hL]
    exact Heap.Ns.keeps (Heap.Ns.new ..) fun b o e => pushCells_keeps _ _ _ _ e
  · obtain ⟨e2, hne⟩ := wipe_some e2
    have hfr : scope.names.lookup y = some .free ∧ (cenv.kindOf y = some .cell ∨ cenv.kindOf y = some .free) := by
      have key : ∀ k, cenv.scope.names.lookup y = some k → k = .local ∨ k = .cell ∨ k = .free → scope.names.lookup y = some .free ∧ (cenv.kindOf y = some .cell ∨ cenv.kindOf y = some .free) := fun k hk hk' => by
        have hk0 := hk
        rw [hsc] at hk
        obtain ⟨k', e, r⟩ := lookup_relS hk
        have no : ¬ (k' = .local ∨ k' = .cell) := fun hh => by
          rcases ok.own _ (PySem.mem_of_lookup e) hh with e' | e'
          · obtain ⟨p, hp, hpy⟩ := List.mem_map.mp e'
            have e3 := ok.ix p hp
            have : p.1 = y := hpy
            rw [this] at e3
            exact hne (List.mem_map.mpr ⟨p, hp, nodup_ix hN e3 e1⟩)
          · exact e' (List.mem_of_getElem? e1)
        rcases r with rfl | ⟨rfl, rfl⟩
        · rcases hk' with rfl | rfl | rfl
          · exact absurd (.inl rfl) no
          · exact absurd (.inr rfl) no
          · exact ⟨e, .inr hk0⟩
        · exact ⟨e, .inl hk0⟩
      have e3 : Vis cenv.scope y := e3
      rcases e3 with e3 | e3 | e3
      · exact key _ e3 (.inl rfl)
      · exact key _ e3 (.inr (.inl rfl))
      · exact key _ e3 (.inr (.inr rfl))
    obtain ⟨m, hn, hl⟩ := I.loc
    have hvis : Vis X.env.scope y := (ok.free _ (PySem.mem_of_lookup hfr.1) rfl).elim (fun k => .inr (.inl k)) (fun k => .inr (.inr k))
    obtain ⟨w, r, q⟩ := hl i y av e1 e2 hvis
    refine ⟨w, r, .inr ⟨hfr.2, ?_⟩⟩
    obtain ⟨c, h1, h2⟩ := look hfr.1
    rcases q with ⟨k, _⟩ | ⟨_, c', e', z⟩
    · have k : X.env.scope.names.lookup y = some .local := k
      rcases ok.free _ (PySem.mem_of_lookup hfr.1) rfl with k' | k' <;> rw [show X.env.scope.names.lookup y = _ from k'] at k <;> cases k
    · rw [h2] at e'; cases e'
      exact ⟨c, h1, z.keeps kp⟩
  · have e : cenv.cells.lookup y = some c := e
    rcases mem e with ⟨h1, _⟩ | ⟨_, z⟩
    · obtain ⟨w, z⟩ := I.cell y c h1
      exact ⟨w, z.keeps kp⟩
    · exact ⟨_, z⟩
  · show H cenv.locals = none
    rw [hL]; exact I.hok.fresh (Nat.le_refl _)
  · have e : cenv.cells.lookup y = some c := e
    rcases mem e with ⟨h1, _⟩ | ⟨h1, _⟩
    · exact I.freeC y c h1
    · exact I.hok.fresh (Nat.le_of_succ_le h1)
  · exact absurd (show p ∈ ([] : List (Addr × Obj)) ++ [] from hp) (by simp)
theorem app_ok {E : Value → Shared → Prop} {D : Addr} {xs : List V} {y : V} {v : Value} {Q : Value → Shared → Prop} (I : Inv X pins σ H s) (hD : H D = some (.lst xs)) (hz : xs.length < sizeLine) (r : RelV y v)
    (h : ∀ s', Inv X pins σ (upd H D (.lst (xs ++ [y]))) s' → Q .none s') : wpAny (model X.prog X.w) X.A (call (.builtin "list.append") [.ref D, v]) Q E s := by
  obtain ⟨hz', its, n, ri, e⟩ := I.hok D _ hD
  have hl := ri.length
  refine append_at (hsz := by rw [List.size_toArray]; omega) e fun h' sb ho' => ?_
  refine h { s with heap := h' } (I.write (t' := s.toks) (by rw [hD]; trivial) (.inl rfl) (fun b u hb q => (sb.2 b hb).trans q) ⟨_, ho'⟩ ⟨by rw [List.length_append]; exact hz, its ++ [v], n + 1, ri.append (.cons r .nil), ?_⟩)
  rw [ho']
  simp
def PTs (X : Cx) (ifs : List Expr) (t : TT) : Prop :=
  ∀ (pins : List (Addr × Obj)) (s : Shared) (σ : St) (H : Hp) (Q : Bool → Hp → Prop), Inv X pins σ H s → t σ H Q →
    wpAny (model X.prog X.w) X.A (forIn ifs true fun c r => if r = true then do let ok ← isTrue c X.env (eval c X.env); pure (ForInStep.yield ok) else pure (ForInStep.yield r)) (TP X pins σ Q) X.xe s
def tYes : TT := fun _ H Q => Q true H
theorem pts_nil : PTs X [] tYes := fun _ _ _ H _ I h => wpAny_tests_nil ⟨H, I, h⟩
theorem pts_one {c : Expr} {t : TT} (h : PT X c t) : PTs X [c] t := fun pins s σ H Q I hw => wpAny_tests_one (h pins s σ H Q I hw)
end
theorem thnF {α : Type} {t : Sem α} {Q Q' : α → Shared → Prop} {M : Model} {A : Around} {E : Value → Shared → Prop} {s : Shared} (h : wpAny M A t Q (fun _ _ => False) s) (hQ : ∀ a s, Q a s → Q' a s) : wpAny M A t Q' E s := wpAny_mono h hQ fun _ _ z => False.elim z
theorem compLoop_any {prog : Program} {w : World} {A : Around} {R : Result → Shared → Prop} {s : Shared} {elt target iter : Expr} {ifs : List Expr} {scope : Scope} {pos : Pos} {it acc : Value} {env : Env} (I : Nat → Shared → Prop)
    (turn : ∀ n s, I n s → wpAny (model prog w) A (pyNext it) (fun r s₁ => match r with
      | none => R (.ok .next) s₁
      | some v => wpAny (model prog w) A (letOwnedTupleGo target it v) (fun _ s₁' => wpAny (model prog w) A (assign target env v) (fun _ s₂ =>
          wpAny (model prog w) A (forIn ifs true fun c r => if r = true then do let ok ← isTrue c env (eval c env); pure (ForInStep.yield ok) else pure (ForInStep.yield r)) (fun ok s₃ =>
            if ok = true then wpAny (model prog w) A (eval elt env) (fun x s₄ =>
              wpAny (model prog w) A (call (.builtin "list.append") [acc, x]) (fun _ s₅ => ∃ m, m < n ∧ I m s₅) (notedBy (model prog w) A env fun e s' => R (.error e) s') s₄) (notedBy (model prog w) A env fun e s' => R (.error e) s') s₃
            else ∃ m, m < n ∧ I m s₃) (notedBy (model prog w) A env fun e s' => R (.error e) s') s₂) (notedBy (model prog w) A env fun e s' => R (.error e) s') s₁') (notedBy (model prog w) A env fun e s' => R (.error e) s') s₁) (notedBy (model prog w) A env fun e s' => R (.error e) s') s)
    (n : Nat) (h : I n s) :
    codeAny (model prog w) A (.compLoop (.ListComp elt [⟨target, iter, ifs, 0⟩] scope pos) 0 it acc env) R s := by
  refine codeAny_loop rfl I (fun n s hI => ?_) n h
  show wpAny _ A ((compTurn (.ListComp elt [⟨target, iter, ifs, 0⟩] scope pos) 0 it acc env).onRaise (fun x => do noteFrame x env; theTreesLotGoes x)) _ _ s
  refine wpAny_noted ?_
  rw [compTurn_list]
  refine wpAny_bind (wpAny_standAt (wpAny_bind (wpAny_mono (turn n s hI) (fun r s₁ h₁ => ?_) fun _ _ h' => h')))
  cases r with
  | none => exact wpAny_pure h₁
  | some v =>
    refine wpAny_bind (wpAny_mono h₁ (fun _ s₁' h₁' => ?_) fun _ _ h' => h')
    refine wpAny_bind (wpAny_mono h₁' (fun _ s₂ h₂ => wpAny_bind (wpAny_mono h₂ (fun ok s₃ h₃ => ?_) fun _ _ h' => h')) fun _ _ h' => h')
    cases ok with
    | false => exact wpAny_pure ⟨rfl, h₃⟩
    | true =>
      exact wpAny_bind (wpAny_bind (wpAny_mono h₃ (fun x s₄ h₄ => wpAny_bind (wpAny_mono h₄ (fun _ s₅ h₅ => wpAny_pure (wpAny_pure ⟨rfl, h₅⟩)) fun _ _ h' => h')) fun _ _ h' => h'))
section
variable {X : Cx}
def tLc (wi : TI) (g : TG) (tt : TT) (te : TE) (vs : List Nat) : TE := fun σ H Q => wi σ H fun J H1 => ∀ D, H1 D = none → ∃ W : Nat → Nat → Hp → Prop, (∃ m, W 0 m (upd H1 D (.lst []))) ∧ ∀ i m H, W i m H →
  (J.stop i H ∧ Q (.ref D) H) ∨ (J.go i H ∧ ∃ Nx : Hp → Prop, (∀ H', Nx H' → ∃ m', m' < m ∧ W (i + 1) m' H') ∧ ∀ x H', J.yld i H x H' → g x (wipe σ vs) H' fun σ2 H2 => wipe σ2 vs = wipe σ vs ∧ tt σ2 H2 fun b H3 =>
    if b = true then te σ2 H3 fun y H4 => ∃ acc, H4 D = some (.lst acc) ∧ acc.length < sizeLine ∧ Nx (upd H4 D (.lst (acc ++ [y]))) else Nx H3)
theorem lc_core {pins : List (Addr × Obj)} {s : Shared} {σ : St} {H : Hp} {Q : VK} {elt tg iter : Expr} {ifs : List Expr} {scope : Scope} {own : List (Str × Nat)} {pos pos' : Pos} {wi : TI} {g : TG} {tt : TT} {te : TE} {use : Option (Value → Sem Unit)} {Qf : Value → Shared → Prop}
    (hc : X.calm = true) (hN : X.N.Nodup) (I : Inv X pins σ H s) (hi : PI X tg iter wi) (ok : BlkOk X.N X.env.scope scope own)
    (hg : ∀ (s : Shared) (H : Hp) (C : Addr) (cl : List (Str × Addr)) (fp : List Addr), PG (X.blk s H scope (compEnvC scope cl C X.env) fp) tg g) (ht : ∀ (s : Shared) (H : Hp) (C : Addr) (cl : List (Str × Addr)) (fp : List Addr), PTs (X.blk s H scope (compEnvC scope cl C X.env) fp) ifs tt)
    (he : ∀ (s : Shared) (H : Hp) (C : Addr) (cl : List (Str × Addr)) (fp : List Addr), PE (X.blk s H scope (compEnvC scope cl C X.env) fp) elt te) (hs : ∀ x, foldedSetIterable iter X.env x = pure x)
    (h : tLc wi g tt te (own.map (·.2)) σ H Q)
    (hRR : ∀ D C s' m H', Inv X pins σ H' s' → Q (.ref D) H' → s'.heap.Ns C m → FpOk X pins H' C → compPost (model X.prog X.w) X.A X.xe use Qf (.ref D) C (.ok .next) s') :
    wpAny (model X.prog X.w) X.A (comprehension (.ListComp elt [⟨tg, iter, ifs, 0⟩] scope pos) scope X.env pos' (newList []) false (eval iter X.env) use) Qf X.xe s := by
  have hfree : ∀ y ∈ scope.names, y.2 = .free → ∃ c, X.env.cells.lookup y.1 = some c := fun y hy e => by
    rcases ok.free y hy e with k | k
    · exact I.ok.has _ (.inl k)
    · exact I.ok.has _ (.inr k)
  refine wpAny_comprehension_free (use := use) rfl hs (closure_ok hfree) ok.kind (fun y hy e => by rw [ok.uniq y hy, e])
    (thn (hi pins s σ H _ I h) fun xv s1 hx => thn hx fun itv s2 h2 => ?_)
  obtain ⟨it, fp, tn, J, H2, e, I2, T, st2, f2, q⟩ := h2
  subst e
  refine wpAny_newObj_type (newEnv_comp ?_) (by show 0 ≤ sizeLine; decide)
  generalize hD : s2.heap.objs.size = D
  have hDn : H2 D = none := I2.hok.fresh (Nat.le_of_eq hD)
  obtain ⟨W, ⟨m0, w0⟩, turn⟩ := q D hDn
  -- the new list
  generalize hs3 : ({ s2 with heap := s2.heap.push { cls := .type "list", data := .seq ([] : List Value).toArray } } : Shared) = s3
  have I3 : Inv X pins σ (upd H2 D (.lst [])) s3 := by
    rw [← hs3]
    refine I2.laid (t' := s2.toks) (fun b o e => Heap.get?_push_of_some _ e) (Nat.le_of_eq hD) ⟨Nat.zero_le _, [], 0, .nil, ?_⟩
    rw [← hD]
    exact Heap.get?_push_size _ rfl
  have h3 : s3.heap = s2.heap.push { cls := .type "list", data := .seq ([] : List Value).toArray } := by rw [← hs3]
  have sz : ∀ b ∈ fp, b < s2.heap.objs.size := fun b hb => by
    obtain ⟨o, e, _⟩ := T.obj _ _ st2 b hb
    exact Heap.lt_size e
  have f3 : ∀ b ∈ fp, FpOk X pins (upd H2 D (.lst [])) b ∧ b < s3.heap.objs.size := fun b hb => by
    have hlt := sz b hb
    refine ⟨⟨?_, (f2 b hb).2⟩, by rw [h3, Heap.size_push]; exact Nat.lt_succ_of_lt hlt⟩
    rw [upd_ne (by rw [← hD]; exact Nat.ne_of_lt hlt)]
    exact (f2 b hb).1
  have st3 : tn 0 s3.heap := T.keep _ _ _ st2 fun b _ o e => by rw [h3]; exact Heap.get?_push_of_some _ e
  have I4 := block_start I3 ok hN f3
  have pg := hg s3 (upd H2 D (.lst [])) s3.heap.objs.size (cellsFrom (s3.heap.objs.size + 1) scope.names (cloFrom X.env.cells scope.names [])) fp
  have pt := ht s3 (upd H2 D (.lst [])) s3.heap.objs.size (cellsFrom (s3.heap.objs.size + 1) scope.names (cloFrom X.env.cells scope.names [])) fp
  have pe := he s3 (upd H2 D (.lst [])) s3.heap.objs.size (cellsFrom (s3.heap.objs.size + 1) scope.names (cloFrom X.env.cells scope.names [])) fp
  show codeAny _ _ (.compStart (.ListComp elt [⟨tg, iter, ifs, 0⟩] scope pos) 0 (.ref it) (.ref D) (compEnvC scope (cellsFrom (s3.heap.objs.size + 1) scope.names (cloFrom X.env.cells scope.names [])) s3.heap.objs.size X.env)) (compPost (model X.prog X.w) X.A X.xe use Qf (.ref D) s3.heap.objs.size) { s3 with heap := pushCells (s3.heap.push { cls := .type "dict", data := .dict #[] }) scope.names }
  have nfp : ∀ b ∈ fp, (upd H2 D (.lst [])) b = none := fun b hb => (f3 b hb).1.1
  generalize hce : compEnvC scope (cellsFrom (s3.heap.objs.size + 1) scope.names (cloFrom X.env.cells scope.names [])) s3.heap.objs.size X.env = ce at I4 pg pt pe ⊢
  have cL : ce.locals = s3.heap.objs.size := by subst hce; rfl
  generalize hH3 : upd H2 D (.lst []) = H3 at I3 I4 pg pt pe w0 nfp f3
  generalize hs4 : ({ s3 with heap := pushCells (s3.heap.push { cls := .type "dict", data := .dict #[] }) scope.names } : Shared) = s4 at I4 ⊢
  have st4 : tn 0 s4.heap := T.keep _ _ _ st3 fun b _ o e => by rw [← hs4]; exact pushCells_keeps _ _ _ _ (Heap.get?_push_of_some _ e)
  have stat : ∀ {σ' : St} {H' : Hp} {s' : Shared}, Inv (X.blk s3 H3 scope ce fp) [] σ' H' s' → (∀ b ∈ fp, H' b = none) → ∀ b ∈ fp, FpOk (X.blk s3 H3 scope ce fp) [] H' b := fun {σ' H' s'} I' hn b hb =>
    ⟨hn b hb, (I'.ok.exf b hb).1, I'.ok.exfs b hb, .inl hb, fun x c e => (I'.ok.exf b hb).2 x c e, fun p hp => absurd (show p ∈ ([] : List (Addr × Obj)) ++ [] from hp) (by simp)⟩
  have loop : codeAny (model X.prog X.w) X.A (.compLoop (.ListComp elt [⟨tg, iter, ifs, 0⟩] scope pos) 0 (.ref it) (.ref D) ce) (compPost (model X.prog X.w) X.A X.xe use Qf (.ref D) s3.heap.objs.size) s4 := by
    refine compLoop_any (fun n s' => ∃ i H', Inv (X.blk s3 H3 scope ce fp) [] (wipe σ (own.map (·.2))) H' s' ∧ tn i s'.heap ∧ (∀ b ∈ fp, H' b = none) ∧ W i n H') ?_ m0 ⟨0, H3, I4, st4, nfp, w0⟩
    rintro n s5 ⟨i, H5, I5, st5, n5, w5⟩
    rcases turn i n H5 w5 with ⟨stop, qq⟩ | ⟨go, Nx, hNx, step⟩
    · have td := T.done (X.blk s3 H3 scope ce fp) rfl rfl rfl hc i [] s5 _ H5 (fun _ _ => False) I5 (stat I5 n5) st5 stop
      refine thnF td fun r s6 ⟨hr, I6⟩ => ?_
      subst hr
      -- back in the def's context
      have I7 : Inv X pins σ H5 s6 := I3.call' (ch := fp) I6.os I6.base I6.hok I6.bare fun b hb => ⟨(f3 b hb).1.2.2.2.1, (f3 b hb).1.2.1, (f3 b hb).1.2.2.2.2.1, (f3 b hb).1.2.2.2.2.2⟩
      have nC : H5 s3.heap.objs.size = none := by
        have z : H5 ce.locals = none := I6.free
        rw [cL] at z
        exact z
      obtain ⟨m, hn, _⟩ := I6.loc
      have hn : s6.heap.Ns ce.locals m := hn
      rw [cL] at hn
      exact hRR D s3.heap.objs.size s6 m H5 I7 qq hn (I3.fpOk (Nat.le_refl _) nC)
    · have ti := T.item (X.blk s3 H3 scope ce fp) rfl rfl rfl hc i [] s5 _ H5 (fun _ _ => False) I5 (stat I5 n5) st5 go
      refine thnF ti fun r s6 ⟨u, hr, h6⟩ => ?_
      subst hr
      refine thnF h6 fun _ s7 ⟨x, H7, I7, r7, y7, st7, n7⟩ => ?_
      have I7' := I7.pinned (stat I7 n7) (T.obj _ _ st7)
      refine thnF (pg _ s7 _ H7 x u _ I7' r7 (step x H7 y7)) fun _ s8 ⟨σ8, H8, I8, hw8, q8⟩ => ?_
      refine thnF (pt _ s8 σ8 H8 _ I8 q8) fun b s9 ⟨H9, I9, q9⟩ => ?_
      -- the turn's end
      have fin : ∀ {s' : Shared} {H' : Hp}, Inv (X.blk s3 H3 scope ce fp) ([] ++ pinsAt fp s7.heap) σ8 H' s' → Nx H' → ∃ m, m < n ∧ ∃ i H', Inv (X.blk s3 H3 scope ce fp) [] (wipe σ (own.map (·.2))) H' s' ∧ tn i s'.heap ∧ (∀ b ∈ fp, H' b = none) ∧ W i m H' := fun {s' H'} I' nx => by
        obtain ⟨m', hm, w'⟩ := hNx H' nx
        have pin' : ∀ b ∈ fp, ∀ o, s7.heap.get? b = some o → s'.heap.get? b = some o ∧ H' b = none := fun b hb o e =>
          let z := I'.pin (b, o) (List.mem_append_right _ (List.mem_append_right _ (mem_pinsAt hb e)))
          ⟨z.1, z.2.1⟩
        have hl : (wipe σ (own.map (·.2))).length = σ8.length := by rw [← hw8, wipe_length]
        refine ⟨m', hm, i + 1, H', (I'.unpinned (pins := [])).weak hl (fun j v e => ?_), T.keep _ _ _ st7 fun b hb o e => (pin' b hb o e).1, fun b hb => ?_, w'⟩
        · rw [← hw8] at e
          exact (wipe_some e).1
        · obtain ⟨o, e, _⟩ := T.obj _ _ st7 b hb
          exact (pin' b hb o e).2
      cases b with
      | false =>
        simp only [Bool.false_eq_true, if_false] at q9 ⊢
        exact fin I9 q9
      | true =>
        simp only [if_true] at q9 ⊢
        refine thnF (pe _ s9 σ8 H9 _ I9 q9) fun z s10 ⟨yv, H10, I10, r10, acc, hD10, hz10, nx⟩ => ?_
        exact app_ok (X := X.blk s3 H3 scope ce fp) I10 hD10 hz10 r10 fun s11 I11 => fin I11 nx
  exact codeAny_compStart_list loop (T.self X.A 0 _ _ _ st4 loop)
theorem pe_lc {elt tg iter : Expr} {ifs : List Expr} {scope : Scope} {own : List (Str × Nat)} {pos : Pos} {wi : TI} {g : TG} {tt : TT} {te : TE} (hc : X.calm = true) (hN : X.N.Nodup) (hi : PI X tg iter wi) (ok : BlkOk X.N X.env.scope scope own)
    (hg : ∀ (s : Shared) (H : Hp) (C : Addr) (cl : List (Str × Addr)) (fp : List Addr), PG (X.blk s H scope (compEnvC scope cl C X.env) fp) tg g) (ht : ∀ (s : Shared) (H : Hp) (C : Addr) (cl : List (Str × Addr)) (fp : List Addr), PTs (X.blk s H scope (compEnvC scope cl C X.env) fp) ifs tt)
    (he : ∀ (s : Shared) (H : Hp) (C : Addr) (cl : List (Str × Addr)) (fp : List Addr), PE (X.blk s H scope (compEnvC scope cl C X.env) fp) elt te) (hs : ∀ x, foldedSetIterable iter X.env x = pure x := by intro _; rfl) :
    PE X (.ListComp elt [⟨tg, iter, ifs, 0⟩] scope pos) (tLc wi g tt te (own.map (·.2))) := by
  intro pins s σ H Q I h
  rw [eval_ListComp]
  refine lc_core hc hN I hi ok hg ht he hs h fun D C s' m H' I' q hn f => ⟨m, hn, fun h'' sb => ?_⟩
  obtain ⟨f0, f1, f2, f3, f4, f5⟩ := f
  exact ⟨.ref D, H', I'.turned (t' := s'.toks) (fun b o hb e => (sb.2 b hb).trans e) f0 f1 f3 f4 f5, rfl, q⟩
theorem ps_setLc {i : Nat} {y : Str} {py : Pos} {elt tg iter : Expr} {ifs : List Expr} {scope : Scope} {own : List (Str × Nat)} {pos spos : Pos} {wi : TI} {g : TG} {tt : TT} {te : TE} (hc : X.calm = true) (hN : X.N.Nodup) (hy : X.N[i]? = some y) (hyl : X.env.scope.names.lookup y = some .local)
    (hsw : swapsWith (.ListComp elt [⟨tg, iter, ifs, 0⟩] scope pos) (some (.Name y py)) spos.line X.env = pure true) (hi : PI X tg iter wi) (ok : BlkOk X.N X.env.scope scope own)
    (hg : ∀ (s : Shared) (H : Hp) (C : Addr) (cl : List (Str × Addr)) (fp : List Addr), PG (X.blk s H scope (compEnvC scope cl C X.env) fp) tg g) (ht : ∀ (s : Shared) (H : Hp) (C : Addr) (cl : List (Str × Addr)) (fp : List Addr), PTs (X.blk s H scope (compEnvC scope cl C X.env) fp) ifs tt)
    (he : ∀ (s : Shared) (H : Hp) (C : Addr) (cl : List (Str × Addr)) (fp : List Addr), PE (X.blk s H scope (compEnvC scope cl C X.env) fp) elt te) (hs : ∀ x, foldedSetIterable iter X.env x = pure x := by intro _; rfl) :
    PS X (.Assign [.Name y py] (.ListComp elt [⟨tg, iter, ifs, 0⟩] scope pos) spos) (tAsg (tLc wi g tt te (own.map (·.2))) (gName i)) := by
  intro pins s σ H D I h
  rw [exec_Assign_Name_used _ _ _ _ hsw]
  refine wpAny_bind (wpAny_standAt (wpAny_bind ?_))
  show wpAny _ X.A (do let _ ← comprehension (.ListComp elt [⟨tg, iter, ifs, 0⟩] scope pos) scope X.env (firstIterPos [⟨tg, iter, ifs, 0⟩] pos) (newList []) false (eval iter X.env) (some (assign (.Name y py) X.env))) _ _ s
  have h : tLc wi g tt te (own.map (·.2)) σ H (fun x H1 => gName i x σ H1 D.nx) := h
  refine wpAny_bind (thn (lc_core (Qf := fun _ s' => SP X pins D .next s') hc hN I hi ok hg ht he hs h fun L C s' m H' I' q hn f => ?_) fun _ s' hq => wpAny_pure (wpAny_pure hq))
  show wpAny _ _ (assign (.Name y py) X.env (.ref L)) _ _ _
  refine wpAny_assign_Name (store_ok2 (v := V.ref L) I' hN hy (.inl hyl) rfl (fun s2 I2 ⟨a, sb, ha⟩ => ?_) (.inr hyl))
  obtain ⟨f0, f1, f2, f3, f4, f5⟩ := f
  have haC : C ≠ a := by
    rcases ha with z | z
    · rw [z]; exact f1
    · exact fun e => f4 y a z e.symm
  refine ⟨m, hn.sameBut sb haC, fun h3 sb3 => ?_⟩
  exact ⟨_, H', I2.turned (t' := s2.toks) (fun b o hb e => (sb3.2 b hb).trans e) f0 f1 f3 f4 f5, q⟩
theorem sw_true {elt : Expr} {gs : List Comprehension} {scope : Scope} {pos py : Pos} {y : Str} {l : Nat} {env : Env} (hk : env.scope.kind = .function) (hy : env.scope.names.lookup y = some .local) (hl : (py.line == pos.line) = true)
    (ha : (scope.names.any fun (n, k) => n == y && (k == .local || k == .cell)) = false) : swapsWith (.ListComp elt gs scope pos) (some (.Name y py)) l env = pure true := by
  have ky : env.kindOf y = some .local := hy
  have hb : env.blockKind = .function := by unfold Env.blockKind; rw [hk]; rfl
  unfold swapsWith
  simp only [hb, ky, ha, Expr.pos, hl]
  rfl
end
theorem lc_range {lo : Int} {n : Nat} {g : TG} {tt : TT} {te : TE} {vs : List Nat} {σ : St} {H1 : Hp} {D : Addr} {Qd : Hp → Prop} (Pv : Nat → Hp → Prop) (h0 : Pv 0 (upd H1 D (.lst [])))
    (hs : ∀ i H, i < n → Pv i H → g (.int (lo + i)) (wipe σ vs) H fun σ2 H2 => wipe σ2 vs = wipe σ vs ∧ tt σ2 H2 fun b H3 =>
      if b = true then te σ2 H3 fun y H4 => ∃ acc, H4 D = some (.lst acc) ∧ acc.length < sizeLine ∧ Pv (i + 1) (upd H4 D (.lst (acc ++ [y]))) else Pv (i + 1) H3) (hd : ∀ H, Pv n H → Qd H) :
    ∃ W : Nat → Nat → Hp → Prop, (∃ m, W 0 m (upd H1 D (.lst []))) ∧ ∀ i m H, W i m H →
      ((Itr lo n).stop i H ∧ Qd H) ∨ ((Itr lo n).go i H ∧ ∃ Nx : Hp → Prop, (∀ H', Nx H' → ∃ m', m' < m ∧ W (i + 1) m' H') ∧ ∀ x H', (Itr lo n).yld i H x H' → g x (wipe σ vs) H' fun σ2 H2 => wipe σ2 vs = wipe σ vs ∧ tt σ2 H2 fun b H3 =>
        if b = true then te σ2 H3 fun y H4 => ∃ acc, H4 D = some (.lst acc) ∧ acc.length < sizeLine ∧ Nx (upd H4 D (.lst (acc ++ [y]))) else Nx H3) := by
  refine ⟨fun i m H => m = n - i ∧ i ≤ n ∧ Pv i H, ⟨n, by simp, Nat.zero_le _, h0⟩, ?_⟩
  rintro i m H ⟨rfl, hi, p⟩
  by_cases hlt : i < n
  · refine .inr ⟨hlt, Pv (i + 1), fun H' p' => ⟨n - (i + 1), by omega, rfl, hlt, p'⟩, fun x H' y => ?_⟩
    obtain ⟨e, y⟩ := y
    subst e y
    exact hs i _ hlt p
  · have e : i = n := by omega
    subst e
    exact .inl ⟨Nat.le_refl _, hd H p⟩
theorem lc_list {K : PySem.W.Frag} {a : Addr} {xs : List V} {g : TG} {tt : TT} {te : TE} {vs : List Nat} {σ : St} {H1 : Hp} {D : Addr} {Qd : Hp → Prop} (Pv : Nat → Hp → Prop) (h0 : Pv 0 (upd H1 D (.lst []))) (hl : ∀ i H, i ≤ xs.length → Pv i H → SqL K H a xs)
    (hs : ∀ i x H, xs[i]? = some x → Pv i H → g x (wipe σ vs) H fun σ2 H2 => wipe σ2 vs = wipe σ vs ∧ tt σ2 H2 fun b H3 =>
      if b = true then te σ2 H3 fun y H4 => ∃ acc, H4 D = some (.lst acc) ∧ acc.length < sizeLine ∧ Pv (i + 1) (upd H4 D (.lst (acc ++ [y]))) else Pv (i + 1) H3) (hd : ∀ H, Pv xs.length H → Qd H) :
    ∃ W : Nat → Nat → Hp → Prop, (∃ m, W 0 m (upd H1 D (.lst []))) ∧ ∀ i m H, W i m H →
      ((Itl K a).stop i H ∧ Qd H) ∨ ((Itl K a).go i H ∧ ∃ Nx : Hp → Prop, (∀ H', Nx H' → ∃ m', m' < m ∧ W (i + 1) m' H') ∧ ∀ x H', (Itl K a).yld i H x H' → g x (wipe σ vs) H' fun σ2 H2 => wipe σ2 vs = wipe σ vs ∧ tt σ2 H2 fun b H3 =>
        if b = true then te σ2 H3 fun y H4 => ∃ acc, H4 D = some (.lst acc) ∧ acc.length < sizeLine ∧ Nx (upd H4 D (.lst (acc ++ [y]))) else Nx H3) := by
  refine ⟨fun i m H => m = xs.length - i ∧ i ≤ xs.length ∧ Pv i H, ⟨xs.length, by simp, Nat.zero_le _, h0⟩, ?_⟩
  rintro i m H ⟨rfl, hi, p⟩
  have q := hl i H hi p
  by_cases hlt : i < xs.length
  · refine .inr ⟨⟨xs, xs[i], q, by simp [hlt]⟩, Pv (i + 1), fun H' p' => ⟨xs.length - (i + 1), by omega, rfl, hlt, p'⟩, fun x H' y => ?_⟩
    obtain ⟨e, y⟩ := y
    subst e
    exact hs i x _ (y xs q) p
  · have e : i = xs.length := by omega
    subst e
    exact .inl ⟨⟨xs, q, Nat.le_refl _⟩, hd H p⟩
def blkC (N : List Str) (sc scope : Scope) (own : List (Str × Nat)) : Bool :=
  (match scope.kind with | .function => true | _ => false) && (scope.names.all fun y => decide (scope.names.lookup y.1 = some y.2)) && (own.all fun p => decide (N[p.2]? = some p.1)) &&
    (scope.names.all fun y => match y.2 with
      | .free => (match sc.names.lookup y.1 with | some .cell => true | some .free => true | _ => false)
      | .local => decide (y.1 ∈ own.map (·.1)) || decide (y.1 ∉ N)
      | .cell => decide (y.1 ∈ own.map (·.1)) || decide (y.1 ∉ N)
      | _ => true)
theorem blkOk_by {N : List Str} {sc scope : Scope} {own : List (Str × Nat)} (h : blkC N sc scope own = true) : BlkOk N sc scope own := by
  unfold blkC at h
  simp only [Bool.and_eq_true, List.all_eq_true, decide_eq_true_eq] at h
  obtain ⟨⟨⟨h1, h2⟩, h3⟩, h4⟩ := h
  refine ⟨?_, h2, h3, fun y hy e => ?_, fun y hy e => ?_⟩
  · split at h1
    · assumption
    · cases h1
  · have q := h4 y hy
    simp only [e] at q
    split at q <;> first | exact .inl (by assumption) | exact .inr (by assumption) | cases q
  · have q := h4 y hy
    rcases e with e | e <;> (simp only [e, Bool.or_eq_true, decide_eq_true_eq] at q; exact q)
end L2
namespace L2
open PySem PySem.Spec PyProof.Rows
section
variable {prog : Program} {w : World} {A : Around} {R : Result → Shared → Prop} {s : Shared} {elt t0 i0 t1 i1 : Expr} {ifs0 ifs1 : List Expr} {scope : Scope} {pos : Pos} {it acc : Value} {env : Env}
end
section
variable {X : Cx}
end
end L2
namespace L2
open PySem PySem.Spec PyProof.Rows
section
variable {κ : Type} [DecidableEq κ]
end
section
variable {P : Program} {w : World} {H : Hp} {h : Heap} {a : Addr}
end
section
variable {X : Cx} {pins : List (Addr × Obj)} {σ : St} {H : Hp} {s : Shared} {a : Addr} {y v : V} {u r : Value} {o : Option V} {A : Around} {E : Value → Shared → Prop}
end
section
variable {X : Cx} {pins : List (Addr × Obj)} {σ : St} {H : Hp} {s : Shared} {a : Addr} {kvs : List (Key × V)} {k : Key} {u : Value} {A : Around} {E : Value → Shared → Prop}
end
section
variable {X : Cx} {o i e value : Expr} {pos pos' tpos : Pos} {td ty tv : TE}
end
section
variable {X : Cx} {pos : Pos}
end
section
variable {X : Cx} {pins : List (Addr × Obj)} {σ : St} {H : Hp} {s : Shared} {a : Addr} {y d : V} {u r : Value} {o : Option V} {A : Around} {E : Value → Shared → Prop}
end
section
variable {X : Cx} {o e f : Expr} {apos cpos : Pos} {td ty tx : TE}
end
section
variable {X : Cx} {pins : List (Addr × Obj)} {σ : St} {H : Hp} {s : Shared} {a : Addr} {kvs : List (Key × V)} {A : Around} {E : Value → Shared → Prop}
end
section
variable {X : Cx} {pins : List (Addr × Obj)} {σ : St} {H : Hp} {s : Shared} {a : Addr} {y : V} {u : Value} {A : Around} {E : Value → Shared → Prop}
end
end L2
namespace L2
open PySem PySem.Spec PyProof.Rows
section
variable {prog : Program} {w : World} {A : Around} {E : Value → Shared → Prop}
end
section
variable {X : Cx}
end
end L2
namespace L2
open PySem PySem.Spec PyProof.Rows
section
variable {X : Cx} {pins : List (Addr × Obj)} {σ : St} {H : Hp} {s : Shared} {h' : Heap}
end
section
variable {X : Cx}
theorem pi_one {tg : Expr} {pins : List (Addr × Obj)} {σ : St} {H : Hp} {s : Shared} {R : It → Hp → Prop} {J : It} {tn : Nat → Heap → Prop} {tk : Nat} (I : Inv X pins σ H s) (o : Obj)
    (T : Turn X.prog X.w X.K tg J [s.heap.objs.size] s.heap.objs.size tn) (st : tn 0 (s.heap.push o)) (q : R J H) : PIE X pins σ tg R (.ref s.heap.objs.size) { s with heap := s.heap.push o, toks := tk } := by
  refine ⟨s.heap.objs.size, [s.heap.objs.size], tn, J, H, rfl, I.kept fun b ob e => Heap.get?_push_of_some _ e, T, st, fun b hb => ?_, q⟩
  have e : b = s.heap.objs.size := by simpa using hb
  subst e
  exact I.fpOk (Nat.le_refl _) (I.hok.fresh (Nat.le_refl _))
end
def Itc (lo c : Int) (n : Nat) : It := ⟨fun i _ => i < n, fun i H x H' => H' = H ∧ x = .int (lo + (i : Nat) * c), fun i _ => n ≤ i⟩
theorem turn_rangeC {P : Program} {w : World} {K : PySem.W.Frag} {tg : Expr} (it : Addr) (lo c : Int) (n : Nat) : Turn P w K tg (Itc lo c n) [it] it (fun i h => IsRangeIter h it (lo + (i : Nat) * c) ((n : Int) - (i : Nat)) c) where
  mem := by simp
  obj := fun i h st b hb => by
    have e : b = it := by simpa using hb
    subst e
    exact ⟨_, st, fun v z => nomatch z⟩
  keep := fun i h h' st k => k it (by simp) _ st
  item := by
    intro X hP hw hK hc i pins s σ H E I hf st hg
    subst hP hw hK
    obtain ⟨f0, f1, f2, f3, f4, f5⟩ := hf it (by simp)
    have W := Walks.range (prog := X.prog) (w := X.w) (I.ok.hd hc) it lo c n
    refine W.item i s _ _ hg st fun v h' tk hv st' kk => ?_
    obtain ⟨t, rfl⟩ := hv
    have I1 : Inv X pins σ H { s with heap := h', toks := tk } := I.turned (fun b o hb e => kk b o (by simpa using hb) e) f0 f1 f3 f4 f5
    exact ⟨_, rfl, go_of (s := { s with heap := h', toks := tk }) (n := "range_iterator") st' rfl rfl (by decide) ⟨.int (lo + (i : Nat) * c), H, I1, ⟨t, rfl⟩, ⟨rfl, rfl⟩, st', fun b hb => (hf b hb).1⟩⟩
  done := by
    intro X hP hw hK hc i pins s σ H E I hf st hg
    subst hP hw hK
    obtain ⟨f0, f1, f2, f3, f4, f5⟩ := hf it (by simp)
    exact wpAny_pyNext_range_end (I.ok.hd hc) st (by have : n ≤ i := hg; omega) fun h' eb => ⟨rfl, I.turned (t' := s.toks) (fun b o hb e => eb b o hb e) f0 f1 f3 f4 f5⟩
  self := fun A i s Q E st h => wpAny_pyIter_rangeiter st h
def RgC (i j c : Int) (n : Nat) : Prop := c ≠ 0 ∧ c.natAbs < 1073741824 ∧ Builtin.Range.small i j c = true ∧ Builtin.Range.rangeSize i j c = n
def iRng3 (ta : TA) : TI := fun σ H R => ta σ H fun vs H1 => ∃ (i j c : Int) (n : Nat), vs = [.int i, .int j, .int c] ∧ RgC i j c n ∧ R (Itc i c n) H1
section
variable {X : Cx} {tg : Expr}
theorem pi_range3 {a b c : Expr} {ta : TA} {p pos : Pos} (hg : Gl X "range") (hm : X.mg "range" = none) (ha : PA X [a, b, c] ta)
    (hs : starEach [a, b, c] X.env = (false, eval a X.env) :: starEach [b, c] X.env := by rfl) (hpl : (backTo pos (starEach [b, c] X.env)).any (·.1) = false := by rfl) :
    PI X tg (.Call (.Name "range" p) [a, b, c] [] pos) (iRng3 ta) := by
  intro pins s σ H R I h
  refine Call_ (ld_blt I hg hm boot_range (PyProof.Rows.callWith_type1 (thn (ha pos pins s σ H _ I h) fun us s1 ⟨vs, H1, I1, r1, q1⟩ => ?_) hs hpl))
  obtain ⟨i, j, k, n, e, ⟨c0, c1, c2, c3⟩, q⟩ := q1
  subst e
  cases r1 with
  | cons r rr =>
    cases rr with
    | cons r' rr =>
      cases rr with
      | cons r'' rr =>
        cases rr
        obtain ⟨t, rfl⟩ := r
        obtain ⟨t', rfl⟩ := r'
        obtain ⟨t'', rfl⟩ := r''
        refine call_range_3 c0 ?_ (.inl (PyProof.noPylong_small c1))
        refine wpAny_pyIter_range (IsRange.new ..) c2 ?_
        have I2 : Inv X pins σ H1 { s1 with heap := s1.heap.push { cls := .type "range", data := .fields #[.int i t, .int j t', .int k t''] } } := I1.kept (t' := s1.toks) fun b o e => Heap.get?_push_of_some _ e
        refine pi_one (tk := s1.toks) I2 _ (turn_rangeC _ i k n) ?_ q
        have e1 : i + ((0 : Nat) : Int) * k = i := by simp
        have e2 : (n : Int) - ((0 : Nat) : Int) = Builtin.Range.rangeSize i j k := by rw [c3]; simp
        show IsRangeIter _ _ (i + ((0 : Nat) : Int) * k) ((n : Int) - ((0 : Nat) : Int)) k
        rw [e1, e2]
        exact Heap.get?_push_size _ rfl
end
section
variable {X : Cx} {tg : Expr}
end
section
variable {prog : Program} {w : World} {A : Around} {E : Value → Shared → Prop} {s : Shared}
end
section
variable {X : Cx} {pins : List (Addr × Obj)} {σ : St} {H : Hp} {s : Shared} {d : Addr} {o : Obj}
end
section
variable {P : Program} {w : World} {K : PySem.W.Frag} {tg : Expr} {d : Addr} {o : Obj} {es : Array DictEntry} {ep : Nat}
end
section
variable {X : Cx} {tg e : Expr} {td : TE} {apos cpos : Pos}
end
end L2
section
namespace Bits
open PySem PyProof.Rows
end Bits
end
section
namespace TL
open PySem PySem.Builtin PySem.Builtin.Str PySem.StrLaws
end TL
end
namespace L2
open PySem PySem.Spec PyProof.Rows
section
variable {X : Cx} {pins : List (Addr × Obj)} {σ : St} {H : Hp} {s : Shared} {Q : VK}
end
section
variable {X : Cx}
end
section
variable {X : Cx} {o e : Expr} {to te : TE}
end
end L2
namespace L2
open PySem PySem.Spec PyProof.Rows
section
variable {X : Cx}
end
end L2
namespace Att
open PySem PySem.W PySem.Calls PyProof.Rows
theorem ints_of_wellAll {P : Params} {h : Heap} : ∀ (ns : List Int) (vs : List Value), WellAll P h vs (ns.map WData.int) → IntsAre vs ns := by
  intro ns
  induction ns with
  | nil =>
    intro vs w
    rw [List.map_nil] at w
    cases w
    exact .nil
  | cons n ns ih =>
    intro vs w
    rw [List.map_cons] at w
    cases w with
    | cons a b =>
      cases a
      exact .cons _ _ (ih _ b)
section
variable {prog : Program} {w : World} {A : Around} {E : Value → Shared → Prop} {s : Shared} {K : Frag}
end
end Att
namespace L2
open PySem PySem.Spec PyProof.Rows
theorem vals_ints : ∀ {vs : List Value} {ns : List Int}, IntsAre vs ns → Vals (ns.map V.int) vs
  | _, _, .nil => .nil
  | _, _, .cons n t h => .cons ⟨t, rfl⟩ (vals_ints h)
end L2
namespace L2
open PySem PySem.Spec PyProof.Rows
abbrev KOf {K : PySem.W.Frag} {h : Heap} (_ : K.In h) : PySem.W.Frag := K
end L2
namespace L2
open PySem PySem.Spec PyProof.Rows
def defArgs (s : Stmt) : Arguments := match s with
  | .FunctionDef _ a _ _ _ _ _ _ _ _ => a
  | _ => { posonlyargs := [], args := [], vararg := none, kwonlyargs := [], kw_defaults := [], kwarg := none, defaults := [] }
def defBody (s : Stmt) : List Stmt := match s with
  | .FunctionDef _ _ b _ _ _ _ _ _ _ => b
  | _ => []
def defScope (s : Stmt) : Scope := match s with
  | .FunctionDef _ _ _ _ _ _ sc _ _ _ => sc
  | _ => { kind := .function, names := [], isGenerator := false, isCoroutine := false }
abbrev CX0 : CXT := fun _ _ _ _ _ _ => False
abbrev E0 : XK := fun _ _ _ => False
theorem pass0 {X : Cx} : Passes CX0 X E0 := fun _ _ _ _ _ _ _ h => h.elim
structure Fun (K : PySem.W.Frag) (x qual : Str) (st : Stmt) (f : Addr) (fd : FuncData) : Prop where
  ex : ∃ (oc : Value) (od : Option Addr) (kV doc pm : Value) (an : Option Addr) (cdv ct : Value) (osl : Array (Option Value)),
    fd = PySem.W.fnOf x qual (defArgs st) (defBody st) (defScope st) .none kV doc pm an cdv ct ∧ K.lookup f = some ⟨oc, od, .func fd, osl⟩ ∧ PySem.W.codeIn K cdv qual = true
  kp : PySem.W.keepIn K (.ref f) = true
section
variable {P : Program} {w : World} {K : PySem.W.Frag} {mg : Str → Option Value} {base : Heap}
theorem Fun.ok {x qual : Str} {st : Stmt} {f : Addr} {fd : FuncData} {N ps : List Str} {k : Nat} {sp : Sp} (F : Fun K x qual st f fd) (S : FnScope N ps (defScope st)) (len : ∀ vs H Q E, sp vs H Q E → vs.length = ps.length)
    (hbody : ∀ (cdv : Value) (A : Around) (outer : List Env) (s : Shared) (H : Hp) (vs : List V) (Q : VK) (E : XK), Room k (A.deeper (envOfC qual (defScope st) s.heap.objs.size f cdv)) → sp vs H Q E →
      ∃ t, PSs (cxOf CX0 P w K mg base N qual (defScope st) f cdv A outer s H E).nox (defBody st) t ∧ t { nx := fun _ H' => Q .non H', rt := Q } (start N vs) H) : FnOk P w K mg base CX0 (k + 1) f fd ps sp := by
  obtain ⟨oc, od, kV, doc, pm, an, cdv, ct, osl, rfl, lk, hcd⟩ := F.ex
  refine fn_of lk hcd S len fun A outer s H vs Q E hr hsp => ?_
  obtain ⟨t, h, q⟩ := hbody cdv A outer s H vs Q E hr hsp
  exact ⟨t, h.nox, q⟩
theorem Fun.binds {x qual : Str} {st : Stmt} {f : Addr} {fd : FuncData} {ps : List Str} (F : Fun K x qual st f fd)
    (h : ∀ (kV doc pm : Value) (an : Option Addr) (cdv ct : Value) (us : List Value), us.length = ps.length → bindArgs (PySem.W.fnOf x qual (defArgs st) (defBody st) (defScope st) .none kV doc pm an cdv ct) ⟨us, []⟩ = pure (ps.zip us)) : Binds K fd ps [] := by
  obtain ⟨oc, od, kV, doc, pm, an, cdv, ct, osl, rfl, lk, hcd⟩ := F.ex
  exact .all (h kV doc pm an cdv ct)
theorem fun_mk {x qual : Str} {st : Stmt} {f : Addr} {oc : Value} {od an : Option Addr} {osl : Array (Option Value)} {kV doc pm cdv ct : Value} (l : K.lookup f = some ⟨oc, od, .func (PySem.W.fnOf x qual (defArgs st) (defBody st) (defScope st) .none kV doc pm an cdv ct), osl⟩)
    (c : PySem.W.codeIn K cdv qual = true) (k : PySem.W.keepIn K (.ref f) = true) : Fun K x qual st f (PySem.W.fnOf x qual (defArgs st) (defBody st) (defScope st) .none kV doc pm an cdv ct) := ⟨⟨oc, od, kV, doc, pm, an, cdv, ct, osl, rfl, l, c⟩, k⟩
end
theorem small1000 {n : Nat} (h : n ≤ 1000) : n < sizeLine := Nat.lt_of_le_of_lt h (by decide)
section
variable {X : Cx}
theorem pv (i : Nat) {x : Str} {pos : Pos} (hN : X.N[i]? = some x := by rfl) (hv : Vis X.env.scope x := by first | exact Or.inl rfl | exact Or.inr (Or.inl rfl) | exact Or.inr (Or.inr rfl)) (hd : (x == ("__debug__" : Str)) = false := by decide)
    (hcd : (x == ("__classdict__" : Str)) = false := by decide) : PE X (.Name x pos) (tVar i) := pe_var hN hv hd hcd
end
theorem iteF {A B : Prop} (h : B) : if false = true then A else B := by
  rw [if_neg Bool.false_ne_true]
  exact h
theorem iteT {A B : Prop} (h : A) : if true = true then A else B := by
  rw [if_pos rfl]
  exact h
def Same (H H' : Hp) : Prop := ∀ b o, H b = some o → H' b = some o
theorem Same.refl (H : Hp) : Same H H := fun _ _ h => h
theorem Same.trans {H H1 H2 : Hp} (a : Same H H1) (b : Same H1 H2) : Same H H2 := fun c o h => b c o (a c o h)
theorem Same.free {H H' : Hp} (e : Same H H') {l : Addr} (h : H' l = Option.none) : H l = Option.none := by
  cases q : H l with
  | none => rfl
  | some o =>
    rw [e l o q] at h
    cases h
theorem Same.seq {K : PySem.W.Frag} {H H' : Hp} {a : Addr} {xs : List V} (e : Same H H') (h : SqL K H a xs) : SqL K H' a xs := by
  rcases h with (h | ⟨o, h⟩) | h
  · exact .inl (.inl (e _ _ h))
  · exact .inl (.inr ⟨o, e _ _ h⟩)
  · exact .inr h
section
variable {κ : Type} [DecidableEq κ]
end
end L2

set_option maxRecDepth 100000
namespace Fp
open Rb32
def primes : List Nat := [2, 3, 5, 7, 11, 13, 17, 19, 23, 29, 31, 37, 41, 43, 47, 53, 59, 61]
theorem prime_mem {p : Int} (h : Rb32Neutral.isPrime p = true) : p.toNat ∈ primes ∧ p = (p.toNat : Int) := by
  unfold Rb32Neutral.isPrime at h
  have h2 : p ∈ ([2, 3, 5, 7, 11, 13, 17, 19, 23, 29, 31, 37, 41, 43, 47, 53, 59, 61] : List Int) := by simpa using h
  have h3 : ∀ q ∈ ([2, 3, 5, 7, 11, 13, 17, 19, 23, 29, 31, 37, 41, 43, 47, 53, 59, 61] : List Int), q.toNat ∈ primes ∧ q = (q.toNat : Int) := by decide
  exact h3 p h2
theorem primes_ge {p : Nat} (h : p ∈ primes) : 2 ≤ p ∧ p ≤ 61 := by
  have : ∀ q ∈ primes, 2 ≤ q ∧ q ≤ 61 := by decide
  exact this p h
theorem inv_tab : ∀ p ∈ primes, ∀ a ∈ List.range p, a ≠ 0 → a * inverse p a % p = 1 := by decide +kernel
theorem inv_mul {p a : Nat} (h : p ∈ primes) (ha : a < p) (h0 : a ≠ 0) : a * inverse p a % p = 1 := inv_tab p h a (List.mem_range.mpr ha) h0
theorem inv_one_tab : ∀ p ∈ primes, inverse p 1 = 1 := by decide +kernel
theorem inv_one {p : Nat} (h : p ∈ primes) : inverse p 1 = 1 := inv_one_tab p h
theorem inv_zero_tab : ∀ p ∈ primes, inverse p 0 = 0 := by decide +kernel
theorem inv_lt_tab : ∀ p ∈ primes, ∀ a ∈ List.range p, inverse p a < p := by decide +kernel
theorem inv_lt {p a : Nat} (h : p ∈ primes) (ha : a < p) : inverse p a < p := inv_lt_tab p h a (List.mem_range.mpr ha)

def small (p : Nat) (v : Row) : Prop := ∀ x ∈ v, x < p

theorem normal_zero {p : Nat} (v : Row) (_ : 0 < p) : normal p (0 :: v) = (normal p v).map (fun u => 0 :: u) := by
  unfold normal
  rw [List.find?_cons]
  simp only [Nat.zero_mod, bne_self_eq_false]
  cases h : v.find? (fun x => x % p != 0) with
  | none => rfl
  | some a => simp [Nat.zero_mod]
theorem map_mod {p : Nat} {v : Row} (h : small p v) : v.map (fun x => x % p * 1 % p) = v := by
  induction v with
  | nil => rfl
  | cons a r ih =>
    rw [List.map_cons, ih (fun x hx => h x (List.mem_cons_of_mem _ hx))]
    have := h a List.mem_cons_self
    rw [Nat.mul_one, Nat.mod_eq_of_lt this, Nat.mod_eq_of_lt this]
theorem normal_head {p a : Nat} (v : Row) (ha : a % p ≠ 0) : normal p (a :: v) = some ((a :: v).map fun x => x % p * inverse p (a % p) % p) := by
  unfold normal
  rw [List.find?_cons]
  have : (a % p != 0) = true := by simpa using ha
  rw [this]
  rfl
theorem normal_one {p : Nat} {v : Row} (h : p ∈ primes) (hv : small p v) : normal p (1 :: v) = some (1 :: v) := by
  have h2 := (primes_ge h).1
  have e1 : 1 % p = 1 := Nat.mod_eq_of_lt (by omega)
  rw [normal_head v (by rw [e1]; decide), e1, inv_one h]
  congr 1
  exact map_mod (p := p) (v := 1 :: v) (by
    intro x hx
    rcases List.mem_cons.mp hx with rfl | hx
    · omega
    · exact hv x hx)
theorem normal_big {p a : Nat} {v : Row} (h : p ∈ primes) (ha : a < p) (h0 : a ≠ 0) : ∃ u, normal p (a :: v) = some (1 :: u) := by
  have e : a % p = a := Nat.mod_eq_of_lt ha
  rw [normal_head v (by rw [e]; exact h0), e, List.map_cons, e, inv_mul h ha h0]
  exact ⟨_, rfl⟩

theorem rows_small {p : Nat} : ∀ (n : Nat) (v : Row), v ∈ rows p n ↔ v.length = n ∧ small p v
  | 0, v => by
    unfold rows small
    cases v <;> simp
  | n + 1, v => by
    unfold rows
    rw [List.mem_flatMap]
    constructor
    · rintro ⟨x, hx, hv⟩
      obtain ⟨u, hu, rfl⟩ := List.mem_map.mp hv
      obtain ⟨h1, h2⟩ := (rows_small n u).mp hu
      refine ⟨by simp [h1], ?_⟩
      intro y hy
      rcases List.mem_cons.mp hy with rfl | hy
      · exact List.mem_range.mp hx
      · exact h2 y hy
    · rintro ⟨h1, h2⟩
      cases v with
      | nil => simp at h1
      | cons a r =>
        refine ⟨a, List.mem_range.mpr (h2 a List.mem_cons_self), List.mem_map.mpr ⟨r, (rows_small n r).mpr ⟨by simpa using h1, fun x hx => h2 x (List.mem_cons_of_mem _ hx)⟩, rfl⟩⟩

def nf (p : Nat) (v : Row) : Bool := normal p v == some v
def pts (p n : Nat) : List Row := (rows p n).filter (nf p)
theorem points_pts (p : Nat) : points p = pts p 3 := rfl
theorem nf_zero {p : Nat} (hp : 0 < p) (v : Row) : nf p (0 :: v) = nf p v := by
  unfold nf
  rw [normal_zero v hp]
  cases normal p v with
  | none => rfl
  | some u =>
    show (some (0 :: u) == some (0 :: v)) = (some u == some v)
    rw [Bool.eq_iff_iff]
    simp
theorem nf_one {p : Nat} {v : Row} (h : p ∈ primes) (hv : small p v) : nf p (1 :: v) = true := by
  unfold nf
  rw [normal_one h hv]
  simp
theorem nf_big {p a : Nat} {v : Row} (h : p ∈ primes) (ha : a < p) (h0 : 2 ≤ a) : nf p (a :: v) = false := by
  unfold nf
  obtain ⟨u, hu⟩ := normal_big (v := v) h ha (by omega)
  rw [hu]
  simp
  omega
theorem pts_succ {p : Nat} (h : p ∈ primes) (n : Nat) : pts p (n + 1) = (pts p n).map (fun v => 0 :: v) ++ (rows p n).map (fun v => 1 :: v) := by
  obtain ⟨q, rfl⟩ : ∃ q, p = q + 2 := ⟨p - 2, by have := (primes_ge h).1; omega⟩
  have er : List.range (q + 2) = 0 :: 1 :: (List.range q).map (fun x => x + 1 + 1) := by
    rw [List.range_succ_eq_map, List.range_succ_eq_map]
    simp
  unfold pts
  rw [rows, er, List.flatMap_cons, List.flatMap_cons, List.filter_append, List.filter_append]
  have e0 : ((rows (q + 2) n).map fun v => 0 :: v).filter (nf (q + 2)) = ((rows (q + 2) n).filter (nf (q + 2))).map (fun v => 0 :: v) := by
    rw [List.filter_map]
    congr 1
    apply List.filter_congr
    intro v _
    exact nf_zero (by omega) v
  have e1 : ((rows (q + 2) n).map fun v => 1 :: v).filter (nf (q + 2)) = (rows (q + 2) n).map (fun v => 1 :: v) := by
    rw [List.filter_eq_self]
    intro u hu
    obtain ⟨v, hv, rfl⟩ := List.mem_map.mp hu
    exact nf_one h ((rows_small n v).mp hv).2
  have e2 : (((List.range q).map (fun x => x + 1 + 1)).flatMap fun x => (rows (q + 2) n).map fun v => x :: v).filter (nf (q + 2)) = [] := by
    rw [List.filter_eq_nil_iff]
    intro u hu
    obtain ⟨x, hx, hu⟩ := List.mem_flatMap.mp hu
    obtain ⟨y, hy, rfl⟩ := List.mem_map.mp hx
    obtain ⟨v, hv, rfl⟩ := List.mem_map.mp hu
    rw [nf_big h (by have := List.mem_range.mp hy; omega) (by omega)]
    decide
  rw [e0, e1, e2, List.append_nil]

theorem rows1 (p : Nat) : rows p 1 = (List.range p).map fun z => [z] := by
  show (List.range p).flatMap (fun x => [[x]]) = _
  rw [List.map_eq_flatMap]
theorem range_mul_map (p : Nat) (f : Nat → Nat → Row) (hp : 0 < p) : ∀ n, (List.range (n * p)).map (fun k => f (k / p) (k % p)) = (List.range n).flatMap fun y => (List.range p).map fun z => f y z
  | 0 => by simp
  | n + 1 => by
    rw [Nat.succ_mul, List.range_add, List.map_append, range_mul_map p f hp n, List.range_succ, List.flatMap_append]
    congr 1
    rw [List.flatMap_cons, List.flatMap_nil, List.append_nil, List.map_map]
    apply List.map_congr_left
    intro z hz
    have hz := List.mem_range.mp hz
    show f ((n * p + z) / p) ((n * p + z) % p) = _
    rw [Nat.add_comm (n * p) z, Nat.add_mul_div_right _ _ hp, Nat.add_mul_mod_self_right, Nat.div_eq_of_lt hz, Nat.mod_eq_of_lt hz, Nat.zero_add]
theorem rows2 {p : Nat} (hp : 0 < p) : rows p 2 = (List.range (p * p)).map fun k => [k / p, k % p] := by
  show (List.range p).flatMap (fun x => (rows p 1).map fun v => x :: v) = _
  rw [range_mul_map p (fun y z => [y, z]) hp p, rows1]
  simp only [List.map_map]
  rfl
theorem pts0 (p : Nat) : pts p 0 = [] := rfl
theorem points_eq {p : Nat} (h : p ∈ primes) : points p = [0, 0, 1] :: ((List.range p).map (fun z => [0, 1, z]) ++ (List.range (p * p)).map (fun k => [1, k / p, k % p])) := by
  have hp : 0 < p := by have := (primes_ge h).1; omega
  rw [points_pts, pts_succ h, pts_succ h, pts_succ h, pts0, rows2 hp, rows1]
  simp only [List.map_nil, List.nil_append, List.map_map, rows, List.map_cons, List.cons_append]
  rfl

theorem points_at {p : Nat} (h : p ∈ primes) (j : Nat) : (points p)[j]? = if j = 0 then some [0, 0, 1] else if j < 1 + p then some [0, 1, j - 1] else if j - 1 - p < p * p then some [1, (j - 1 - p) / p, (j - 1 - p) % p] else none := by
  rw [points_eq h]
  by_cases h0 : j = 0
  · subst h0
    rfl
  · obtain ⟨k, rfl⟩ : ∃ k, j = k + 1 := ⟨j - 1, by omega⟩
    rw [if_neg h0, List.getElem?_cons_succ]
    by_cases h1 : k + 1 < 1 + p
    · rw [if_pos h1, List.getElem?_append_left (by simp; omega), List.getElem?_map, List.getElem?_range (by omega)]
      rfl
    · rw [if_neg h1, List.getElem?_append_right (by simp; omega), List.getElem?_map]
      simp only [List.length_map, List.length_range, Nat.add_sub_cancel]
      by_cases h2 : k - p < p * p
      · rw [if_pos h2, List.getElem?_range h2]
        rfl
      · rw [if_neg h2, List.getElem?_eq_none (by simp; omega)]
        rfl
theorem tw_idx {α : Type} [BEq α] [LawfulBEq α] (v : α) : ∀ (l : List α) (i : Nat), l[i]? = some v → (∀ j, j < i → l[j]? ≠ some v) → (l.takeWhile (fun u => u != v)).length = i
  | [], i, h, _ => by simp at h
  | a :: r, 0, h, _ => by
    have : a = v := by simpa using h
    subst this
    rw [List.takeWhile_cons]
    simp
  | a :: r, i + 1, h, hm => by
    have h0 : a ≠ v := by
      intro e
      subst e
      exact hm 0 (by omega) rfl
    have hb : (a != v) = true := by simpa using h0
    rw [List.takeWhile_cons, if_pos hb, List.length_cons, tw_idx v r i (by simpa using h) (fun j hj => by
      have := hm (j + 1) (by omega)
      simpa using this)]
theorem number_pts {p x y z : Nat} (h : p ∈ primes) (hx : x < p) (hy : y < p) (hz : z < p) (hv : x = 1 ∨ (x = 0 ∧ (y = 1 ∨ (y = 0 ∧ z = 1)))) :
    ((points p).takeWhile (fun u => u != [x, y, z])).length = if x = 1 then 1 + p + y * p + z else if y = 1 then 1 + z else 0 := by
  have hp := (primes_ge h).1
  by_cases h1 : x = 1
  · subst h1
    rw [if_pos rfl]
    have hl : y * p + z < p * p := by
      have : (y + 1) * p ≤ p * p := Nat.mul_le_mul_right p (by omega)
      rw [Nat.succ_mul] at this
      omega
    apply tw_idx
    · rw [points_at h, if_neg (by omega), if_neg (by omega)]
      have e : 1 + p + y * p + z - 1 - p = z + y * p := by omega
      rw [e, if_pos (by omega), Nat.add_mul_div_right _ _ (by omega), Nat.add_mul_mod_self_right, Nat.div_eq_of_lt hz, Nat.mod_eq_of_lt hz, Nat.zero_add]
    · intro j hj
      rw [points_at h]
      split
      · simp
      · split
        · simp
        · split
          · intro e
            have e := Option.some.inj e
            simp only [List.cons.injEq, and_true, true_and] at e
            have := Nat.div_add_mod (j - 1 - p) p
            rw [e.1, e.2, Nat.mul_comm p y] at this
            omega
          · simp
  · rw [if_neg h1]
    have hx0 : x = 0 := by omega
    subst hx0
    by_cases h2 : y = 1
    · subst h2
      rw [if_pos rfl]
      apply tw_idx
      · rw [points_at h, if_neg (by omega), if_pos (by omega)]
        have e : 1 + z - 1 = z := by omega
        rw [e]
      · intro j hj
        rw [points_at h]
        split
        · simp
        · rw [if_pos (by omega)]
          intro e
          have e := Option.some.inj e
          simp only [List.cons.injEq, and_true, true_and] at e
          omega
    · rw [if_neg h2]
      have hy0 : y = 0 := by omega
      have hz1 : z = 1 := by omega
      subst hy0 hz1
      apply tw_idx
      · rw [points_at h, if_pos rfl]
      · intro j hj
        omega
end Fp

set_option maxRecDepth 100000
namespace Fp
open Rb32
/- The field of p elements, for the primes of the document. -/
structure Pr where
  p : Nat
  mem : p ∈ primes
instance (P : Pr) : NeZero P.p := ⟨by have := (primes_ge P.mem).1; omega⟩
def F (P : Pr) : Type := _root_.Fin P.p
instance instFCommRing (P : Pr) : Lean.Grind.CommRing (F P) := inferInstanceAs (Lean.Grind.CommRing (_root_.Fin P.p))
instance (P : Pr) : DecidableEq (F P) := inferInstanceAs (DecidableEq (_root_.Fin P.p))
variable {P : Pr}
def cst (P : Pr) (n : Nat) : F P := Fin.ofNat P.p n
theorem two_le (P : Pr) : 2 ≤ P.p := (primes_ge P.mem).1
theorem cst_val (n : Nat) : (cst P n).val = n % P.p := rfl
theorem cst_eq {a b : Nat} : cst P a = cst P b ↔ a % P.p = b % P.p := by
  constructor
  · intro h
    exact congrArg Fin.val h
  · intro h
    exact Fin.ext h
theorem cst_add (a b : Nat) : cst P (a + b) = cst P a + cst P b := by
  apply Fin.ext
  show (a + b) % P.p = (a % P.p + b % P.p) % P.p
  rw [← Nat.add_mod]
theorem cst_mul (a b : Nat) : cst P (a * b) = cst P a * cst P b := by
  apply Fin.ext
  show (a * b) % P.p = (a % P.p * (b % P.p)) % P.p
  rw [← Nat.mul_mod]
theorem cst_mod (a : Nat) : cst P (a % P.p) = cst P a := cst_eq.mpr (Nat.mod_mod _ _)
theorem cst_zero : cst P 0 = 0 := rfl
theorem cst_one : cst P 1 = 1 := rfl
theorem cst_two : cst P 2 = 2 := rfl
theorem cst_eq_zero {a : Nat} : cst P a = 0 ↔ a % P.p = 0 := by
  rw [← cst_zero, cst_eq, Nat.zero_mod]
theorem cst_lt {a b : Nat} (ha : a < P.p) (hb : b < P.p) (h : cst P a = cst P b) : a = b := by
  have := cst_eq.mp h
  rwa [Nat.mod_eq_of_lt ha, Nat.mod_eq_of_lt hb] at this
theorem cst_lt_zero {a : Nat} (ha : a < P.p) : cst P a = 0 ↔ a = 0 := by
  rw [cst_eq_zero, Nat.mod_eq_of_lt ha]
theorem cst_sub (a b : Nat) : cst P (sub P.p a b) = cst P a - cst P b := by
  apply Fin.ext
  have h := two_le P
  have hb := Nat.mod_lt b (show 0 < P.p by omega)
  show sub P.p a b % P.p = (P.p - b % P.p + a % P.p) % P.p
  unfold sub
  rw [Nat.mod_mod, Nat.add_comm]
theorem cst_surj (x : F P) : ∃ n, n < P.p ∧ x = cst P n := ⟨x.val, x.isLt, Fin.ext (Nat.mod_eq_of_lt x.isLt).symm⟩
def finv (x : F P) : F P := cst P (inverse P.p x.val)
instance : Inv (F P) := ⟨finv⟩
instance : Div (F P) := ⟨fun a b => a * b⁻¹⟩
theorem cst_inv (a : Nat) : (cst P a)⁻¹ = cst P (inverse P.p (a % P.p)) := rfl
theorem mul_inv_c {x : F P} (h : x ≠ 0) : x * x⁻¹ = 1 := by
  obtain ⟨n, hn, rfl⟩ := cst_surj x
  rw [cst_inv, ← cst_mul, Nat.mod_eq_of_lt hn, ← cst_one, cst_eq]
  have h0 : n ≠ 0 := fun e => h (by rw [e, cst_zero])
  rw [inv_mul P.mem hn h0, Nat.mod_eq_of_lt (by have := two_le P; omega)]
theorem zero_ne : (0 : F P) ≠ 1 := by
  intro h
  have := (cst_eq (P := P) (a := 0) (b := 1)).mp h
  rw [Nat.zero_mod, Nat.mod_eq_of_lt (by have := two_le P; omega)] at this
  omega
theorem inv_zero_c : (0 : F P)⁻¹ = 0 := by
  rw [← cst_zero, cst_inv, Nat.zero_mod, inv_zero_tab P.p P.mem]
theorem mul_eq_zero_c {a b : F P} (h : a * b = 0) (ha : a ≠ 0) : b = 0 := by
  have h1 := mul_inv_c ha
  have h2 : b = (a * a⁻¹) * b := by rw [h1, Lean.Grind.Semiring.one_mul]
  rw [h2]
  grind
theorem inv_unique {a b : F P} (h : a * b = 1) : a⁻¹ = b := by
  have ha : a ≠ 0 := by
    intro e
    rw [e, Lean.Grind.Semiring.zero_mul] at h
    exact zero_ne h
  have h1 := mul_inv_c ha
  have h2 : a * (a⁻¹ - b) = 0 := by grind
  have := mul_eq_zero_c h2 ha
  grind
theorem inv_inv_c (a : F P) : (a⁻¹)⁻¹ = a := by
  by_cases h : a = 0
  · rw [h, inv_zero_c, inv_zero_c]
  · apply inv_unique
    have := mul_inv_c h
    grind
theorem inv_one_c : (1 : F P)⁻¹ = 1 := inv_unique (by grind)
def zp (a : F P) : Int → F P
  | .ofNat n => a ^ n
  | .negSucc n => (a ^ (n + 1))⁻¹
instance : HPow (F P) Int (F P) := ⟨zp⟩
instance instFField (P : Pr) : Lean.Grind.Field (F P) where
  div_eq_mul_inv := fun _ _ => rfl
  zero_ne_one := zero_ne
  inv_zero := inv_zero_c
  mul_inv_cancel := mul_inv_c
  zpow_zero := fun a => Lean.Grind.Semiring.pow_zero a
  zpow_succ := fun a n => Lean.Grind.Semiring.pow_succ a n
  zpow_neg := fun a n => by
    show zp a (-n) = (zp a n)⁻¹
    cases n with
    | ofNat k =>
      cases k with
      | zero =>
        show a ^ 0 = (a ^ 0)⁻¹
        rw [Lean.Grind.Semiring.pow_zero, inv_one_c]
      | succ k => rfl
    | negSucc k =>
      show a ^ (k + 1) = ((a ^ (k + 1))⁻¹)⁻¹
      rw [inv_inv_c]
example (a b c : F P) (h : a ≠ 0) (h2 : a * b = a * c) : b = c := by grind
example (a b : F P) (h : a * b = 0) (h2 : a ≠ 0) : b = 0 := by grind
end Fp

set_option maxRecDepth 100000
set_option linter.unusedVariables false
namespace Fp
open Rb32
variable {P : Pr}
def co (P : Pr) (v : Row) (i : Nat) : F P := cst P (at_ v i)
theorem co_cons_zero (a : Nat) (v : Row) : co P (a :: v) 0 = cst P a := rfl
theorem co_cons_succ (a : Nat) (v : Row) (i : Nat) : co P (a :: v) (i + 1) = co P v i := rfl
theorem co_nil (i : Nat) : co P [] i = 0 := rfl
theorem at_map (g : Nat → Nat) (h0 : g 0 = 0) : ∀ (v : Row) (i : Nat), at_ (v.map g) i = g (at_ v i)
  | [], i => h0.symm
  | a :: r, 0 => rfl
  | a :: r, i + 1 => at_map g h0 r i
theorem co_ext {u w : Row} (hu : small P.p u) (hw : small P.p w) (hl : u.length = w.length) (h : ∀ i, co P u i = co P w i) : u = w := by
  induction u generalizing w with
  | nil =>
    cases w with
    | nil => rfl
    | cons b s => simp at hl
  | cons a r ih =>
    cases w with
    | nil => simp at hl
    | cons b s =>
      have e : a = b := cst_lt (hu a List.mem_cons_self) (hw b List.mem_cons_self) (h 0)
      rw [e, ih (fun x hx => hu x (List.mem_cons_of_mem _ hx)) (fun x hx => hw x (List.mem_cons_of_mem _ hx)) (by simpa using hl) (fun i => h (i + 1))]
theorem normal_zero' {p a : Nat} (v : Row) (ha : a % p = 0) : normal p (a :: v) = (normal p v).map (fun u => 0 :: u) := by
  unfold normal
  rw [List.find?_cons]
  simp only [ha, bne_self_eq_false]
  cases h : v.find? (fun x => x % p != 0) with
  | none => rfl
  | some b => simp only [List.map_cons, ha, Nat.zero_mul, Nat.zero_mod, Option.map_some]
theorem normal_small {v u : Row} (h : normal P.p v = some u) : small P.p u ∧ u.length = v.length := by
  unfold normal at h
  cases e : v.find? (fun x => x % P.p != 0) with
  | none =>
    rw [e] at h
    cases h
  | some a =>
    rw [e] at h
    cases h
    refine ⟨?_, by simp⟩
    intro x hx
    obtain ⟨y, _, rfl⟩ := List.mem_map.mp hx
    exact Nat.mod_lt _ (by have := two_le P; omega)
theorem normal_nf {v u : Row} (h : normal P.p v = some u) : nf P.p u = true := by
  induction v generalizing u with
  | nil => cases h
  | cons a r ih =>
    by_cases ha : a % P.p = 0
    · rw [normal_zero' r ha] at h
      cases e : normal P.p r with
      | none =>
        rw [e] at h
        cases h
      | some w =>
        rw [e] at h
        cases h
        rw [nf_zero (by have := two_le P; omega)]
        exact ih e
    · have hs := (normal_small h).1
      have hp := two_le P
      rw [normal_head r ha, List.map_cons, inv_mul P.mem (Nat.mod_lt a (by omega)) ha] at h
      cases h
      exact nf_one P.mem (fun x hx => hs x (List.mem_cons_of_mem _ hx))
theorem normal_co {v u : Row} (h : normal P.p v = some u) : ∃ c : F P, c ≠ 0 ∧ ∀ i, co P u i = c * co P v i := by
  unfold normal at h
  cases e : v.find? (fun x => x % P.p != 0) with
  | none =>
    rw [e] at h
    cases h
  | some a =>
    rw [e] at h
    cases h
    have hz : (a % P.p != 0) = true := List.find?_some (p := fun x => x % P.p != 0) e
    have hz' : a % P.p ≠ 0 := by simpa using hz
    have ha : cst P a ≠ 0 := fun h => hz' (cst_eq_zero.mp h)
    refine ⟨(cst P a)⁻¹, ?_, ?_⟩
    · intro h
      have := mul_inv_c ha
      rw [h] at this
      have z := zero_ne (P := P)
      grind
    · intro i
      unfold co
      rw [at_map (fun x => x % P.p * inverse P.p (a % P.p) % P.p) (by simp), cst_inv, cst_mod, cst_mul, cst_mod]
      grind
theorem normal_none {v : Row} : normal P.p v = none ↔ ∀ i, co P v i = 0 := by
  induction v with
  | nil => exact ⟨fun _ i => rfl, fun _ => rfl⟩
  | cons a r ih =>
    by_cases ha : a % P.p = 0
    · rw [normal_zero' r ha, Option.map_eq_none_iff, ih]
      constructor
      · intro h i
        cases i with
        | zero => exact cst_eq_zero.mpr ha
        | succ i => exact h i
      · intro h i
        exact h (i + 1)
    · rw [normal_head r ha]
      constructor
      · intro h
        cases h
      · intro h
        exact absurd (cst_eq_zero.mp (h 0)) ha
theorem nf_ne {v : Row} (h : nf P.p v = true) : ∃ i, co P v i ≠ 0 := by
  have h1 : normal P.p v = some v := by
    unfold nf at h
    simpa using h
  refine Classical.byContradiction fun hc => ?_
  have : normal P.p v = none := normal_none.mpr (fun i => Classical.byContradiction fun hi => hc ⟨i, hi⟩)
  rw [this] at h1
  cases h1
theorem nf_unique {u w : Row} (hu : small P.p u) (hw : small P.p w) (hl : u.length = w.length) (nu : nf P.p u = true) (nw : nf P.p w = true) {c : F P} (h : ∀ i, co P u i = c * co P w i) : u = w := by
  induction u generalizing w with
  | nil => cases nu
  | cons a r ih =>
    cases w with
    | nil => simp at hl
    | cons b s =>
      have ha := hu a List.mem_cons_self
      have hb := hw b List.mem_cons_self
      have hur : small P.p r := fun x hx => hu x (List.mem_cons_of_mem _ hx)
      have hws : small P.p s := fun x hx => hw x (List.mem_cons_of_mem _ hx)
      have a2 : a < 2 := Nat.lt_of_not_le fun h2 => by
        rw [nf_big P.mem ha h2] at nu
        cases nu
      have b2 : b < 2 := Nat.lt_of_not_le fun h2 => by
        rw [nf_big P.mem hb h2] at nw
        cases nw
      have h0 := h 0
      rw [co_cons_zero, co_cons_zero] at h0
      have hp : 0 < P.p := by have := two_le P; omega
      have z := zero_ne (P := P)
      by_cases hb0 : b = 0
      · subst hb0
        rw [cst_zero] at h0
        have ha0 : a = 0 := (cst_lt_zero ha).mp (by rw [h0]; grind)
        subst ha0
        rw [nf_zero hp] at nu nw
        rw [ih hur hws (by simpa using hl) nu nw (fun i => h (i + 1))]
      · have hb1 : b = 1 := by omega
        subst hb1
        rw [cst_one] at h0
        by_cases ha0 : a = 0
        · subst ha0
          rw [cst_zero] at h0
          have hc : c = 0 := by grind
          obtain ⟨i, hi⟩ := nf_ne nu
          exact absurd (by rw [h i, hc]; grind) hi
        · have ha1 : a = 1 := by omega
          subst ha1
          rw [cst_one] at h0
          have hc : c = 1 := by grind
          apply co_ext hu hw hl
          intro i
          rw [h i, hc]
          grind
theorem normal_eq {v u : Row} (hs : small P.p u) (hl : u.length = v.length) (hn : nf P.p u = true) {c : F P} (h : ∀ i, co P u i = c * co P v i) : normal P.p v = some u := by
  cases e : normal P.p v with
  | none =>
    have h0 := normal_none.mp e
    obtain ⟨i, hi⟩ := nf_ne hn
    exact absurd (by rw [h i, h0 i]; grind) hi
  | some w =>
    obtain ⟨k, hk, hw⟩ := normal_co e
    obtain ⟨ws, wl⟩ := normal_small e
    congr 1
    symm
    apply nf_unique hs ws (by rw [hl, wl]) hn (normal_nf e) (c := c * k⁻¹)
    intro i
    rw [h i, hw i]
    have := mul_inv_c hk
    grind

/- three numbers -/
@[ext] structure V (P : Pr) where
  x : F P
  y : F P
  z : F P
def vec (P : Pr) (v : Row) : V P := ⟨co P v 0, co P v 1, co P v 2⟩
def ip (u v : V P) : F P := u.x * v.x + u.y * v.y + u.z * v.z
def cr (u v : V P) : V P := ⟨u.y * v.z - u.z * v.y, u.z * v.x - u.x * v.z, u.x * v.y - u.y * v.x⟩
def dt (u v w : V P) : F P := ip u (cr v w)
def sc (c : F P) (u : V P) : V P := ⟨c * u.x, c * u.y, c * u.z⟩
theorem dot_c (u v : Row) : cst P (dot P.p u v) = ip (vec P u) (vec P v) := by
  unfold dot ip vec co
  rw [cst_mod, cst_add, cst_add, cst_mul, cst_mul, cst_mul]
theorem cross_c (u v : Row) : vec P (cross P.p u v) = cr (vec P u) (vec P v) := by
  unfold vec co cr cross
  simp only [at_, List.getD_cons_zero, List.getD_cons_succ, cst_sub, cst_mul]
theorem det_c (u v w : Row) : cst P (det P.p u v w) = dt (vec P u) (vec P v) (vec P w) := by
  unfold det dt
  rw [dot_c, cross_c]
theorem dot_lt (u v : Row) : dot P.p u v < P.p := Nat.mod_lt _ (by have := two_le P; omega)
theorem det_lt (u v w : Row) : det P.p u v w < P.p := dot_lt u _
theorem det_zero (u v w : Row) : det P.p u v w = 0 ↔ dt (vec P u) (vec P v) (vec P w) = 0 := by
  rw [← det_c, cst_lt_zero (det_lt u v w)]
theorem dot_zero (u v : Row) : dot P.p u v = 0 ↔ ip (vec P u) (vec P v) = 0 := by
  rw [← dot_c, cst_lt_zero (dot_lt u v)]
theorem len3 {v : Row} (h : v.length = 3) : v = [at_ v 0, at_ v 1, at_ v 2] := by
  match v, h with
  | [a, b, c], _ => rfl
theorem co3 {v : Row} (h : v.length = 3) (i : Nat) (hi : 3 ≤ i) : co P v i = 0 := by
  match v, h, i, hi with
  | [a, b, c], _, i + 3, _ => rfl
theorem vec_co {u v : Row} (hu : u.length = 3) (hv : v.length = 3) {c : F P} (h : vec P u = sc c (vec P v)) (i : Nat) : co P u i = c * co P v i := by
  match i with
  | 0 => exact congrArg V.x h
  | 1 => exact congrArg V.y h
  | 2 => exact congrArg V.z h
  | i + 3 =>
    rw [co3 hu _ (by omega), co3 hv _ (by omega)]
    grind
end Fp

set_option maxRecDepth 100000
set_option linter.unusedVariables false
namespace Fp
open Rb32
variable {P : Pr}
theorem find_only {α : Type} {l : List α} {q : α → Bool} {m : α} (hm : m ∈ l) (hq : q m = true) (hu : ∀ x ∈ l, q x = true → x = m) : l.find? q = some m := by
  cases e : l.find? q with
  | none =>
    have := List.find?_eq_none.mp e m hm
    exact absurd hq this
  | some x =>
    have h1 := List.mem_of_find?_eq_some e
    have h2 : q x = true := List.find?_some e
    rw [hu x h1 h2]
def cb (a : F P) (u : V P) (b : F P) (v : V P) (c : F P) (w : V P) : V P := ⟨a * u.x + b * v.x + c * w.x, a * u.y + b * v.y + c * w.y, a * u.z + b * v.z + c * w.z⟩
theorem cramer (u v w r : V P) : sc (dt u v w) r = cb (dt r v w) u (dt u r w) v (dt u v r) w := by
  apply V.ext <;> (simp only [sc, dt, ip, cr, cb]; grind)
theorem dt_cb1 (a b c : F P) (u v w : V P) : dt (cb a u b v c w) v w = a * dt u v w := by
  simp only [dt, ip, cr, cb]
  grind
theorem dt_cb2 (a b c : F P) (u v w : V P) : dt u (cb a u b v c w) w = b * dt u v w := by
  simp only [dt, ip, cr, cb]
  grind
theorem dt_cb3 (a b c : F P) (u v w : V P) : dt u v (cb a u b v c w) = c * dt u v w := by
  simp only [dt, ip, cr, cb]
  grind
theorem dt_sc1 (a : F P) (u v w : V P) : dt (sc a u) v w = a * dt u v w := by
  simp only [dt, ip, cr, sc]
  grind
theorem dt_sc2 (a : F P) (u v w : V P) : dt u (sc a v) w = a * dt u v w := by
  simp only [dt, ip, cr, sc]
  grind
theorem dt_sc3 (a : F P) (u v w : V P) : dt u v (sc a w) = a * dt u v w := by
  simp only [dt, ip, cr, sc]
  grind
theorem ip_zero {u v w r : V P} (hd : dt u v w ≠ 0) (h1 : ip r u = 0) (h2 : ip r v = 0) (h3 : ip r w = 0) : r.x = 0 ∧ r.y = 0 ∧ r.z = 0 := by
  have ex : dt u v w * r.x = ip r u * (cr v w).x + ip r v * (cr w u).x + ip r w * (cr u v).x := by
    simp only [dt, ip, cr]
    grind
  have ey : dt u v w * r.y = ip r u * (cr v w).y + ip r v * (cr w u).y + ip r w * (cr u v).y := by
    simp only [dt, ip, cr]
    grind
  have ez : dt u v w * r.z = ip r u * (cr v w).z + ip r v * (cr w u).z + ip r w * (cr u v).z := by
    simp only [dt, ip, cr]
    grind
  rw [h1, h2, h3] at ex ey ez
  refine ⟨mul_eq_zero_c ?_ hd, mul_eq_zero_c ?_ hd, mul_eq_zero_c ?_ hd⟩
  · rw [ex]
    grind
  · rw [ey]
    grind
  · rw [ez]
    grind
/- matrices -/
structure M (P : Pr) where
  a : V P
  b : V P
  c : V P
def mv (m : M P) (v : V P) : V P := ⟨ip m.a v, ip m.b v, ip m.c v⟩
theorem mv_sc (m : M P) (k : F P) (v : V P) : mv m (sc k v) = sc k (mv m v) := by
  apply V.ext <;> (simp only [mv, sc, ip]; grind)
theorem mv_cb (m : M P) (a b c : F P) (u v w : V P) : mv m (cb a u b v c w) = cb a (mv m u) b (mv m v) c (mv m w) := by
  apply V.ext <;> (simp only [mv, cb, ip]; grind)
theorem cb_sc (a b c k l n : F P) (u v w : V P) : cb a (sc k u) b (sc l v) c (sc n w) = cb (a * k) u (b * l) v (c * n) w := by
  apply V.ext <;> (simp only [sc, cb]; grind)
theorem sc_sc (a b : F P) (u : V P) : sc a (sc b u) = sc (a * b) u := by
  apply V.ext <;> (simp only [sc]; grind)
/- M takes u1..u4 to multiples of t1..t4: the factors hang together -/
theorem factors {m : M P} {u1 u2 u3 u4 t1 t2 t3 t4 : V P} {l1 l2 l3 l4 : F P} (h1 : mv m u1 = sc l1 t1) (h2 : mv m u2 = sc l2 t2) (h3 : mv m u3 = sc l3 t3) (h4 : mv m u4 = sc l4 t4) :
    dt u1 u2 u3 * l4 * dt t4 t2 t3 = dt u4 u2 u3 * l1 * dt t1 t2 t3 ∧ dt u1 u2 u3 * l4 * dt t1 t4 t3 = dt u1 u4 u3 * l2 * dt t1 t2 t3 ∧ dt u1 u2 u3 * l4 * dt t1 t2 t4 = dt u1 u2 u4 * l3 * dt t1 t2 t3 := by
  have e : sc (dt u1 u2 u3 * l4) t4 = cb (dt u4 u2 u3 * l1) t1 (dt u1 u4 u3 * l2) t2 (dt u1 u2 u4 * l3) t3 := by
    rw [← sc_sc, ← h4, ← mv_sc, cramer, mv_cb, h1, h2, h3, cb_sc]
  refine ⟨?_, ?_, ?_⟩
  · rw [← dt_sc1, e, dt_cb1]
  · rw [← dt_sc2, e, dt_cb2]
  · rw [← dt_sc3, e, dt_cb3]
theorem same_factor {D l4 E1 D1 l1 E l4' l1' : F P} (h : D * l4 * E1 = D1 * l1 * E) (h' : D * l4' * E1 = D1 * l1' * E) (hD : D1 ≠ 0) (hE : E ≠ 0) : l1' * l4 = l4' * l1 := by
  have e : D1 * (E * (l1' * l4 - l4' * l1)) = 0 := by grind
  have e2 := mul_eq_zero_c (mul_eq_zero_c e hD) hE
  grind
theorem row_same {u v w a a' : V P} {k : F P} (hd : dt u v w ≠ 0) (h1 : ip a' u = k * ip a u) (h2 : ip a' v = k * ip a v) (h3 : ip a' w = k * ip a w) : a' = sc k a := by
  have key : ∀ s : V P, ip a' s = k * ip a s → ip (⟨a'.x - k * a.x, a'.y - k * a.y, a'.z - k * a.z⟩ : V P) s = 0 := by
    intro s hs
    simp only [ip] at *
    grind
  obtain ⟨e1, e2, e3⟩ := ip_zero hd (key u h1) (key v h2) (key w h3)
  apply V.ext
  · simp only [sc]
    grind
  · simp only [sc]
    grind
  · simp only [sc]
    grind
theorem mat_same {m m' : M P} {u1 u2 u3 u4 t1 t2 t3 t4 : V P} {l1 l2 l3 l4 l1' l2' l3' l4' : F P}
    (h1 : mv m u1 = sc l1 t1) (h2 : mv m u2 = sc l2 t2) (h3 : mv m u3 = sc l3 t3) (h4 : mv m u4 = sc l4 t4)
    (h1' : mv m' u1 = sc l1' t1) (h2' : mv m' u2 = sc l2' t2) (h3' : mv m' u3 = sc l3' t3) (h4' : mv m' u4 = sc l4' t4)
    (d0 : dt u1 u2 u3 ≠ 0) (d1 : dt u4 u2 u3 ≠ 0) (d2 : dt u1 u4 u3 ≠ 0) (d3 : dt u1 u2 u4 ≠ 0) (e0 : dt t1 t2 t3 ≠ 0) (hl : l4 ≠ 0) :
    m'.a = sc (l4' * l4⁻¹) m.a ∧ m'.b = sc (l4' * l4⁻¹) m.b ∧ m'.c = sc (l4' * l4⁻¹) m.c := by
  obtain ⟨f1, f2, f3⟩ := factors h1 h2 h3 h4
  obtain ⟨f1', f2', f3'⟩ := factors h1' h2' h3' h4'
  have hi := mul_inv_c hl
  have k1 : l1' = l4' * l4⁻¹ * l1 := by
    have := same_factor f1 f1' d1 e0
    grind
  have k2 : l2' = l4' * l4⁻¹ * l2 := by
    have := same_factor f2 f2' d2 e0
    grind
  have k3 : l3' = l4' * l4⁻¹ * l3 := by
    have := same_factor f3 f3' d3 e0
    grind
  generalize l4' * l4⁻¹ = k at k1 k2 k3 ⊢
  have g1 : mv m' u1 = sc k (mv m u1) := by rw [h1', h1, sc_sc, k1]
  have g2 : mv m' u2 = sc k (mv m u2) := by rw [h2', h2, sc_sc, k2]
  have g3 : mv m' u3 = sc k (mv m u3) := by rw [h3', h3, sc_sc, k3]
  refine ⟨row_same d0 (congrArg V.x g1) (congrArg V.x g2) (congrArg V.x g3), row_same d0 (congrArg V.y g1) (congrArg V.y g2) (congrArg V.y g3), row_same d0 (congrArg V.z g1) (congrArg V.z g2) (congrArg V.z g3)⟩
/- the specification's matrices -/
def mat (P : Pr) (m : Row) : M P := ⟨vec P (matRow m 0), vec P (matRow m 1), vec P (matRow m 2)⟩
def image (p : Nat) (m v : Row) : Row := [dot p (matRow m 0) v, dot p (matRow m 1) v, dot p (matRow m 2) v]
theorem image_c (m v : Row) : vec P (image P.p m v) = mv (mat P m) (vec P v) := by
  unfold image
  apply V.ext
  · exact dot_c _ _
  · exact dot_c _ _
  · exact dot_c _ _
theorem sc_inv {c : F P} (hc : c ≠ 0) {u v : V P} (h : u = sc c v) : v = sc c⁻¹ u := by
  subst h
  have := mul_inv_c hc
  rw [sc_sc]
  apply V.ext <;> (simp only [sc]; grind)
theorem inv_ne {c : F P} (hc : c ≠ 0) : c⁻¹ ≠ 0 := by
  intro h
  have := mul_inv_c hc
  have z := zero_ne (P := P)
  rw [h] at this
  grind
theorem moved_some {m v w : Row} (h : moved P.p m v = some w) : ∃ c : F P, c ≠ 0 ∧ mv (mat P m) (vec P v) = sc c (vec P w) := by
  obtain ⟨c, hc, hw⟩ := normal_co (v := image P.p m v) h
  refine ⟨c⁻¹, inv_ne hc, ?_⟩
  rw [← image_c]
  apply sc_inv hc
  apply V.ext
  · exact hw 0
  · exact hw 1
  · exact hw 2
theorem moved_is {m v w : Row} (hs : small P.p w) (hl : w.length = 3) (hn : nf P.p w = true) {c : F P} (hc : c ≠ 0) (h : mv (mat P m) (vec P v) = sc c (vec P w)) : moved P.p m v = some w := by
  have e := sc_inv hc h
  rw [← image_c] at e
  exact normal_eq (v := image P.p m v) hs hl hn (vec_co hl rfl e)
theorem arc4 {p : Nat} {a b c d : Row} (h : arc p [a, b, c, d] = true) : det p a b c ≠ 0 ∧ det p a b d ≠ 0 ∧ det p a c d ≠ 0 ∧ det p b c d ≠ 0 := by
  simp only [arc, arc.pairs, List.all_cons, List.all_nil, Bool.and_eq_true, bne_iff_ne] at h
  grind
theorem dt_swap12 (u v w : V P) : dt u v w = - dt v u w := by
  simp only [dt, ip, cr]
  grind
theorem dt_swap23 (u v w : V P) : dt u v w = - dt u w v := by
  simp only [dt, ip, cr]
  grind
theorem dt_rot (u v w : V P) : dt u v w = dt v w u := by
  simp only [dt, ip, cr]
  grind
theorem mat_co {m m' : Row} (hl : m.length = 9) (hl' : m'.length = 9) {k : F P} (ha : (mat P m').a = sc k (mat P m).a) (hb : (mat P m').b = sc k (mat P m).b) (hc : (mat P m').c = sc k (mat P m).c) (i : Nat) : co P m' i = k * co P m i := by
  match m, hl, m', hl' with
  | [x0, x1, x2, x3, x4, x5, x6, x7, x8], _, [y0, y1, y2, y3, y4, y5, y6, y7, y8], _ =>
    match i with
    | 0 => exact congrArg V.x ha
    | 1 => exact congrArg V.y ha
    | 2 => exact congrArg V.z ha
    | 3 => exact congrArg V.x hb
    | 4 => exact congrArg V.y hb
    | 5 => exact congrArg V.z hb
    | 6 => exact congrArg V.x hc
    | 7 => exact congrArg V.y hc
    | 8 => exact congrArg V.z hc
    | i + 9 =>
      show (0 : F P) = k * 0
      grind
theorem takes_unique {m m' a b c d s t u v : Row} (hf : arc P.p [a, b, c, d] = true) (ht : arc P.p [s, t, u, v] = true)
    (hm : m ∈ rows P.p 9) (hm' : m' ∈ rows P.p 9) (h : takes P.p m [a, b, c, d] [s, t, u, v] = true) (h' : takes P.p m' [a, b, c, d] [s, t, u, v] = true) : m' = m := by
  obtain ⟨l9, s9⟩ := (rows_small 9 m).mp hm
  obtain ⟨l9', s9'⟩ := (rows_small 9 m').mp hm'
  simp only [takes, Bool.and_eq_true] at h h'
  obtain ⟨n1, _, k⟩ := h
  obtain ⟨n1', _, k'⟩ := h'
  change nf P.p m = true at n1
  change nf P.p m' = true at n1'
  simp only [List.map_cons, List.map_nil, beq_iff_eq, List.cons.injEq, and_true] at k k'
  obtain ⟨ka, kb, kc, kd⟩ := k
  obtain ⟨ka', kb', kc', kd'⟩ := k'
  obtain ⟨l1, _, h1⟩ := moved_some ka
  obtain ⟨l2, _, h2⟩ := moved_some kb
  obtain ⟨l3, _, h3⟩ := moved_some kc
  obtain ⟨l4, hl4, h4⟩ := moved_some kd
  obtain ⟨l1', _, h1'⟩ := moved_some ka'
  obtain ⟨l2', _, h2'⟩ := moved_some kb'
  obtain ⟨l3', _, h3'⟩ := moved_some kc'
  obtain ⟨l4', _, h4'⟩ := moved_some kd'
  obtain ⟨f1, f2, f3, f4⟩ := arc4 hf
  obtain ⟨t1, _, _, _⟩ := arc4 ht
  rw [Ne, det_zero] at f1 f2 f3 f4 t1
  have d1 : dt (vec P d) (vec P b) (vec P c) ≠ 0 := by rwa [dt_rot]
  have d2 : dt (vec P a) (vec P d) (vec P c) ≠ 0 := by
    rw [dt_swap23]
    grind
  obtain ⟨ea, eb, ec⟩ := mat_same h1 h2 h3 h4 h1' h2' h3' h4' f1 d1 d2 f2 t1 hl4
  exact nf_unique s9' s9 (by rw [l9, l9']) n1' n1 (mat_co l9 l9' ea eb ec)
end Fp

set_option maxRecDepth 100000
set_option linter.unusedVariables false
namespace Fp
open Rb32
variable {P : Pr}
structure C (P : Pr) where
  a : F P
  b : F P
  c : F P
  d : F P
  e : F P
  f : F P
def qv (c : C P) (v : V P) : F P := c.a * (v.x * v.x) + c.b * (v.x * v.y) + c.c * (v.x * v.z) + c.d * (v.y * v.y) + c.e * (v.y * v.z) + c.f * (v.z * v.z)
def bl (c : C P) (u v : V P) : F P := 2 * c.a * (u.x * v.x) + c.b * (u.x * v.y + u.y * v.x) + c.c * (u.x * v.z + u.z * v.x) + 2 * c.d * (u.y * v.y) + c.e * (u.y * v.z + u.z * v.y) + 2 * c.f * (u.z * v.z)
theorem qv_sc (c : C P) (k : F P) (u : V P) : qv c (sc k u) = k * k * qv c u := by
  simp only [qv, sc]
  grind
theorem qv_cb (c : C P) (k l n : F P) (u v w : V P) : qv c (cb k u l v n w) = k * k * qv c u + l * l * qv c v + n * n * qv c w + k * l * bl c u v + k * n * bl c u w + l * n * bl c v w := by
  simp only [qv, cb, bl]
  grind
def csub (c : C P) (k : F P) (d : C P) : C P := ⟨c.a - k * d.a, c.b - k * d.b, c.c - k * d.c, c.d - k * d.d, c.e - k * d.e, c.f - k * d.f⟩
theorem qv_csub (c : C P) (k : F P) (d : C P) (v : V P) : qv (csub c k d) v = qv c v - k * qv d v := by
  simp only [qv, csub]
  grind
theorem bl_csub (c : C P) (k : F P) (d : C P) (u v : V P) : bl (csub c k d) u v = bl c u v - k * bl d u v := by
  simp only [bl, csub]
  grind
theorem conic_zero {c : C P} (h : ∀ v, qv c v = 0) : c.a = 0 ∧ c.b = 0 ∧ c.c = 0 ∧ c.d = 0 ∧ c.e = 0 ∧ c.f = 0 := by
  have h1 := h ⟨1, 0, 0⟩
  have h2 := h ⟨0, 1, 0⟩
  have h3 := h ⟨0, 0, 1⟩
  have h4 := h ⟨1, 1, 0⟩
  have h5 := h ⟨1, 0, 1⟩
  have h6 := h ⟨0, 1, 1⟩
  simp only [qv] at h1 h2 h3 h4 h5 h6
  grind
theorem qv_basis {c : C P} {u v w : V P} (hd : dt u v w ≠ 0) (hu : qv c u = 0) (hv : qv c v = 0) (hw : qv c w = 0) (h12 : bl c u v = 0) (h13 : bl c u w = 0) (h23 : bl c v w = 0) (r : V P) : qv c r = 0 := by
  have e := qv_sc c (dt u v w) r
  rw [cramer, qv_cb, hu, hv, hw, h12, h13, h23] at e
  have e1 : dt u v w * (dt u v w * qv c r) = 0 := by grind
  exact mul_eq_zero_c (mul_eq_zero_c e1 hd) hd
theorem on_basis {c : C P} {u v w r : V P} (hu : qv c u = 0) (hv : qv c v = 0) (hw : qv c w = 0) (hr : qv c r = 0) :
    dt r v w * dt u r w * bl c u v + dt r v w * dt u v r * bl c u w + dt u r w * dt u v r * bl c v w = 0 := by
  have e := qv_sc c (dt u v w) r
  rw [cramer, qv_cb, hu, hv, hw, hr] at e
  grind
theorem plucker (u v w r s : V P) : dt r v w * dt u s w - dt s v w * dt u r w = dt u v w * dt r s w := by
  simp only [dt, ip, cr]
  grind
theorem bls {c : C P} {u v w r s : V P} (hu : qv c u = 0) (hv : qv c v = 0) (hw : qv c w = 0) (hr : qv c r = 0) (hs : qv c s = 0)
    (d1 : dt u v r ≠ 0) (d2 : dt u v s ≠ 0) (d3 : dt u v w ≠ 0) (d4 : dt r s w ≠ 0) (h0 : bl c u v = 0) : bl c u w = 0 ∧ bl c v w = 0 := by
  have e1 := on_basis hu hv hw hr
  have e2 := on_basis hu hv hw hs
  have pl := plucker u v w r s
  rw [h0] at e1 e2
  generalize dt r v w = a1 at *
  generalize dt u r w = a2 at *
  generalize dt u v r = a3 at *
  generalize dt s v w = b1 at *
  generalize dt u s w = b2 at *
  generalize dt u v s = b3 at *
  generalize dt u v w = D at *
  generalize dt r s w = E at *
  generalize bl c u w = x at *
  generalize bl c v w = y at *
  have f1 : a3 * (a1 * x + a2 * y) = 0 := by grind
  have f2 : b3 * (b1 * x + b2 * y) = 0 := by grind
  have g1 := mul_eq_zero_c f1 d1
  have g2 := mul_eq_zero_c f2 d2
  have hx : D * (E * x) = 0 := by grind
  have hy : D * (E * y) = 0 := by grind
  exact ⟨mul_eq_zero_c (mul_eq_zero_c hx d3) d4, mul_eq_zero_c (mul_eq_zero_c hy d3) d4⟩
theorem conic_same {c c' : C P} {u v w r s : V P} (hu : qv c u = 0) (hv : qv c v = 0) (hw : qv c w = 0) (hr : qv c r = 0) (hs : qv c s = 0)
    (hu' : qv c' u = 0) (hv' : qv c' v = 0) (hw' : qv c' w = 0) (hr' : qv c' r = 0) (hs' : qv c' s = 0)
    (d1 : dt u v r ≠ 0) (d2 : dt u v s ≠ 0) (d3 : dt u v w ≠ 0) (d4 : dt r s w ≠ 0) (hc : ∃ r, qv c r ≠ 0) :
    ∃ k : F P, c'.a = k * c.a ∧ c'.b = k * c.b ∧ c'.c = k * c.c ∧ c'.d = k * c.d ∧ c'.e = k * c.e ∧ c'.f = k * c.f := by
  have hB : bl c u v ≠ 0 := by
    intro h0
    obtain ⟨x, y⟩ := bls hu hv hw hr hs d1 d2 d3 d4 h0
    obtain ⟨q, hq⟩ := hc
    exact hq (qv_basis d3 hu hv hw h0 x y q)
  have hi := mul_inv_c hB
  have z : ∀ q, qv c q = 0 → qv c' q = 0 → qv (csub c' (bl c' u v * (bl c u v)⁻¹) c) q = 0 := by
    intro q h1 h2
    rw [qv_csub, h1, h2]
    grind
  have h0 : bl (csub c' (bl c' u v * (bl c u v)⁻¹) c) u v = 0 := by
    rw [bl_csub]
    grind
  obtain ⟨x, y⟩ := bls (z u hu hu') (z v hv hv') (z w hw hw') (z r hr hr') (z s hs hs') d1 d2 d3 d4 h0
  have := conic_zero (qv_basis d3 (z u hu hu') (z v hv hv') (z w hw hw') h0 x y)
  refine ⟨bl c' u v * (bl c u v)⁻¹, ?_⟩
  simp only [csub] at this
  grind
def con (P : Pr) (c : Row) : C P := ⟨co P c 0, co P c 1, co P c 2, co P c 3, co P c 4, co P c 5⟩
theorem value_c (c v : Row) : cst P (value P.p c v) = qv (con P c) (vec P v) := by
  unfold value
  simp only [cst_mod, cst_add, cst_mul]
  rfl
theorem value_lt (c v : Row) : value P.p c v < P.p := Nat.mod_lt _ (by have := two_le P; omega)
theorem value_zero (c v : Row) : value P.p c v = 0 ↔ qv (con P c) (vec P v) = 0 := by
  rw [← value_c, cst_lt_zero (value_lt c v)]
theorem con_co {c c' : Row} (hl : c.length = 6) (hl' : c'.length = 6) {k : F P} (h : (con P c').a = k * (con P c).a ∧ (con P c').b = k * (con P c).b ∧ (con P c').c = k * (con P c).c ∧ (con P c').d = k * (con P c).d ∧ (con P c').e = k * (con P c).e ∧ (con P c').f = k * (con P c).f) (i : Nat) : co P c' i = k * co P c i := by
  obtain ⟨h0, h1, h2, h3, h4, h5⟩ := h
  match i with
  | 0 => exact h0
  | 1 => exact h1
  | 2 => exact h2
  | 3 => exact h3
  | 4 => exact h4
  | 5 => exact h5
  | i + 6 =>
    match c, hl, c', hl' with
    | [x0, x1, x2, x3, x4, x5], _, [y0, y1, y2, y3, y4, y5], _ =>
      show (0 : F P) = k * 0
      grind
theorem con_ne {c : Row} (hl : c.length = 6) (h : nf P.p c = true) : ∃ r, qv (con P c) r ≠ 0 := by
  refine Classical.byContradiction fun hn => ?_
  have hz : ∀ r, qv (con P c) r = 0 := fun r => Classical.byContradiction fun hr => hn ⟨r, hr⟩
  obtain ⟨h0, h1, h2, h3, h4, h5⟩ := conic_zero hz
  obtain ⟨i, hi⟩ := nf_ne h
  apply hi
  match i with
  | 0 => exact h0
  | 1 => exact h1
  | 2 => exact h2
  | 3 => exact h3
  | 4 => exact h4
  | 5 => exact h5
  | i + 6 =>
    match c, hl with
    | [x0, x1, x2, x3, x4, x5], _ => rfl
theorem arc5 {p : Nat} {a b c d e : Row} (h : arc p [a, b, c, d, e] = true) : det p a b c ≠ 0 ∧ det p a b d ≠ 0 ∧ det p a b e ≠ 0 ∧ det p a c d ≠ 0 ∧ det p a c e ≠ 0 ∧ det p a d e ≠ 0 ∧ det p b c d ≠ 0 ∧ det p b c e ≠ 0 ∧ det p b d e ≠ 0 ∧ det p c d e ≠ 0 := by
  simp only [arc, arc.pairs, List.all_cons, List.all_nil, Bool.and_eq_true, bne_iff_ne] at h
  grind
theorem through_unique {k k' a b c d e : Row} (ha : arc P.p [a, b, c, d, e] = true) (hk : k ∈ rows P.p 6) (hk' : k' ∈ rows P.p 6)
    (h : Rb32.through P.p k [a, b, c, d, e] = true) (h' : Rb32.through P.p k' [a, b, c, d, e] = true) : k' = k := by
  obtain ⟨l6, s6⟩ := (rows_small 6 k).mp hk
  obtain ⟨l6', s6'⟩ := (rows_small 6 k').mp hk'
  simp only [Rb32.through, Bool.and_eq_true, List.all_cons, List.all_nil, and_true] at h h'
  obtain ⟨n1, ka, kb, kc, kd, ke⟩ := h
  obtain ⟨n1', ka', kb', kc', kd', ke'⟩ := h'
  change nf P.p k = true at n1
  change nf P.p k' = true at n1'
  simp only [beq_iff_eq, value_zero] at ka kb kc kd ke ka' kb' kc' kd' ke'
  obtain ⟨f1, f2, f3, _, _, _, _, _, _, f4⟩ := arc5 ha
  rw [Ne, det_zero] at f1 f2 f3 f4
  obtain ⟨q, hq⟩ := conic_same ka kb kc kd ke ka' kb' kc' kd' ke' f2 f3 f1 (by rwa [← dt_rot]) (con_ne l6 n1)
  exact nf_unique s6' s6 (by rw [l6, l6']) n1' n1 (con_co l6 l6' hq)
end Fp

set_option maxRecDepth 100000
set_option linter.unusedVariables false
namespace Fp
open Rb32
variable {P : Pr}
/- the first point off a line -/
def off (p : Nat) (l : Row) : Option Row := if at_ l 2 % p ≠ 0 then some [0, 0, 1] else if at_ l 1 % p ≠ 0 then some [0, 1, 0] else if at_ l 0 % p ≠ 0 then some [1, 0, 0] else none
theorem dot_001 (p : Nat) (l : Row) : dot p [0, 0, 1] l = at_ l 2 % p := by simp [dot, at_]
theorem dot_01z (p z : Nat) (l : Row) : dot p [0, 1, z] l = (at_ l 1 + z * at_ l 2) % p := by simp [dot, at_]
theorem dot_1yz (p y z : Nat) (l : Row) : dot p [1, y, z] l = (at_ l 0 + y * at_ l 1 + z * at_ l 2) % p := by simp [dot, at_]
theorem find_map_none {α β : Type} (f : α → β) (q : β → Bool) (l : List α) (h : ∀ x ∈ l, q (f x) = false) : (l.map f).find? q = none := by
  rw [List.find?_eq_none]
  intro y hy
  obtain ⟨x, hx, rfl⟩ := List.mem_map.mp hy
  rw [h x hx]
  decide
theorem range_pos {n : Nat} (h : 0 < n) : ∃ r, List.range n = 0 :: r ∧ ∀ x ∈ r, 0 < x := by
  obtain ⟨k, rfl⟩ : ∃ k, n = k + 1 := ⟨n - 1, by omega⟩
  refine ⟨(List.range k).map Nat.succ, List.range_succ_eq_map, ?_⟩
  intro x hx
  obtain ⟨y, _, rfl⟩ := List.mem_map.mp hx
  omega
theorem mod_mul_zero {p a : Nat} (b : Nat) (h : a % p = 0) : (b * a) % p = 0 := by
  rw [Nat.mul_mod, h, Nat.mul_zero, Nat.zero_mod]
theorem find_off (l : Row) : (points P.p).find? (fun o => dot P.p o l != 0) = off P.p l := by
  have hp := two_le P
  rw [points_eq P.mem, List.find?_cons, dot_001]
  unfold off
  by_cases h2 : at_ l 2 % P.p = 0
  · rw [h2, if_neg (by simp)]
    simp only [bne_self_eq_false]
    rw [List.find?_append]
    by_cases h1 : at_ l 1 % P.p = 0
    · rw [if_neg (by simp [h1]), find_map_none]
      · rw [Option.none_or]
        by_cases h0 : at_ l 0 % P.p = 0
        · rw [if_neg (by simp [h0]), find_map_none]
          intro k _
          rw [dot_1yz]
          have e1 := mod_mul_zero (k / P.p) h1
          have e2 := mod_mul_zero (k % P.p) h2
          rw [Nat.add_mod, e2, Nat.add_zero, Nat.mod_mod, Nat.add_mod, e1, h0]
          simp
        · rw [if_pos (by simpa using h0)]
          obtain ⟨r, er, _⟩ := range_pos (show 0 < P.p * P.p from Nat.mul_pos (by omega) (by omega))
          rw [er, List.map_cons, List.find?_cons, dot_1yz]
          have : (at_ l 0 + 0 / P.p * at_ l 1 + 0 % P.p * at_ l 2) % P.p = at_ l 0 % P.p := by simp
          rw [this]
          have hb : (at_ l 0 % P.p != 0) = true := by simpa using h0
          rw [hb]
          simp
      · intro z _
        rw [dot_01z, Nat.add_mod, mod_mul_zero z h2, h1]
        simp
    · rw [if_pos (by simpa using h1)]
      obtain ⟨r, er, _⟩ := range_pos (show 0 < P.p by omega)
      rw [er, List.map_cons, List.find?_cons, dot_01z]
      have : (at_ l 1 + 0 * at_ l 2) % P.p = at_ l 1 % P.p := by simp
      rw [this]
      have hb : (at_ l 1 % P.p != 0) = true := by simpa using h1
      rw [hb]
      rfl
  · rw [if_pos (by simpa using h2)]
    have hb : (at_ l 2 % P.p != 0) = true := by simpa using h2
    rw [hb]
/- the double ratio does not hang on o -/
theorem line_same (o o' a b c : V P) (h : dt a b c = 0) : dt o a c * dt o' a b = dt o' a c * dt o a b := by
  have e : dt o a c * dt o' a b - dt o' a c * dt o a b = dt a b c * dt o' o a := by
    simp only [dt, ip, cr]
    grind
  rw [h] at e
  grind
theorem line_same2 (o o' a b c : V P) (h : dt a b c = 0) : dt o b c * dt o' a b = dt o' b c * dt o a b := by
  have e : dt o b c * dt o' a b - dt o' b c * dt o a b = dt a b c * dt o' o b := by
    simp only [dt, ip, cr]
    grind
  rw [h] at e
  grind
theorem off_ne {a b c : V P} (o : V P) (h : dt a b c = 0) (ho : dt o a b ≠ 0) (hz : dt o a c = 0) : ∃ k : F P, c = sc k a := by
  have e := cramer o a b c
  have h' : dt c a b = 0 := by rw [dt_rot]; exact h
  rw [h', hz] at e
  have hi := mul_inv_c ho
  refine ⟨dt o c b * (dt o a b)⁻¹, ?_⟩
  have ex := congrArg V.x e
  have ey := congrArg V.y e
  have ez := congrArg V.z e
  simp only [sc, cb] at ex ey ez
  apply V.ext
  · simp only [sc]
    grind
  · simp only [sc]
    grind
  · simp only [sc]
    grind
theorem off_ne2 {a b c : V P} (o : V P) (h : dt a b c = 0) (ho : dt o a b ≠ 0) (hz : dt o b c = 0) : ∃ k : F P, c = sc k b := by
  apply off_ne (a := b) (b := a) o _ _ hz
  · rw [dt_swap12]
    grind
  · rw [dt_swap23]
    grind
theorem ratio_same {o o' a b c d : V P} (h1 : dt a b c = 0) (h2 : dt a b d = 0) (ho : dt o a b ≠ 0) (ho' : dt o' a b ≠ 0) (hd : dt o a d ≠ 0) (hc : dt o b c ≠ 0) (hd' : dt o' a d ≠ 0) (hc' : dt o' b c ≠ 0) :
    dt o a c * dt o b d * (dt o a d * dt o b c)⁻¹ = dt o' a c * dt o' b d * (dt o' a d * dt o' b c)⁻¹ := by
  have e1 := line_same o o' a b c h1
  have e2 := line_same o o' a b d h2
  have e3 := line_same2 o o' a b c h1
  have e4 := line_same2 o o' a b d h2
  have n1 : dt o a d * dt o b c ≠ 0 := fun h => hc (mul_eq_zero_c h hd)
  have n2 : dt o' a d * dt o' b c ≠ 0 := fun h => hc' (mul_eq_zero_c h hd')
  have i1 := mul_inv_c n1
  have i2 := mul_inv_c n2
  generalize dt o a c = x1 at *
  generalize dt o' a c = x2 at *
  generalize dt o b d = y1 at *
  generalize dt o' b d = y2 at *
  generalize dt o a d = z1 at *
  generalize dt o' a d = z2 at *
  generalize dt o b c = w1 at *
  generalize dt o' b c = w2 at *
  generalize dt o a b = m at *
  generalize dt o' a b = n at *
  generalize (z1 * w1)⁻¹ = r at *
  generalize (z2 * w2)⁻¹ = s at *
  have e : m * (m * (n * (n * (x1 * y1 * (z2 * w2) - x2 * y2 * (z1 * w1))))) = 0 := by
    have g1 : (x1 * n) * (y1 * n) * ((z2 * m) * (w2 * m)) = (x2 * m) * (y2 * m) * ((z1 * n) * (w1 * n)) := by
      rw [e1, e4, ← e2, ← e3]
    grind
  have f := mul_eq_zero_c (mul_eq_zero_c (mul_eq_zero_c (mul_eq_zero_c e ho) ho) ho') ho'
  grind
/- arcs -/
theorem pairs_iff {p : Nat} (a : Row) : ∀ l : List Row, arc.pairs p a l = true ↔ ∀ i j : Nat, i < j → j < l.length → det p a (l.getD i []) (l.getD j []) ≠ 0
  | [] => by simp [arc.pairs]
  | b :: r => by
    rw [arc.pairs, Bool.and_eq_true, pairs_iff a r, List.all_eq_true]
    constructor
    · rintro ⟨h1, h2⟩ i j hij hj
      obtain ⟨j, rfl⟩ : ∃ k, j = k + 1 := ⟨j - 1, by omega⟩
      rw [List.length_cons] at hj
      cases i with
      | zero =>
        have hm : r.getD j [] ∈ r := by
          rw [List.getD_eq_getElem?_getD, List.getElem?_eq_getElem (show j < r.length by omega)]
          exact List.getElem_mem _
        simpa using h1 _ hm
      | succ i =>
        have := h2 i j (by omega) (by omega)
        simpa using this
    · intro h
      constructor
      · intro x hx
        obtain ⟨j, hj, rfl⟩ := List.getElem_of_mem hx
        have := h 0 (j + 1) (by omega) (by simp; omega)
        simpa [List.getD_eq_getElem?_getD, List.getElem?_eq_getElem hj] using this
      · intro i j hij hj
        have := h (i + 1) (j + 1) (by omega) (by simp; omega)
        simpa using this
theorem arc_iff {p : Nat} : ∀ l : List Row, arc p l = true ↔ (∀ i j : Nat, i < j → j < l.length → l.getD i [] ≠ l.getD j []) ∧ ∀ i j k : Nat, i < j → j < k → k < l.length → det p (l.getD i []) (l.getD j []) (l.getD k []) ≠ 0
  | [] => by simp [arc]
  | a :: r => by
    rw [arc, Bool.and_eq_true, Bool.and_eq_true, arc_iff r, pairs_iff]
    constructor
    · rintro ⟨⟨h1, h2⟩, h3, h4⟩
      have h3' : a ∉ r := by simpa using h3
      constructor
      · intro i j hij hj
        obtain ⟨j, rfl⟩ : ∃ k, j = k + 1 := ⟨j - 1, by omega⟩
        rw [List.length_cons] at hj
        cases i with
        | zero =>
          intro e
          apply h3'
          have hm : r.getD j [] ∈ r := by
            rw [List.getD_eq_getElem?_getD, List.getElem?_eq_getElem (show j < r.length by omega)]
            exact List.getElem_mem _
          have e' : a = r.getD j [] := by simpa using e
          rw [e']
          exact hm
        | succ i =>
          have := h1 i j (by omega) (by omega)
          simpa using this
      · intro i j k hij hjk hk
        obtain ⟨j, rfl⟩ : ∃ m, j = m + 1 := ⟨j - 1, by omega⟩
        obtain ⟨k, rfl⟩ : ∃ m, k = m + 1 := ⟨k - 1, by omega⟩
        rw [List.length_cons] at hk
        cases i with
        | zero =>
          have := h4 j k (by omega) (by omega)
          simpa using this
        | succ i =>
          have := h2 i j k (by omega) (by omega) (by omega)
          simpa using this
    · rintro ⟨h1, h2⟩
      refine ⟨⟨?_, ?_⟩, ?_, ?_⟩
      · intro i j hij hj
        have := h1 (i + 1) (j + 1) (by omega) (by simp; omega)
        simpa using this
      · intro i j k hij hjk hk
        have := h2 (i + 1) (j + 1) (k + 1) (by omega) (by omega) (by simp; omega)
        simpa using this
      · have : a ∉ r := by
          intro hx
          obtain ⟨j, hj, e⟩ := List.getElem_of_mem hx
          have := h1 0 (j + 1) (by omega) (by simp; omega)
          apply this
          simp [List.getD_eq_getElem?_getD, List.getElem?_eq_getElem hj, e]
        simpa using this
      · intro j k hjk hk
        have := h2 0 (j + 1) (k + 1) (by omega) (by omega) (by simp; omega)
        simpa using this
end Fp

set_option maxRecDepth 100000
set_option linter.unusedVariables false
namespace Fp
open Rb32
variable {P : Pr}
/- the program's matrix from four points to four -/
def rw (rs : List Row) (i : Nat) : Row := rs.getD i []
def sidesR (p : Nat) (rs : List Row) : List Row := [cross p (rw rs 1) (rw rs 2), cross p (rw rs 2) (rw rs 0), cross p (rw rs 0) (rw rs 1)]
def sharesR (p : Nat) (rs : List Row) : Row := (sidesR p rs).map fun s => dot p s (rw rs 3)
def factorsR (p : Nat) (fs gs : Row) : Row := (List.range 3).map fun k => at_ gs k * inverse p (at_ fs k) % p
def heightsR (fac : Row) (goal : List Row) (i : Nat) : Row := (List.range 3).map fun k => at_ fac k * at_ (rw goal k) i
def entryR (p : Nat) (fac : Row) (goal sd : List Row) (i j : Nat) : Nat := dot p (heightsR fac goal i) (sd.map fun s => at_ s j)
def matrixR (p : Nat) (fac : Row) (goal sd : List Row) : Row := (List.range 3).flatMap fun i => (List.range 3).map fun j => entryR p fac goal sd i j
def takeR (p : Nat) (start goal : List Row) : Row := matrixR p (factorsR p (sharesR p start) (sharesR p goal)) goal (sidesR p start)

theorem takeR_len (p : Nat) (start goal : List Row) : (takeR p start goal).length = 9 := rfl
theorem takeR_small (start goal : List Row) : small P.p (takeR P.p start goal) := by
  intro x hx
  unfold takeR matrixR at hx
  obtain ⟨i, _, hx⟩ := List.mem_flatMap.mp hx
  obtain ⟨j, _, rfl⟩ := List.mem_map.mp hx
  exact dot_lt _ _
def mT (f1 f2 f3 : F P) (S1 S2 S3 t1 t2 t3 : V P) : M P :=
  ⟨cb (f1 * t1.x) S1 (f2 * t2.x) S2 (f3 * t3.x) S3, cb (f1 * t1.y) S1 (f2 * t2.y) S2 (f3 * t3.y) S3, cb (f1 * t1.z) S1 (f2 * t2.z) S2 (f3 * t3.z) S3⟩
theorem mv_mT (f1 f2 f3 : F P) (S1 S2 S3 t1 t2 t3 u : V P) : mv (mT f1 f2 f3 S1 S2 S3 t1 t2 t3) u = cb (f1 * ip S1 u) t1 (f2 * ip S2 u) t2 (f3 * ip S3 u) t3 := by
  apply V.ext <;> (simp only [mv, mT, cb, ip]; grind)
theorem dt_three (a1 a2 a3 b1 b2 b3 c1 c2 c3 : F P) (u v w : V P) : dt (cb a1 u a2 v a3 w) (cb b1 u b2 v b3 w) (cb c1 u c2 v c3 w) = dt ⟨a1, a2, a3⟩ ⟨b1, b2, b3⟩ ⟨c1, c2, c3⟩ * dt u v w := by
  simp only [dt, ip, cr, cb]
  grind
theorem dt_tr (a b c : V P) (f1 f2 f3 : F P) : dt (⟨f1 * a.x, f2 * b.x, f3 * c.x⟩ : V P) ⟨f1 * a.y, f2 * b.y, f3 * c.y⟩ ⟨f1 * a.z, f2 * b.z, f3 * c.z⟩ = f1 * f2 * f3 * dt a b c := by
  simp only [dt, ip, cr]
  grind
theorem dt_cr (u v w : V P) : dt (cr v w) (cr w u) (cr u v) = dt u v w * dt u v w := by
  simp only [dt, ip, cr]
  grind
theorem dt_mT (f1 f2 f3 : F P) (u1 u2 u3 t1 t2 t3 : V P) : dt (mT f1 f2 f3 (cr u2 u3) (cr u3 u1) (cr u1 u2) t1 t2 t3).a (mT f1 f2 f3 (cr u2 u3) (cr u3 u1) (cr u1 u2) t1 t2 t3).b (mT f1 f2 f3 (cr u2 u3) (cr u3 u1) (cr u1 u2) t1 t2 t3).c
    = f1 * f2 * f3 * dt t1 t2 t3 * (dt u1 u2 u3 * dt u1 u2 u3) := by
  unfold mT
  rw [dt_three, dt_tr, dt_cr]
theorem ip_cr1 (u1 u2 u3 : V P) : ip (cr u2 u3) u1 = dt u1 u2 u3 := by
  simp only [dt, ip, cr]
  grind
theorem ip_cr2 (u1 u2 u3 : V P) : ip (cr u3 u1) u2 = dt u1 u2 u3 := by
  simp only [dt, ip, cr]
  grind
theorem ip_cr3 (u1 u2 u3 : V P) : ip (cr u1 u2) u3 = dt u1 u2 u3 := by
  simp only [dt, ip, cr]
  grind
theorem ip_cr0 (u v : V P) : ip (cr u v) u = 0 := by
  simp only [ip, cr]
  grind
theorem ip_cr0' (u v : V P) : ip (cr u v) v = 0 := by
  simp only [ip, cr]
  grind
theorem entry_c (fac : Row) (goal sd : List Row) (s1 s2 s3 : Row) (hsd : sd = [s1, s2, s3]) (i j : Nat) :
    cst P (entryR P.p fac goal sd i j) = co P fac 0 * co P (rw goal 0) i * co P s1 j + co P fac 1 * co P (rw goal 1) i * co P s2 j + co P fac 2 * co P (rw goal 2) i * co P s3 j := by
  subst hsd
  unfold entryR
  rw [dot_c]
  simp only [ip, vec, co, heightsR, List.map_cons, List.map_nil, List.range_succ, List.range_zero, List.nil_append, List.cons_append, at_, List.getD_cons_zero, List.getD_cons_succ, cst_mul]
theorem takeR_mat (start goal : List Row) : mat P (takeR P.p start goal) = mT (co P (factorsR P.p (sharesR P.p start) (sharesR P.p goal)) 0) (co P (factorsR P.p (sharesR P.p start) (sharesR P.p goal)) 1) (co P (factorsR P.p (sharesR P.p start) (sharesR P.p goal)) 2)
    (cr (vec P (rw start 1)) (vec P (rw start 2))) (cr (vec P (rw start 2)) (vec P (rw start 0))) (cr (vec P (rw start 0)) (vec P (rw start 1))) (vec P (rw goal 0)) (vec P (rw goal 1)) (vec P (rw goal 2)) := by
  rw [← cross_c, ← cross_c, ← cross_c]
  unfold takeR
  generalize factorsR P.p (sharesR P.p start) (sharesR P.p goal) = fac
  have e : ∀ i j, cst P (entryR P.p fac goal (sidesR P.p start) i j) = _ := entry_c fac goal (sidesR P.p start) _ _ _ rfl
  unfold mat mT
  congr 1
  · apply V.ext
    · exact (e 0 0)
    · exact (e 0 1)
    · exact (e 0 2)
  · apply V.ext
    · exact (e 1 0)
    · exact (e 1 1)
    · exact (e 1 2)
  · apply V.ext
    · exact (e 2 0)
    · exact (e 2 1)
    · exact (e 2 2)
theorem share_c (rs : List Row) : co P (sharesR P.p rs) 0 = ip (cr (vec P (rw rs 1)) (vec P (rw rs 2))) (vec P (rw rs 3)) ∧ co P (sharesR P.p rs) 1 = ip (cr (vec P (rw rs 2)) (vec P (rw rs 0))) (vec P (rw rs 3)) ∧ co P (sharesR P.p rs) 2 = ip (cr (vec P (rw rs 0)) (vec P (rw rs 1))) (vec P (rw rs 3)) := by
  refine ⟨?_, ?_, ?_⟩
  · rw [← cross_c, ← dot_c]; rfl
  · rw [← cross_c, ← dot_c]; rfl
  · rw [← cross_c, ← dot_c]; rfl
theorem shares_lt (rs : List Row) (k : Nat) : at_ (sharesR P.p rs) k < P.p := by
  have hp := two_le P
  match k with
  | 0 => exact dot_lt _ _
  | 1 => exact dot_lt _ _
  | 2 => exact dot_lt _ _
  | k + 3 => show 0 < P.p; omega
theorem factor_c (fs gs : Row) (k : Nat) (hk : k < 3) (h : at_ fs k < P.p) : co P (factorsR P.p fs gs) k = co P gs k * (co P fs k)⁻¹ := by
  have e : at_ (factorsR P.p fs gs) k = at_ gs k * inverse P.p (at_ fs k) % P.p := by
    match k, hk with
    | 0, _ => rfl
    | 1, _ => rfl
    | 2, _ => rfl
  unfold co
  rw [e, cst_mod, cst_mul, cst_inv, Nat.mod_eq_of_lt h]
structure IsPt (p : Nat) (v : Row) : Prop where
  len : v.length = 3
  sm : small p v
  nf : nf p v = true
theorem cb_one (a : F P) (u v w : V P) : cb a u 0 v 0 w = sc a u := by
  apply V.ext <;> (simp only [cb, sc]; grind)
theorem cb_two (a : F P) (u v w : V P) : cb 0 u a v 0 w = sc a v := by
  apply V.ext <;> (simp only [cb, sc]; grind)
theorem cb_thr (a : F P) (u v w : V P) : cb 0 u 0 v a w = sc a w := by
  apply V.ext <;> (simp only [cb, sc]; grind)
theorem mul_ne {a b : F P} (ha : a ≠ 0) (hb : b ≠ 0) : a * b ≠ 0 := fun h => hb (mul_eq_zero_c h ha)
theorem mul_zero_c (a : F P) : a * 0 = 0 := by grind
theorem sc_mat {m M' : Row} {c : F P} (h : ∀ i, co P m i = c * co P M' i) (hl : m.length = 9) (hl' : M'.length = 9) : (mat P m).a = sc c (mat P M').a ∧ (mat P m).b = sc c (mat P M').b ∧ (mat P m).c = sc c (mat P M').c := by
  match m, hl, M', hl' with
  | [x0, x1, x2, x3, x4, x5, x6, x7, x8], _, [y0, y1, y2, y3, y4, y5, y6, y7, y8], _ =>
    refine ⟨?_, ?_, ?_⟩
    · apply V.ext
      · exact h 0
      · exact h 1
      · exact h 2
    · apply V.ext
      · exact h 3
      · exact h 4
      · exact h 5
    · apply V.ext
      · exact h 6
      · exact h 7
      · exact h 8
theorem mv_scM {m m' : M P} {c : F P} (ha : m.a = sc c m'.a) (hb : m.b = sc c m'.b) (hc : m.c = sc c m'.c) (u : V P) : mv m u = sc c (mv m' u) := by
  apply V.ext <;> (simp only [mv, ha, hb, hc, sc, ip]; grind)
theorem neg_ne {a : F P} (h : a ≠ 0) : - a ≠ 0 := by
  intro e
  apply h
  grind
theorem dt_ne12 {u v w : V P} (h : dt u v w ≠ 0) : dt v u w ≠ 0 := by
  rw [dt_swap12]
  exact neg_ne h
theorem taken_find {a b c d s t u v : Row} (hf : arc P.p [a, b, c, d] = true) (ht : arc P.p [s, t, u, v] = true) (ps : IsPt P.p s) (pt : IsPt P.p t) (pu : IsPt P.p u) (pv : IsPt P.p v) :
    ∃ m, normal P.p (takeR P.p [a, b, c, d] [s, t, u, v]) = some m ∧ (rows P.p 9).find? (fun m => takes P.p m [a, b, c, d] [s, t, u, v]) = some m := by
  obtain ⟨f1, f2, f3, f4⟩ := arc4 hf
  obtain ⟨g1, g2, g3, g4⟩ := arc4 ht
  rw [Ne, det_zero] at f1 f2 f3 f4 g1 g2 g3 g4
  have hM := takeR_mat (P := P) [a, b, c, d] [s, t, u, v]
  obtain ⟨s0, s1, s2⟩ := share_c (P := P) [a, b, c, d]
  obtain ⟨z0, z1, z2⟩ := share_c (P := P) [s, t, u, v]
  simp only [rw, List.getD_cons_zero, List.getD_cons_succ] at hM s0 s1 s2 z0 z1 z2
  rw [factor_c _ _ 0 (by decide) (shares_lt _ 0), factor_c _ _ 1 (by decide) (shares_lt _ 1), factor_c _ _ 2 (by decide) (shares_lt _ 2), s0, s1, s2, z0, z1, z2] at hM
  have n0 : ip (cr (vec P b) (vec P c)) (vec P d) ≠ 0 := by rw [ip_cr3]; exact f4
  have n1 : ip (cr (vec P c) (vec P a)) (vec P d) ≠ 0 := by rw [ip_cr3]; exact dt_ne12 f3
  have n2 : ip (cr (vec P a) (vec P b)) (vec P d) ≠ 0 := by rw [ip_cr3]; exact f2
  have m0 : ip (cr (vec P t) (vec P u)) (vec P v) ≠ 0 := by rw [ip_cr3]; exact g4
  have m1 : ip (cr (vec P u) (vec P s)) (vec P v) ≠ 0 := by rw [ip_cr3]; exact dt_ne12 g3
  have m2 : ip (cr (vec P s) (vec P t)) (vec P v) ≠ 0 := by rw [ip_cr3]; exact g2
  have k0 := mul_ne m0 (inv_ne n0)
  have k1 := mul_ne m1 (inv_ne n1)
  have k2 := mul_ne m2 (inv_ne n2)
  have i0 := mul_inv_c n0
  have i1 := mul_inv_c n1
  have i2 := mul_inv_c n2
  have c0 : ip (cr (vec P t) (vec P u)) (vec P v) * (ip (cr (vec P b) (vec P c)) (vec P d))⁻¹ * ip (cr (vec P b) (vec P c)) (vec P d) = dt (vec P v) (vec P t) (vec P u) := by
    rw [← ip_cr1]
    generalize ip (cr (vec P b) (vec P c)) (vec P d) = y at *
    generalize ip (cr (vec P t) (vec P u)) (vec P v) = x at *
    grind
  have c1 : ip (cr (vec P u) (vec P s)) (vec P v) * (ip (cr (vec P c) (vec P a)) (vec P d))⁻¹ * ip (cr (vec P c) (vec P a)) (vec P d) = dt (vec P s) (vec P v) (vec P u) := by
    rw [← ip_cr2]
    generalize ip (cr (vec P c) (vec P a)) (vec P d) = y at *
    generalize ip (cr (vec P u) (vec P s)) (vec P v) = x at *
    grind
  have c2 : ip (cr (vec P s) (vec P t)) (vec P v) * (ip (cr (vec P a) (vec P b)) (vec P d))⁻¹ * ip (cr (vec P a) (vec P b)) (vec P d) = dt (vec P s) (vec P t) (vec P v) := by
    rw [← ip_cr3]
    generalize ip (cr (vec P a) (vec P b)) (vec P d) = y at *
    generalize ip (cr (vec P s) (vec P t)) (vec P v) = x at *
    grind
  have hD := dt_mT (ip (cr (vec P t) (vec P u)) (vec P v) * (ip (cr (vec P b) (vec P c)) (vec P d))⁻¹) (ip (cr (vec P u) (vec P s)) (vec P v) * (ip (cr (vec P c) (vec P a)) (vec P d))⁻¹) (ip (cr (vec P s) (vec P t)) (vec P v) * (ip (cr (vec P a) (vec P b)) (vec P d))⁻¹) (vec P a) (vec P b) (vec P c) (vec P s) (vec P t) (vec P u)
  have va : mv (mat P (takeR P.p [a, b, c, d] [s, t, u, v])) (vec P a) = sc (ip (cr (vec P t) (vec P u)) (vec P v) * (ip (cr (vec P b) (vec P c)) (vec P d))⁻¹ * dt (vec P a) (vec P b) (vec P c)) (vec P s) := by
    rw [hM, mv_mT, ip_cr1 (vec P a) (vec P b) (vec P c), ip_cr0' (vec P c) (vec P a), ip_cr0 (vec P a) (vec P b), mul_zero_c, mul_zero_c, cb_one]
  have vb : mv (mat P (takeR P.p [a, b, c, d] [s, t, u, v])) (vec P b) = sc (ip (cr (vec P u) (vec P s)) (vec P v) * (ip (cr (vec P c) (vec P a)) (vec P d))⁻¹ * dt (vec P a) (vec P b) (vec P c)) (vec P t) := by
    rw [hM, mv_mT, ip_cr2 (vec P a) (vec P b) (vec P c), ip_cr0' (vec P a) (vec P b), ip_cr0 (vec P b) (vec P c), mul_zero_c, mul_zero_c, cb_two]
  have vc : mv (mat P (takeR P.p [a, b, c, d] [s, t, u, v])) (vec P c) = sc (ip (cr (vec P s) (vec P t)) (vec P v) * (ip (cr (vec P a) (vec P b)) (vec P d))⁻¹ * dt (vec P a) (vec P b) (vec P c)) (vec P u) := by
    rw [hM, mv_mT, ip_cr3 (vec P a) (vec P b) (vec P c), ip_cr0' (vec P b) (vec P c), ip_cr0 (vec P c) (vec P a), mul_zero_c, mul_zero_c, cb_thr]
  have vd : mv (mat P (takeR P.p [a, b, c, d] [s, t, u, v])) (vec P d) = sc (dt (vec P s) (vec P t) (vec P u)) (vec P v) := by
    rw [hM, mv_mT, c0, c1, c2, ← cramer]
  have hdet : dt (mat P (takeR P.p [a, b, c, d] [s, t, u, v])).a (mat P (takeR P.p [a, b, c, d] [s, t, u, v])).b (mat P (takeR P.p [a, b, c, d] [s, t, u, v])).c ≠ 0 := by
    rw [hM, hD]
    exact mul_ne (mul_ne (mul_ne (mul_ne k0 k1) k2) g1) (mul_ne f1 f1)
  have q0 := mul_ne k0 f1
  have q1 := mul_ne k1 f1
  have q2 := mul_ne k2 f1
  clear hM hD c0 c1 c2 i0 i1 i2 n0 n1 n2 m0 m1 m2 s0 s1 s2 z0 z1 z2
  generalize hX : takeR P.p [a, b, c, d] [s, t, u, v] = X at *
  have lX : X.length = 9 := by rw [← hX]; rfl
  cases e : normal P.p X with
  | none =>
    have hz := normal_none.mp e
    exfalso
    apply hdet
    match X, lX with
    | [x0, x1, x2, x3, x4, x5, x6, x7, x8], _ =>
      have e0 : cst P x0 = 0 := hz 0
      have e1 : cst P x1 = 0 := hz 1
      have e2 : cst P x2 = 0 := hz 2
      show ip (⟨cst P x0, cst P x1, cst P x2⟩ : V P) _ = 0
      rw [e0, e1, e2]
      simp only [ip]
      grind
  | some m =>
    refine ⟨m, rfl, ?_⟩
    obtain ⟨sm, lm⟩ := normal_small e
    rw [lX] at lm
    obtain ⟨k, hk, hc⟩ := normal_co e
    obtain ⟨ra, rb, rc⟩ := sc_mat hc lm lX
    have mem : m ∈ rows P.p 9 := (rows_small 9 m).mpr ⟨lm, sm⟩
    have tk : takes P.p m [a, b, c, d] [s, t, u, v] = true := by
      have nm : (normal P.p m == some m) = true := normal_nf e
      have dm : (detOf P.p m != 0) = true := by
        have : detOf P.p m ≠ 0 := by
          unfold detOf
          rw [Ne, det_zero]
          show ¬ dt (mat P m).a (mat P m).b (mat P m).c = 0
          rw [ra, rb, rc, dt_sc1, dt_sc2, dt_sc3]
          exact mul_ne hk (mul_ne hk (mul_ne hk hdet))
        simpa using this
      have ea : moved P.p m a = some s := moved_is ps.sm ps.len ps.nf (mul_ne hk q0) (by rw [mv_scM ra rb rc, va, sc_sc])
      have eb : moved P.p m b = some t := moved_is pt.sm pt.len pt.nf (mul_ne hk q1) (by rw [mv_scM ra rb rc, vb, sc_sc])
      have ec : moved P.p m c = some u := moved_is pu.sm pu.len pu.nf (mul_ne hk q2) (by rw [mv_scM ra rb rc, vc, sc_sc])
      have ed : moved P.p m d = some v := moved_is pv.sm pv.len pv.nf (mul_ne hk g1) (by rw [mv_scM ra rb rc, vd, sc_sc])
      unfold takes
      rw [nm, dm]
      simp only [List.map_cons, List.map_nil, ea, eb, ec, ed, Bool.true_and]
      exact beq_self_eq_true _
    exact find_only mem tk (fun x hx hq => takes_unique hf ht mem hx tk hq)
end Fp

set_option maxRecDepth 100000
set_option linter.unusedVariables false
namespace Fp
open Rb32
variable {P : Pr}
/- the program's conic through five points -/
def pairR (p : Nat) (u v : Row) : Row := [at_ u 0 * at_ v 0 % p, (at_ u 0 * at_ v 1 + at_ u 1 * at_ v 0) % p, (at_ u 0 * at_ v 2 + at_ u 2 * at_ v 0) % p, at_ u 1 * at_ v 1 % p, (at_ u 1 * at_ v 2 + at_ u 2 * at_ v 1) % p, at_ u 2 * at_ v 2 % p]
def mixR (p a b : Nat) (one other : Row) : Row := (List.range 6).map fun k => sub p (b * at_ one k) (a * at_ other k)
def oneR (p : Nat) (rs : List Row) : Row := pairR p (cross p (rw rs 0) (rw rs 1)) (cross p (rw rs 2) (rw rs 3))
def otherR (p : Nat) (rs : List Row) : Row := pairR p (cross p (rw rs 0) (rw rs 2)) (cross p (rw rs 1) (rw rs 3))
def thrR (p : Nat) (rs : List Row) : Row := mixR p (value p (oneR p rs) (rw rs 4)) (value p (otherR p rs) (rw rs 4)) (oneR p rs) (otherR p rs)
theorem thrR_small (rs : List Row) : small P.p (thrR P.p rs) := by
  intro x hx
  unfold thrR mixR at hx
  obtain ⟨i, _, rfl⟩ := List.mem_map.mp hx
  exact Nat.mod_lt _ (by have := two_le P; omega)
def lp (u v : V P) : C P := ⟨u.x * v.x, u.x * v.y + u.y * v.x, u.x * v.z + u.z * v.x, u.y * v.y, u.y * v.z + u.z * v.y, u.z * v.z⟩
theorem qv_lp (u v r : V P) : qv (lp u v) r = ip u r * ip v r := by
  simp only [qv, lp, ip]
  grind
theorem pair_c (u v : Row) : con P (pairR P.p u v) = lp (vec P u) (vec P v) := by
  simp only [con, lp, pairR, co, vec, at_, List.getD_cons_zero, List.getD_cons_succ, cst_mod, cst_add, cst_mul]
def cmix (a b : F P) (c d : C P) : C P := ⟨b * c.a - a * d.a, b * c.b - a * d.b, b * c.c - a * d.c, b * c.d - a * d.d, b * c.e - a * d.e, b * c.f - a * d.f⟩
theorem qv_cmix (a b : F P) (c d : C P) (r : V P) : qv (cmix a b c d) r = b * qv c r - a * qv d r := by
  simp only [qv, cmix]
  grind
theorem mix_c (a b : Nat) (one other : Row) : con P (mixR P.p a b one other) = cmix (cst P a) (cst P b) (con P one) (con P other) := by
  have e : ∀ k, k < 6 → co P (mixR P.p a b one other) k = cst P b * co P one k - cst P a * co P other k := by
    intro k hk
    have : at_ (mixR P.p a b one other) k = sub P.p (b * at_ one k) (a * at_ other k) := by
      match k, hk with
      | 0, _ => rfl
      | 1, _ => rfl
      | 2, _ => rfl
      | 3, _ => rfl
      | 4, _ => rfl
      | 5, _ => rfl
    unfold co
    rw [this, cst_sub, cst_mul, cst_mul]
  unfold con cmix
  rw [e 0 (by decide), e 1 (by decide), e 2 (by decide), e 3 (by decide), e 4 (by decide), e 5 (by decide)]
theorem qv_zero_of {c : Row} (hl : c.length = 6) (h : ∀ i, co P c i = 0) (r : V P) : qv (con P c) r = 0 := by
  simp only [con, h, qv]
  grind
theorem con_sc {c d : Row} {k : F P} (h : ∀ i, co P c i = k * co P d i) (r : V P) : qv (con P c) r = k * qv (con P d) r := by
  simp only [con, h, qv]
  grind
def vadd (u v : V P) : V P := ⟨u.x + v.x, u.y + v.y, u.z + v.z⟩
theorem ip_add (l u v : V P) : ip l (vadd u v) = ip l u + ip l v := by
  simp only [ip, vadd]
  grind
theorem through_find {a b c d e : Row} (ha : arc P.p [a, b, c, d, e] = true) :
    ∃ k, normal P.p (thrR P.p [a, b, c, d, e]) = some k ∧ (rows P.p 6).find? (fun k => Rb32.through P.p k [a, b, c, d, e]) = some k := by
  obtain ⟨abc, abd, abe, acd, ace, ade, bcd, bce, bde, cde⟩ := arc5 ha
  rw [Ne, det_zero] at abc abd abe acd ace ade bcd bce bde cde
  have e1 : con P (oneR P.p [a, b, c, d, e]) = lp (cr (vec P a) (vec P b)) (cr (vec P c) (vec P d)) := by
    unfold oneR
    rw [pair_c, cross_c, cross_c]
    rfl
  have e2 : con P (otherR P.p [a, b, c, d, e]) = lp (cr (vec P a) (vec P c)) (cr (vec P b) (vec P d)) := by
    unfold otherR
    rw [pair_c, cross_c, cross_c]
    rfl
  have hq : ∀ r, qv (con P (thrR P.p [a, b, c, d, e])) r = (ip (cr (vec P a) (vec P c)) (vec P e) * ip (cr (vec P b) (vec P d)) (vec P e)) * (ip (cr (vec P a) (vec P b)) r * ip (cr (vec P c) (vec P d)) r)
      - (ip (cr (vec P a) (vec P b)) (vec P e) * ip (cr (vec P c) (vec P d)) (vec P e)) * (ip (cr (vec P a) (vec P c)) r * ip (cr (vec P b) (vec P d)) r) := by
    intro r
    unfold thrR
    rw [mix_c, qv_cmix, value_c, value_c, e1, e2, qv_lp, qv_lp, qv_lp, qv_lp]
    rfl
  have za : qv (con P (thrR P.p [a, b, c, d, e])) (vec P a) = 0 := by
    rw [hq, ip_cr0 (vec P a) (vec P b), ip_cr0 (vec P a) (vec P c)]
    grind
  have zb : qv (con P (thrR P.p [a, b, c, d, e])) (vec P b) = 0 := by
    rw [hq, ip_cr0' (vec P a) (vec P b), ip_cr0 (vec P b) (vec P d)]
    grind
  have zc : qv (con P (thrR P.p [a, b, c, d, e])) (vec P c) = 0 := by
    rw [hq, ip_cr0 (vec P c) (vec P d), ip_cr0' (vec P a) (vec P c)]
    grind
  have zd : qv (con P (thrR P.p [a, b, c, d, e])) (vec P d) = 0 := by
    rw [hq, ip_cr0' (vec P c) (vec P d), ip_cr0' (vec P b) (vec P d)]
    grind
  have ze : qv (con P (thrR P.p [a, b, c, d, e])) (vec P e) = 0 := by
    rw [hq]
    grind
  have nz : qv (con P (thrR P.p [a, b, c, d, e])) (vadd (vec P a) (vec P b)) ≠ 0 := by
    have h1 : ip (cr (vec P a) (vec P b)) (vadd (vec P a) (vec P b)) = 0 := by
      rw [ip_add, ip_cr0, ip_cr0']
      grind
    have h2 : ip (cr (vec P a) (vec P c)) (vadd (vec P a) (vec P b)) = dt (vec P a) (vec P c) (vec P b) := by
      rw [ip_add, ip_cr0, ip_cr3]
      grind
    have h3 : ip (cr (vec P b) (vec P d)) (vadd (vec P a) (vec P b)) = dt (vec P b) (vec P d) (vec P a) := by
      rw [ip_add, ip_cr0, ip_cr3]
      grind
    have n2 : dt (vec P a) (vec P c) (vec P b) ≠ 0 := by
      rw [dt_swap23]
      exact neg_ne abc
    have n3 : dt (vec P b) (vec P d) (vec P a) ≠ 0 := by
      rw [← dt_rot]
      exact abd
    rw [hq, h1, h2, h3, ip_cr3 (vec P a) (vec P b) (vec P e), ip_cr3 (vec P c) (vec P d) (vec P e)]
    have := mul_ne (mul_ne abe cde) (mul_ne n2 n3)
    generalize dt (vec P a) (vec P b) (vec P e) * dt (vec P c) (vec P d) (vec P e) * (dt (vec P a) (vec P c) (vec P b) * dt (vec P b) (vec P d) (vec P a)) = y at *
    grind
  generalize hX : thrR P.p [a, b, c, d, e] = X at *
  have lX : X.length = 6 := by rw [← hX]; rfl
  cases en : normal P.p X with
  | none => exact absurd (qv_zero_of lX (normal_none.mp en) _) nz
  | some k =>
    refine ⟨k, rfl, ?_⟩
    obtain ⟨sm, lm⟩ := normal_small en
    rw [lX] at lm
    obtain ⟨f, hf, hc⟩ := normal_co en
    have mem : k ∈ rows P.p 6 := (rows_small 6 k).mpr ⟨lm, sm⟩
    have tk : Rb32.through P.p k [a, b, c, d, e] = true := by
      have nm : (normal P.p k == some k) = true := normal_nf en
      have v : ∀ r, qv (con P X) (vec P r) = 0 → (value P.p k r == 0) = true := by
        intro r hr
        have : value P.p k r = 0 := by
          rw [value_zero, con_sc hc, hr]
          grind
        simpa using this
      unfold Rb32.through
      rw [nm]
      simp only [List.all_cons, List.all_nil, v a za, v b zb, v c zc, v d zd, v e ze, Bool.true_and]
    exact find_only mem tk (fun x hx hq => through_unique ha mem hx tk hq)
end Fp

set_option maxRecDepth 100000
set_option linter.unusedVariables false
namespace Fp
open Rb32
/- whole numbers of the program, and the specification's natural ones -/
theorem sub_int {p a b : Nat} (hp : 0 < p) : ((a : Int) - (b : Int)) % (p : Int) = ((sub p a b : Nat) : Int) := by
  unfold sub
  have hb := Nat.mod_lt b hp
  have e1 := Nat.div_add_mod a p
  have e2 := Nat.div_add_mod b p
  have e : (a : Int) - b = ((a % p + (p - b % p) : Nat) : Int) + (p : Int) * ((a / p : Nat) - (b / p : Nat) - 1 : Int) := by
    have h1 : (a : Int) = (p : Int) * ((a / p : Nat) : Int) + ((a % p : Nat) : Int) := by
      rw [← Int.natCast_mul, ← Int.natCast_add, e1]
    have h2 : (b : Int) = (p : Int) * ((b / p : Nat) : Int) + ((b % p : Nat) : Int) := by
      rw [← Int.natCast_mul, ← Int.natCast_add, e2]
    have h3 : ((a % p + (p - b % p) : Nat) : Int) = ((a % p : Nat) : Int) + ((p : Int) - ((b % p : Nat) : Int)) := by omega
    rw [h3, Int.mul_sub, Int.mul_sub, Int.mul_one]
    omega
  rw [e, Int.add_mul_emod_self_left]
  exact (Int.natCast_emod _ _).symm
def pwN (p a : Nat) : Nat → Nat
  | 0 => 1
  | n + 1 => pwN p a n * a % p
theorem pwN_mod (p a : Nat) : ∀ n, pwN p a n = pwN p (a % p) n
  | 0 => rfl
  | n + 1 => by
    rw [pwN, pwN, pwN_mod p a n, Nat.mul_mod _ (a % p), Nat.mod_mod, ← Nat.mul_mod]
theorem pw_tab : ∀ p ∈ primes, ∀ a ∈ List.range p, a ≠ 0 → pwN p a (p - 2) = inverse p a := by decide +kernel
theorem pw_inv {p a : Nat} (h : p ∈ primes) (ha : a % p ≠ 0) : pwN p a (p - 2) = inverse p (a % p) := by
  rw [pwN_mod]
  exact pw_tab p h _ (List.mem_range.mpr (Nat.mod_lt _ (by have := (primes_ge h).1; omega))) ha
theorem pwN_lt {p a : Nat} (hp : 2 ≤ p) : ∀ n, pwN p a n < p
  | 0 => by show 1 < p; omega
  | n + 1 => Nat.mod_lt _ (by omega)
def fz : List Nat → Nat
  | [] => 0
  | a :: r => if a = 0 then fz r else a
theorem fz_mem : ∀ {v : List Nat}, fz v ≠ 0 → fz v ∈ v
  | [], h => absurd rfl h
  | a :: r, h => by
    unfold fz at h ⊢
    by_cases ha : a = 0
    · rw [if_pos ha] at h ⊢
      exact List.mem_cons_of_mem _ (fz_mem h)
    · rw [if_neg ha] at h ⊢
      exact List.mem_cons_self
theorem fz_find {p : Nat} : ∀ {v : List Nat}, small p v → v.find? (fun x => x % p != 0) = if fz v = 0 then none else some (fz v)
  | [], _ => rfl
  | a :: r, h => by
    have ha : a % p = a := Nat.mod_eq_of_lt (h a List.mem_cons_self)
    rw [List.find?_cons, ha, fz]
    by_cases h0 : a = 0
    · subst h0
      simp only [bne_self_eq_false, if_true]
      exact fz_find (fun x hx => h x (List.mem_cons_of_mem _ hx))
    · have hb : (a != 0) = true := by simpa using h0
      rw [hb, if_neg h0, if_neg h0]
theorem normal_fz {p : Nat} {v : Row} (h : small p v) : normal p v = if fz v = 0 then none else some (v.map fun x => x * inverse p (fz v) % p) := by
  unfold normal
  rw [fz_find h]
  by_cases h0 : fz v = 0
  · rw [if_pos h0, if_pos h0]
    rfl
  · rw [if_neg h0, if_neg h0]
    show some (v.map fun x => x % p * inverse p (fz v % p) % p) = _
    congr 1
    rw [Nat.mod_eq_of_lt (h _ (fz_mem h0))]
    apply List.map_congr_left
    intro x hx
    rw [Nat.mod_eq_of_lt (h x hx)]
theorem fz_split : ∀ {pre post : List Nat} {a : Nat}, (∀ x ∈ pre, x = 0) → a ≠ 0 → fz (pre ++ a :: post) = a
  | [], post, a, _, ha => by simp [fz, ha]
  | x :: pre, post, a, h, ha => by
    have hx : x = 0 := h x List.mem_cons_self
    simp only [List.cons_append, fz, hx, if_true]
    exact fz_split (fun y hy => h y (List.mem_cons_of_mem _ hy)) ha
theorem fz_zero : ∀ {v : List Nat}, (∀ x ∈ v, x = 0) → fz v = 0
  | [], _ => rfl
  | x :: r, h => by
    have hx : x = 0 := h x List.mem_cons_self
    simp only [fz, hx, if_true]
    exact fz_zero (fun y hy => h y (List.mem_cons_of_mem _ hy))
/- rows of three -/
theorem threes_len : ∀ (k : Nat) (l : List Nat), (Rb32Neutral.threes k l).length = k
  | 0, _ => rfl
  | k + 1, l => by rw [Rb32Neutral.threes, List.length_cons, threes_len k]
theorem threes_get : ∀ (k : Nat) (l : List Nat) (i : Nat), i < k → (Rb32Neutral.threes k l)[i]? = some ((l.drop (3 * i)).take 3)
  | 0, _, i, h => by omega
  | k + 1, l, 0, _ => rfl
  | k + 1, l, i + 1, h => by
    rw [Rb32Neutral.threes, List.getElem?_cons_succ, threes_get k _ i (by omega), List.drop_drop]
    congr 3
    omega
/- what is handed in -/
theorem nats_cast {p : Int} {l : List Int} (h : ∀ x ∈ l, 0 ≤ x ∧ x < p) : l = (Rb32Neutral.nats l).map (fun (x : Nat) => (x : Int)) := by
  unfold Rb32Neutral.nats
  rw [List.map_map]
  conv => lhs; rw [← List.map_id l]
  apply List.map_congr_left
  intro x hx
  have := h x hx
  show x = ((x.toNat : Nat) : Int)
  omega
theorem row_ok {n k : Nat} {l : List Int} (h : Rb32Neutral.isRow (n : Int) k l = true) : l = (Rb32Neutral.nats l).map (fun (x : Nat) => (x : Int)) ∧ small n (Rb32Neutral.nats l) ∧ (Rb32Neutral.nats l).length = k := by
  obtain ⟨h1, h2⟩ := Bool.and_eq_true_iff.mp h
  have hall : ∀ x ∈ l, 0 ≤ x ∧ x < (n : Int) := by
    intro x hx
    have := List.all_eq_true.mp h1 x hx
    simpa using this
  refine ⟨nats_cast hall, ?_, ?_⟩
  · intro x hx
    obtain ⟨y, hy, rfl⟩ := List.mem_map.mp hx
    have := hall y hy
    omega
  · unfold Rb32Neutral.nats
    rw [List.length_map]
    simpa using h2
theorem point_ok {n : Nat} (hn : n ∈ primes) {l : List Int} (h : Rb32Neutral.isPoint (n : Int) l = true) : l.length = 3 ∧ (∀ x ∈ l, 0 ≤ x ∧ x < (n : Int)) ∧ IsPt n (Rb32Neutral.nats l) := by
  match l, h with
  | [x, y, z], h =>
    unfold Rb32Neutral.isPoint at h
    obtain ⟨h1, h2⟩ := Bool.and_eq_true_iff.mp h
    obtain ⟨_, sm, ln⟩ := row_ok h1
    have hall : ∀ w ∈ [x, y, z], 0 ≤ w ∧ w < (n : Int) := by
      intro w hw
      have := List.all_eq_true.mp (Bool.and_eq_true_iff.mp h1).1 w hw
      simpa using this
    have hx := hall x (by simp)
    have hy := hall y (by simp)
    have hz := hall z (by simp)
    have h2' : x = 1 ∨ (x = 0 ∧ (y = 1 ∨ (y = 0 ∧ z = 1))) := by simpa using h2
    refine ⟨rfl, hall, ln, sm, ?_⟩
    obtain ⟨x, rfl⟩ : ∃ k : Nat, x = (k : Int) := ⟨x.toNat, by omega⟩
    obtain ⟨y, rfl⟩ : ∃ k : Nat, y = (k : Int) := ⟨y.toNat, by omega⟩
    obtain ⟨z, rfl⟩ : ∃ k : Nat, z = (k : Int) := ⟨z.toNat, by omega⟩
    have hp := (primes_ge hn).1
    show nf n [x, y, z] = true
    rcases h2' with h | ⟨h, h | ⟨h', h''⟩⟩
    · have e : x = 1 := by omega
      subst e
      exact nf_one hn (fun w hw => by
        rcases List.mem_cons.mp hw with rfl | hw
        · omega
        · rcases List.mem_cons.mp hw with rfl | hw
          · omega
          · cases hw)
    · have e : x = 0 := by omega
      have e' : y = 1 := by omega
      subst e e'
      rw [nf_zero (by omega)]
      exact nf_one hn (fun w hw => by
        rcases List.mem_cons.mp hw with rfl | hw
        · omega
        · cases hw)
    · have e : x = 0 := by omega
      have e' : y = 0 := by omega
      have e'' : z = 1 := by omega
      subst e e' e''
      rw [nf_zero (by omega), nf_zero (by omega)]
      exact nf_one hn (fun w hw => by cases hw)
theorem points_ok {n : Nat} (hn : n ∈ primes) : ∀ (k : Nat) {l : List Int}, Rb32Neutral.arePoints (n : Int) k l = true → l.length = 3 * k ∧ (∀ x ∈ l, 0 ≤ x ∧ x < (n : Int)) ∧ ∀ r ∈ Rb32Neutral.threes k (Rb32Neutral.nats l), IsPt n r
  | 0, l, h => by
    have : l = [] := by simpa [Rb32Neutral.arePoints] using h
    subst this
    exact ⟨rfl, fun x hx => (by cases hx), fun r hr => (by cases hr)⟩
  | k + 1, l, h => by
    unfold Rb32Neutral.arePoints at h
    obtain ⟨h1, h2⟩ := Bool.and_eq_true_iff.mp h
    obtain ⟨a1, a2, a3⟩ := point_ok hn h1
    obtain ⟨b1, b2, b3⟩ := points_ok hn k h2
    have el : l = l.take 3 ++ l.drop 3 := (List.take_append_drop 3 l).symm
    refine ⟨?_, ?_, ?_⟩
    · rw [el, List.length_append, a1, b1]
      omega
    · intro x hx
      rw [el] at hx
      rcases List.mem_append.mp hx with hx | hx
      · exact a2 x hx
      · exact b2 x hx
    · intro r hr
      rw [Rb32Neutral.threes] at hr
      have e1 : (Rb32Neutral.nats l).take 3 = Rb32Neutral.nats (l.take 3) := by simp [Rb32Neutral.nats, List.map_take]
      have e2 : (Rb32Neutral.nats l).drop 3 = Rb32Neutral.nats (l.drop 3) := by simp [Rb32Neutral.nats, List.map_drop]
      rcases List.mem_cons.mp hr with rfl | hr
      · rw [e1]
        exact a3
      · rw [e2] at hr
        exact b3 r hr
theorem points_isPt {n : Nat} (hn : n ∈ primes) {v : Row} (h : v ∈ points n) : IsPt n v := by
  unfold points at h
  obtain ⟨h1, h2⟩ := List.mem_filter.mp h
  obtain ⟨h3, h4⟩ := (rows_small 3 v).mp h1
  exact ⟨h3, h4, h2⟩
theorem points_length {n : Nat} (hn : n ∈ primes) : (points n).length = n * n + n + 1 := by
  rw [points_eq hn]
  simp
  omega
/- numbers of points -/
theorem cross_small {p : Nat} (hp : 0 < p) (u v : Row) : small p (cross p u v) := by
  intro x hx
  unfold cross at hx
  simp only [List.mem_cons, List.not_mem_nil, or_false] at hx
  rcases hx with rfl | rfl | rfl <;> exact Nat.mod_lt _ hp
theorem cross_len (p : Nat) (u v : Row) : (cross p u v).length = 3 := rfl
/- different points have a line -/
theorem pt_ne_cross {P : Pr} {a b : Row} (ha : IsPt P.p a) (hb : IsPt P.p b) (h : a ≠ b) : off P.p (cross P.p a b) ≠ none := by
  intro hn
  have hz : ∀ i, i < 3 → at_ (cross P.p a b) i % P.p = 0 := by
    unfold off at hn
    by_cases h2 : at_ (cross P.p a b) 2 % P.p = 0
    · by_cases h1 : at_ (cross P.p a b) 1 % P.p = 0
      · by_cases h0 : at_ (cross P.p a b) 0 % P.p = 0
        · intro i hi
          match i, hi with
          | 0, _ => exact h0
          | 1, _ => exact h1
          | 2, _ => exact h2
        · rw [if_neg (by simp [h2]), if_neg (by simp [h1]), if_pos h0] at hn
          cases hn
      · rw [if_neg (by simp [h2]), if_pos h1] at hn
        cases hn
    · rw [if_pos h2] at hn
      cases hn
  have ec := cross_c (P := P) a b
  have x0 : (cr (vec P a) (vec P b)).x = 0 := by rw [← ec]; exact cst_eq_zero.mpr (hz 0 (by decide))
  have y0 : (cr (vec P a) (vec P b)).y = 0 := by rw [← ec]; exact cst_eq_zero.mpr (hz 1 (by decide))
  have z0 : (cr (vec P a) (vec P b)).z = 0 := by rw [← ec]; exact cst_eq_zero.mpr (hz 2 (by decide))
  obtain ⟨i, hi⟩ := nf_ne hb.nf
  have hi3 : i < 3 := Nat.lt_of_not_le fun h => hi (co3 hb.len i h)
  apply h
  simp only [cr, vec] at x0 y0 z0
  refine nf_unique ha.sm hb.sm (by rw [ha.len, hb.len]) ha.nf hb.nf (c := co P a i * (co P b i)⁻¹) ?_
  have hin := mul_inv_c hi
  intro j
  by_cases hj : j < 3
  · match i, hi3, j, hj with
    | 0, _, 0, _ => grind
    | 0, _, 1, _ => grind
    | 0, _, 2, _ => grind
    | 1, _, 0, _ => grind
    | 1, _, 1, _ => grind
    | 1, _, 2, _ => grind
    | 2, _, 0, _ => grind
    | 2, _, 1, _ => grind
    | 2, _, 2, _ => grind
  · rw [co3 ha.len j (by omega), co3 hb.len j (by omega)]
    grind
/- a multiple of a point that is a point is the point -/
theorem pt_same {P : Pr} {a c : Row} (ha : IsPt P.p a) (hc : IsPt P.p c) {k : F P} (h : vec P c = sc k (vec P a)) : c = a :=
  nf_unique hc.sm ha.sm (by rw [hc.len, ha.len]) hc.nf ha.nf (vec_co hc.len ha.len h)
theorem below_ne {P : Pr} {o a b c : Row} (ha : IsPt P.p a) (hc : IsPt P.p c) (h : det P.p a b c = 0) (ho : det P.p o a b ≠ 0) (hne : c ≠ a) : det P.p o a c ≠ 0 := by
  intro hz
  rw [Ne, det_zero] at ho
  rw [det_zero] at hz h
  obtain ⟨k, hk⟩ := off_ne _ h ho hz
  exact hne (pt_same ha hc hk)
theorem below_ne2 {P : Pr} {o a b c : Row} (hb : IsPt P.p b) (hc : IsPt P.p c) (h : det P.p a b c = 0) (ho : det P.p o a b ≠ 0) (hne : c ≠ b) : det P.p o b c ≠ 0 := by
  intro hz
  rw [Ne, det_zero] at ho
  rw [det_zero] at hz h
  obtain ⟨k, hk⟩ := off_ne2 _ h ho hz
  exact hne (pt_same hb hc hk)
theorem prod_ne {P : Pr} {a b : Nat} (ha : a < P.p) (hb : b < P.p) (h1 : a ≠ 0) (h2 : b ≠ 0) : a * b % P.p ≠ 0 := by
  intro h
  have : cst P (a * b) = 0 := cst_eq_zero.mpr h
  rw [cst_mul] at this
  have n1 : cst P a ≠ 0 := fun e => h1 ((cst_lt_zero ha).mp e)
  exact h2 ((cst_lt_zero hb).mp (mul_eq_zero_c this n1))
theorem det_rot {P : Pr} (a b c : Row) : det P.p a b c = 0 ↔ dot P.p c (cross P.p a b) = 0 := by
  rw [det_zero, dot_zero, cross_c]
  show _ ↔ dt (vec P c) (vec P a) (vec P b) = 0
  rw [dt_rot (vec P c)]
end Fp

set_option maxRecDepth 100000
namespace L2
open PySem PySem.Spec PyProof.Rows

/-! ### rows of natural numbers, rows of rows -/
def vi (u : List Nat) : List V := u.map fun (x : Nat) => V.int (x : Int)
theorem vi_len (u : List Nat) : (vi u).length = u.length := List.length_map ..
def RowAt (K : PySem.W.Frag) (H : Hp) (a : Addr) (u : List Nat) : Prop := SqL K H a (vi u)
theorem RowAt.mono {K : PySem.W.Frag} {H H' : Hp} {a : Addr} {u : List Nat} (r : RowAt K H a u) (e : Same H H') : RowAt K H' a u := e.seq r
theorem RowAt.of {K : PySem.W.Frag} {H : Hp} {a : Addr} {u : List Nat} (h : H a = some (.lst (vi u))) : RowAt K H a u := SqL.of h
theorem at_vi {u : List Nat} {j : Nat} (h : j < u.length) : atI (vi u) (j : Int) = some (V.int ((Rb32.at_ u j : Nat) : Int)) := by
  refine atI_nat ?_
  unfold vi Rb32.at_
  rw [List.getElem?_map, List.getElem?_eq_getElem h, List.getD_eq_getElem?_getD, List.getElem?_eq_getElem h]
  rfl
theorem vi_get {u : List Nat} {i : Nat} {y : V} (h : (vi u)[i]? = some y) : ∃ n, u[i]? = some n ∧ y = V.int (n : Int) := by
  unfold vi at h
  rw [List.getElem?_map] at h
  cases e : u[i]? with
  | none =>
    rw [e] at h
    cases h
  | some n =>
    rw [e] at h
    exact ⟨n, rfl, (Option.some.inj h).symm⟩
def RowsAt (K : PySem.W.Frag) (H : Hp) (a : Addr) (rs : List (List Nat)) : Prop := ∃ as : List Addr, SqL K H a (as.map V.ref) ∧ Paired (RowAt K H) as rs
theorem Paired.getP {α β : Type} {F : α → β → Prop} : ∀ {l₁ : List α} {l₂ : List β} {i : Nat} {a : α}, Paired F l₁ l₂ → l₁[i]? = some a → ∃ b, l₂[i]? = some b ∧ F a b
  | _, _, _, _, .nil, e => by simp at e
  | _, _, 0, _, .cons r _, e => by simp at e; subst e; exact ⟨_, rfl, r⟩
  | _, _, i + 1, a, .cons _ t, e => by
    obtain ⟨u, h1, h2⟩ := Paired.getP (i := i) (a := a) t (by simpa using e)
    exact ⟨u, by simpa using h1, h2⟩
theorem RowsAt.mono {K : PySem.W.Frag} {H H' : Hp} {a : Addr} {rs : List (List Nat)} (r : RowsAt K H a rs) (e : Same H H') : RowsAt K H' a rs := by
  obtain ⟨as, h1, h2⟩ := r
  exact ⟨as, e.seq h1, Paired.mapP h2 fun _ _ q => RowAt.mono q e⟩
theorem Paired.appP {α β : Type} {F : α → β → Prop} : ∀ {l₁ m₁ : List α} {l₂ m₂ : List β}, Paired F l₁ l₂ → Paired F m₁ m₂ → Paired F (l₁ ++ m₁) (l₂ ++ m₂)
  | _, _, _, _, .nil, s => s
  | _, _, _, _, .cons r t, s => .cons r (Paired.appP t s)
theorem Paired.takeP {α β : Type} {F : α → β → Prop} : ∀ {l₁ : List α} {l₂ : List β} (n : Nat), Paired F l₁ l₂ → Paired F (l₁.take n) (l₂.take n)
  | _, _, 0, _ => .nil
  | _, _, _ + 1, .nil => .nil
  | _, _, n + 1, .cons r t => .cons r (Paired.takeP n t)
theorem Same.upd {H : Hp} {a : Addr} {o : HO} (h : H a = none) : Same H (L2.upd H a o) := fun b u e => by
  rw [upd_ne (ne_of_none e h)]
  exact e
theorem Same.upd' {H H' : Hp} {a : Addr} {o : HO} (s : Same H H') (h : H a = none) : Same H (L2.upd H' a o) := fun b u e => by
  rw [upd_ne (ne_of_none e h)]
  exact s b u e
theorem ref_at {as : List Addr} {j : Nat} {b : Addr} (h : as[j]? = some b) : atI (as.map V.ref) (j : Int) = some (V.ref b) := by
  refine atI_nat ?_
  rw [List.getElem?_map, h]
  rfl

/-! ### pure expressions -/
def Ev (t : TE) (σ : St) (H : Hp) (v : V) : Prop := ∀ Q : VK, Q v H → t σ H Q
def EvA (t : TA) (σ : St) (H : Hp) (vs : List V) : Prop := ∀ Q : List V → Hp → Prop, Q vs H → t σ H Q
section
variable {σ : St} {H : Hp} {ta tb : TE} {i j : Int}
theorem Ev.to {t : TE} {v v' : V} (h : Ev t σ H v) (e : v = v') : Ev t σ H v' := e ▸ h
theorem Ev.toI {t : TE} {i j : Int} (h : Ev t σ H (.int i)) (e : i = j) : Ev t σ H (.int j) := e ▸ h
theorem ev_c {v : V} : Ev (tC v) σ H v := fun _ q => q
theorem ev_v {i : Nat} {v : V} (h : σ[i]? = some (some v)) : Ev (tVar i) σ H v := fun _ q => ⟨v, h, q⟩
theorem ev_add (ha : Ev ta σ H (.int i)) (hb : Ev tb σ H (.int j)) : Ev (tOp (rI0 fun i j => .int (i + j)) ta tb) σ H (.int (i + j)) := fun _ q => ha _ (hb _ ⟨i, j, rfl, rfl, q⟩)
theorem ev_sub (ha : Ev ta σ H (.int i)) (hb : Ev tb σ H (.int j)) : Ev (tOp (rI0 fun i j => .int (i - j)) ta tb) σ H (.int (i - j)) := fun _ q => ha _ (hb _ ⟨i, j, rfl, rfl, q⟩)
theorem cm {x : Nat} {j : Int} (h : x < 4294967296) : CMul (x : Int) j := .inl ⟨by omega, by omega⟩
theorem ev_mul (hc : CMul i j) (ha : Ev ta σ H (.int i)) (hb : Ev tb σ H (.int j)) : Ev (tOp (rI CMul fun i j => .int (i * j)) ta tb) σ H (.int (i * j)) := fun _ q => ha _ (hb _ ⟨i, j, rfl, rfl, hc, q⟩)
theorem ev_mod (hc : 0 < j) (ha : Ev ta σ H (.int i)) (hb : Ev tb σ H (.int j)) : Ev (tOp (rI (fun _ j => 0 < j) fun i j => .int (i % j)) ta tb) σ H (.int (i % j)) := fun _ q => ha _ (hb _ ⟨i, j, rfl, rfl, hc, q⟩)
theorem ev_fdiv (hc : CDiv i j) (ha : Ev ta σ H (.int i)) (hb : Ev tb σ H (.int j)) : Ev (tOp (rI CDiv fun i j => .int (i / j)) ta tb) σ H (.int (i / j)) := fun _ q => ha _ (hb _ ⟨i, j, rfl, rfl, hc, q⟩)
/-- u[j] of a row -/
theorem ev_ix {K : PySem.W.Frag} {a : Addr} {u : List Nat} {j : Nat} (ha : Ev ta σ H (.ref a)) (hb : Ev tb σ H (.int (j : Int))) (hu : RowAt K H a u) (hj : j < u.length) : Ev (tOp (rIxL K) ta tb) σ H (.int ((Rb32.at_ u j : Nat) : Int)) :=
  fun _ q => ha _ (hb _ ⟨a, _, (j : Int), _, rfl, rfl, hu, at_vi hj, q⟩)
/-- .. by a name and a written place -/
theorem ev_ixv {K : PySem.W.Frag} {a : Addr} {u : List Nat} {i : Nat} (j : Nat) (hv : σ[i]? = some (some (.ref a))) (hu : RowAt K H a u) (hj : j < u.length) : Ev (tOp (rIxL K) (tVar i) (tC (.int (j : Int)))) σ H (.int ((Rb32.at_ u j : Nat) : Int)) :=
  ev_ix (ev_v hv) ev_c hu hj
/-- rows[j] of a list of rows: the address -/
theorem ev_ixr {K : PySem.W.Frag} {a b : Addr} {as : List Addr} {j : Nat} (ha : Ev ta σ H (.ref a)) (hb : Ev tb σ H (.int (j : Int))) (hu : SqL K H a (as.map V.ref)) (hj : as[j]? = some b) : Ev (tOp (rIxL K) ta tb) σ H (.ref b) :=
  fun _ q => ha _ (hb _ ⟨a, _, (j : Int), _, rfl, rfl, hu, ref_at hj, q⟩)
theorem eva_nil : EvA tNil σ H [] := fun _ q => q
theorem eva_cons {t : TE} {r : TA} {v : V} {vs : List V} (h : Ev t σ H v) (hr : EvA r σ H vs) : EvA (tCons t r) σ H (v :: vs) := fun _ q => h _ (hr _ q)
theorem eva1 {t : TE} {v : V} (h : Ev t σ H v) : EvA (tCons t tNil) σ H [v] := eva_cons h eva_nil
theorem eva2 {t t' : TE} {v v' : V} (h : Ev t σ H v) (h' : Ev t' σ H v') : EvA (tCons t (tCons t' tNil)) σ H [v, v'] := eva_cons h (eva1 h')
theorem eva3 {t t' t'' : TE} {v v' v'' : V} (h : Ev t σ H v) (h' : Ev t' σ H v') (h'' : Ev t'' σ H v'') : EvA (tCons t (tCons t' (tCons t'' tNil))) σ H [v, v', v''] := eva_cons h (eva2 h' h'')
theorem call_ev {sp : Sp} {t : TA} {vs : List V} {Q : VK} (h : EvA t σ H vs) (q : sp vs H Q E0) : tCall sp [] E0 t σ H Q := h _ (by
  show sp (vs ++ []) H Q E0
  rw [List.append_nil]
  exact q)
theorem lst_ev {t : TA} {vs : List V} {Q : VK} (h : EvA t σ H vs) (hl : vs.length ≤ 1000) (q : ∀ l, H l = none → Q (.ref l) (upd H l (.lst vs))) : tLst t σ H Q := h _ ⟨Nat.le_trans hl (by decide), q⟩
theorem ret_ev {t : TE} {v : V} {D : Ends} (h : Ev t σ H v) (q : D.rt v H) : tRet t D σ H := h _ q
theorem ltEv (ha : Ev ta σ H (.int i)) (hb : Ev tb σ H (.int j)) : Ev (tOp (rI0 fun i j => .bl (decide (i < j))) ta tb) σ H (.bl (decide (i < j))) := fun _ q => ha _ (hb _ ⟨i, j, rfl, rfl, q⟩)
theorem eqEv (ha : Ev ta σ H (.int i)) (hb : Ev tb σ H (.int j)) : Ev (tOp rEq ta tb) σ H (.bl (decide (i = j))) := fun Q q => ha _ (hb _ ⟨rfl, by
  have e : decide (V.int i = V.int j) = decide (i = j) := by
    by_cases h : i = j
    · subst h
      simp
    · rw [decide_eq_false h, decide_eq_false fun e => h (V.int.inj e)]
  rw [e]
  exact q⟩)
theorem neEv (ha : Ev ta σ H (.int i)) (hb : Ev tb σ H (.int j)) : Ev (tOp rNe ta tb) σ H (.bl (!decide (i = j))) := fun Q q => ha _ (hb _ ⟨rfl, by
  have e : decide (V.int i = V.int j) = decide (i = j) := by
    by_cases h : i = j
    · subst h
      simp
    · rw [decide_eq_false h, decide_eq_false fun e => h (V.int.inj e)]
  rw [e]
  exact q⟩)
theorem test_ev {t : TE} {b : Bool} {Q : Bool → Hp → Prop} (h : Ev t σ H (.bl b)) (q : Q b H) : tTest t σ H Q := h _ ⟨b, rfl, q⟩
theorem if_ev {t : TE} {b : Bool} {s u : TS} {D : Ends} (h : Ev t σ H (.bl b)) (h1 : b = true → s D σ H) (h2 : b = false → u D σ H) : tIfS (tTest t) s u D σ H := test_ev h (by
  cases b with
  | true => exact iteT (h1 rfl)
  | false => exact iteF (h2 rfl))
theorem len_ev {K : PySem.W.Frag} {a : Addr} {xs : List V} (ha : Ev ta σ H (.ref a)) (hx : SqL K H a xs) : Ev (tCB (fun xs H Q => ∃ p ys, xs = [.ref p] ∧ (SqL K H p ys ∨ SqT K H p ys) ∧ Q (.int ys.length) H) (tCons ta tNil)) σ H (.int (xs.length : Int)) :=
  fun _ q => ha _ ⟨a, xs, rfl, .inl hx, q⟩
end

/-! ### slices -/
theorem cut_vi (u : List Nat) (lo hi : Nat) (h : lo ≤ u.length) : cutV (vi u) (some (lo : Int)) (some (hi : Int)) = vi ((u.drop lo).take (hi - lo)) := by
  unfold cutV HT.sIx
  rw [vi_len]
  have e1 : ¬ ((lo : Int) < 0) := by omega
  have e2 : ¬ ((hi : Int) < 0) := by omega
  simp only [e1, e2, if_false, Int.toNat_natCast]
  unfold vi
  rw [← List.map_drop, ← List.map_take]
  congr 1
  rw [Nat.min_eq_left h]
  by_cases hh : hi ≤ u.length
  · rw [Nat.min_eq_left hh]
  · rw [Nat.min_eq_right (by omega), List.take_of_length_le (by rw [List.length_drop]; omega), List.take_of_length_le (by rw [List.length_drop]; omega)]

/-! ### defs of the text -/
structure Dfn (K : PySem.W.Frag) (mg : Str → Option Value) (x : Str) (st : Stmt) (ps : List Str) (f : Addr) (fd : FuncData) : Prop where
  fn : Fun K x x st f fd
  at_ : mg x = some (.ref f)
  bd : Binds K fd ps []
theorem dfn_ex {K : PySem.W.Frag} {h : Heap} {mg : Str → Option Value} {x : Str} {st : Stmt} {ps : List Str} {f : Addr} {oc : Value} {od an : Option Addr} {osl : Array (Option Value)} {kV doc pm cdv ct : Value} (X : K.In h) (G : h.Ns mainGlobals mg)
    (a : PySem.W.nsIn K mainGlobals x = some (some (.ref f))) (l : K.lookup f = some ⟨oc, od, .func (PySem.W.fnOf x x (defArgs st) (defBody st) (defScope st) .none kV doc pm an cdv ct), osl⟩) (c : PySem.W.codeIn K cdv x = true) (k : PySem.W.keepIn K (.ref f) = true)
    (hb : ∀ (kV doc pm : Value) (an : Option Addr) (cdv ct : Value) (us : List Value), us.length = ps.length → bindArgs (PySem.W.fnOf x x (defArgs st) (defBody st) (defScope st) .none kV doc pm an cdv ct) ⟨us, []⟩ = pure (ps.zip us)) :
    ∃ f fd, Dfn K mg x st ps f fd := ⟨f, _, fun_mk l c k, PySem.W.mg_of X G a, (fun_mk l c k).binds hb⟩
theorem pe_fn {X : Cx} {x : Str} {st : Stmt} {ps : List Str} {f : Addr} {fd : FuncData} {k : Nat} {sp : Sp} {e : Expr} {es : List Expr} {t : TA} {p pos : Pos} (D : Dfn X.K X.mg x st ps f fd) (G : FnOk X.prog X.w X.K X.mg X.base CX0 k f fd ps sp) (hr : Room k X.A)
    (ha : PA X (e :: es) t) (hg : Gl X x := by rfl) (hdb : (x == ("__debug__" : Str)) = false := by decide) (he : starEach (e :: es) X.env = (false, eval e X.env) :: starEach es X.env := by rfl) (hpl : (backTo pos (starEach es X.env)).any (·.1) = false := by rfl) :
    PE X (.Call (.Name x p) (e :: es) [] pos) (tCall sp [] E0 t) := pe_call G hr hg D.at_ D.fn.kp D.bd .nil pass0 ha hdb he hpl

/-! ### in, of a list of rows -/
section
variable {X : Cx} {pins : List (Addr × Obj)} {σ : St} {H : Hp} {s : Shared}
def dI (u : List Nat) : PyData := .list ((u.map fun (x : Nat) => (x : Int)).map PyData.int)
theorem dp_vi {K : PySem.W.Frag} : ∀ u : List Nat, DpAll K H (vi u) ((u.map fun (x : Nat) => (x : Int)).map PyData.int)
  | [] => .nil
  | _ :: r => .cons (.int _) (dp_vi r)
theorem dp_row {K : PySem.W.Frag} {a : Addr} {u : List Nat} (h : RowAt K H a u) : Dp K H (.ref a) (dI u) := .lst h (dp_vi u)
theorem dp_rows {K : PySem.W.Frag} : ∀ {as : List Addr} {rs : List (List Nat)}, Paired (RowAt K H) as rs → DpAll K H (as.map V.ref) (rs.map dI)
  | _, _, .nil => .nil
  | _, _, .cons r t => .cons (dp_row r) (dp_rows t)
theorem eqv_ints : ∀ us vs : List Int, PyData.eqvAll (us.map PyData.int) (vs.map PyData.int) = decide (us = vs)
  | [], [] => by simp [PyData.eqvAll]
  | [], _ :: _ => by simp [PyData.eqvAll]
  | _ :: _, [] => by simp [PyData.eqvAll]
  | a :: r, b :: q => by
    rw [List.map_cons, List.map_cons, PyData.eqvAll, eqv_ints r q, PyData.eqv]
    by_cases h : a = b
    · subst h
      simp
    · simp [h]
theorem cast_inj {u v : List Nat} : (u.map fun (x : Nat) => (x : Int)) = (v.map fun (x : Nat) => (x : Int)) ↔ u = v := by
  constructor
  · intro h
    have e : ∀ w : List Nat, (w.map fun (x : Nat) => (x : Int)).map Int.toNat = w := fun w => by
      rw [List.map_map]
      conv => rhs; rw [← List.map_id w]
      apply List.map_congr_left
      intro x _
      rfl
    rw [← e u, ← e v, h]
  · intro h
    rw [h]
theorem eqv_dI (u v : List Nat) : PyData.eqv (dI u) (dI v) = decide (u = v) := by
  unfold dI
  rw [PyData.eqv, eqv_ints]
  by_cases h : u = v
  · rw [decide_eq_true (cast_inj.mpr h), decide_eq_true h]
  · rw [decide_eq_false fun e => h (cast_inj.mp e), decide_eq_false h]
theorem canLay_dI (u : List Nat) : (dI u).canLay0 = true := by
  unfold dI
  rw [PyData.canLay0]
  exact PySem.W.canLayAll0_ints _
theorem canLay_rows : ∀ rs : List (List Nat), PyData.canLayAll0 (rs.map dI) = true
  | [] => by simp [PyData.canLayAll0]
  | r :: q => by rw [List.map_cons, PyData.canLayAll0, canLay_dI, canLay_rows q]; rfl
theorem depth_dI (u : List Nat) : (dI u).depth ≤ 2 := by
  unfold dI
  have := PySem.W.depthAll_ints (u.map fun (x : Nat) => (x : Int))
  simp only [PyData.depth]
  omega
/-- v in rows -/
def rInR (K : PySem.W.Frag) : R2 := fun x y H Q => ∃ (a : Addr) (u : List Nat) (b : Addr) (rs : List (List Nat)), x = .ref a ∧ y = .ref b ∧ RowAt K H a u ∧ RowsAt K H b rs ∧ Q (.bl (decide (u ∈ rs))) H
theorem any_mem (u : List Nat) : ∀ rs : List (List Nat), ((rs.map dI).any fun y => PyData.eqv y (dI u)) = decide (u ∈ rs)
  | [] => by simp
  | r :: q => by
    rw [List.map_cons, List.any_cons, any_mem u q, eqv_dI]
    by_cases h : r = u
    · subst h
      simp
    · have h' : ¬ u = r := fun e => h e.symm
      simp [h, h']
theorem op_inR (hu : X.A.units + 64 < cLine) : OpR X (compareOp .In) (rInR X.K) := by
  intro pins s σ H x y v u Q I rx ry h
  obtain ⟨a, w, b, rs, rfl, rfl, ha, ⟨as, hb, hp⟩, q⟩ := h
  obtain ⟨as1, r1⟩ := Dp.reads I _ _ v (dp_row ha) rx
  obtain ⟨as2, r2⟩ := Dp.reads I (.list (rs.map dI)) _ u (.lst hb (dp_rows hp)) ry
  refine SeqAt.in_list_reads r2 r1 (canLay_rows rs) (canLay_dI w) ?_ ⟨.bl _, H, I, rfl, ?_⟩
  · have := depth_dI w
    have h2 : min (PyData.depthAll (rs.map dI)) (dI w).depth ≤ (dI w).depth := Nat.min_le_right _ _
    omega
  · rw [any_mem]
    exact q
end
end L2

/-! ### a row against a function of plain Lean -/
namespace L2
open PySem PySem.Spec PyProof.Rows PySem.W
structure LArg (h : Heap) (e : Addr × List Value × List Int) : Prop where
  ob : h.get? e.1 = some { cls := .type "list", data := .seq e.2.1.toArray }
  are : IntsAre e.2.1 e.2.2
  len : e.2.2.length ≤ sizeLine
def argO (e : Addr × List Value × List Int) : HO := .frz { cls := .type "list", data := .seq e.2.1.toArray } (.lst (e.2.2.map V.int))
def argH (K : PySem.W.Frag) (L : List (Addr × List Value × List Int)) : Hp := fun b => match K.lookup b with
  | some _ => none
  | none => (L.find? fun e => e.1 == b).map argO
theorem argH_some {K : PySem.W.Frag} {L : List (Addr × List Value × List Int)} {b : Addr} {o : HO} (h : argH K L b = some o) : K.lookup b = none ∧ ∃ e ∈ L, e.1 = b ∧ o = argO e := by
  unfold argH at h
  cases hk : K.lookup b with
  | some _ =>
    rw [hk] at h
    cases h
  | none =>
    rw [hk] at h
    cases hf : L.find? (fun e => e.1 == b) with
    | none =>
      simp only [hf] at h
      cases h
    | some e =>
      simp only [hf] at h
      have h1 := List.find?_some hf
      exact ⟨rfl, e, List.mem_of_find?_eq_some hf, by simpa using h1, (Option.some.inj h).symm⟩
theorem argH_at {K : PySem.W.Frag} {L : List (Addr × List Value × List Int)} {h : Heap} (KX : K.In h) (hL : ∀ e ∈ L, LArg h e) {e : Addr × List Value × List Int} (he : e ∈ L) : SqL K (argH K L) e.1 (e.2.2.map V.int) := by
  have hle := hL e he
  have rv := vals_ints hle.are
  cases hk : K.lookup e.1 with
  | some o =>
    have q := KX _ _ hk
    rw [hle.ob] at q
    cases q
    exact .inr ⟨_, _, _, hk, rfl, rfl, rfl, by rw [List.size_toArray, hle.are.length]; exact hle.len, by simpa using rv⟩
  | none =>
    cases hf : L.find? (fun x => x.1 == e.1) with
    | none =>
      have := List.find?_eq_none.mp hf e he
      simp at this
    | some x =>
      have hx : x.1 = e.1 := by simpa using List.find?_some hf
      have hlx := hL x (List.mem_of_find?_eq_some hf)
      have o1 := hlx.ob
      rw [hx, hle.ob] at o1
      have ev : e.2.1 = x.2.1 := by
        have o2 := Option.some.inj o1
        injection o2 with _ _ o3 _
        injection o3 with o4 _
        have := congrArg Array.toList o4
        simpa using this
      have en : x.2.2.map V.int = e.2.2.map V.int := by
        have r1 := vals_ints hlx.are
        rw [← ev] at r1
        exact r1.inj rv
      refine .inl (.inr ⟨{ cls := .type "list", data := .seq x.2.1.toArray }, ?_⟩)
      unfold argH
      rw [hk, ← en]
      simp only [hf]
      rfl
theorem spec_call {P : Program} {w : World} {K : PySem.W.Frag} {mg mb : Str → Option Value} {k : Nat} {fa : Addr} {fd : FuncData} {ps : List Str} {sp : Sp} {s₁ : Shared} {L : List (Addr × List Value × List Int)} {us : List Value} {xs : List V} {ys : List Int}
    (KX : K.In s₁.heap) (hns : s₁.heap.Ns mainGlobals mg) (hb : s₁.heap.Ns builtinsNs mb) (hbb : ∀ x : Str, x ≠ "__name__" → mb x = bootBuiltins x) (hlim : s₁.heap.NoLimit) (hg : s₁.gens = #[])
    (hL : ∀ e ∈ L, LArg s₁.heap e) (rv : Vals xs us) (hr : Room k callerA)
    (F : ∀ base : Heap, K.In base → base.Ns mainGlobals mg → FnOk P w K mg base CX0 k fa fd ps sp) (hbind : Binds K fd ps []) (hlen : us.length = ps.length)
    (hsp : ∀ H : Hp, (∀ e ∈ L, SqL K H e.1 (e.2.2.map V.int)) → sp xs H (fun v H' => ∃ p, v = .ref p ∧ H' p = some (.lst (ys.map V.int))) fun _ _ _ => False) :
    codeAny (model P w) callerA (.call (.ref fa) ⟨us, []⟩) (fun r s' => (∃ (p : Addr) (its : List Value) (n : Nat), r = .ok (.ret (.ref p)) ∧ s'.heap.get? p = some { cls := .type "list", data := .seq its.toArray n } ∧ IntsAre its ys) ∧
      OldK s₁.heap s'.heap ∧ s'.os = s₁.os ∧ AllBare s'.gens) s₁ := by
  have hok : HOk P w (argH K L) s₁.heap := fun b o e => by
    obtain ⟨_, x, hx, rfl, rfl⟩ := argH_some e
    have q := hL x hx
    exact ⟨q.ob, by rw [List.length_map]; exact q.len, x.2.1, _, vals_ints q.are, q.ob⟩
  have base_of : ∀ {b : Addr} {o : Obj}, s₁.heap.get? b = some o → argH K L b = none → (hidT s₁.heap (argH K L)).get? b = some o := fun e n => hidT_get e n
  have noA : ∀ {b : Addr} {o : Obj} {es : Array DictEntry} {ep : Nat}, s₁.heap.get? b = some o → o.data = .dict es ep → argH K L b = none := fun {b o es ep} e d => by
    cases q : argH K L b with
    | none => rfl
    | some u =>
      obtain ⟨_, x, hx, rfl, rfl⟩ := argH_some q
      rw [(hL x hx).ob] at e
      cases e
      have d' : Data.seq x.2.1.toArray _ = Data.dict es ep := d
      cases d'
  have nsK : ∀ {b : Addr} {m : Str → Option Value}, s₁.heap.Ns b m → (hidT s₁.heap (argH K L)).Ns b m := fun {b m} ⟨o, es, ep, e, d, r⟩ => ⟨o, es, ep, base_of e (noA e d), d, r⟩
  have hKb : K.In (hidT s₁.heap (argH K L)) := fun b o e => base_of (KX b o e) (by
    cases q : argH K L b with
    | none => rfl
    | some u =>
      rw [(argH_some q).1] at e
      cases e)
  have hM : Mod K mg (hidT s₁.heap (argH K L)) := ⟨hKb, nsK hns, ⟨mb, nsK hb, hbb⟩, let ⟨mc, h1, h2⟩ := hlim; ⟨mc, nsK h1, h2⟩⟩
  have e0 : Env0 P w K mg (hidT s₁.heap (argH K L)) callerA [] s₁ (argH K L) := ⟨rfl, hM, fun b o e => of_hidT e, Nat.le_of_eq (hidT_size _ _), trivial, fun b hb => absurd (show b ∈ ([] : List Addr) from hb) (by simp), hok, .of_eq hg⟩
  have hbd : BindsTo s₁ fd ⟨us, []⟩ (ps.zip us) := by
    have := hbind s₁ us KX (by rw [List.append_nil]; exact hlen)
    rw [List.append_nil] at this
    exact this
  refine codeAny_mono ((F _ hKb (nsK hns)).run callerA [] s₁ (argH K L) ⟨us, []⟩ us xs _ _ hr e0 hbd rv (hsp _ fun e he => argH_at KX hL he)) fun r s' h => ?_
  cases r with
  | error e => exact False.elim h
  | ok fl =>
    cases fl with
    | next => exact False.elim h
    | brk => exact False.elim h
    | cont => exact False.elim h
    | ret u =>
      obtain ⟨v, H', os, bare, un, hok', r', p, rfl, hp⟩ := h
      obtain rfl : u = Value.ref p := r'
      obtain ⟨_, its, n, ri, ho⟩ := hok' p _ hp
      refine ⟨⟨p, its, n, rfl, ho, Vals.ints ri⟩, OldK.of_keep fun b o e => ?_, os, bare⟩
      cases q : argH K L b with
      | none => exact un.keep b o e q (by intro z; exact absurd (show b ∈ ([] : List Addr) from z) (by simp)) (by simp)
      | some u =>
        obtain ⟨_, x, hx, rfl, rfl⟩ := argH_some q
        have z2 := un.frzs _ _ _ q
        obtain ⟨e2, _⟩ := hok' _ _ z2
        rw [(hL x hx).ob] at e
        cases e
        exact e2

/-! the arguments -/
def wd : Int ⊕ List Int → WData
  | .inl i => .int i
  | .inr ns => .list (ns.map .int)
def ArgR (K : PySem.W.Frag) (H : Hp) : Int ⊕ List Int → V → Prop
  | .inl i, z => z = .int i
  | .inr ns, z => ∃ a, z = .ref a ∧ SqL K H a (ns.map V.int)
def ArgL (L : List (Addr × List Value × List Int)) : Int ⊕ List Int → V → Prop
  | .inl i, z => z = .int i
  | .inr ns, z => ∃ a vs, z = .ref a ∧ (a, vs, ns) ∈ L
theorem args_well {P : Params} {h : Heap} : ∀ {xs : List (Int ⊕ List Int)} {vals : List Value}, WellAll P h vals (xs.map wd) → (∀ ns, Sum.inr ns ∈ xs → ns.length ≤ sizeLine) →
    ∃ (zs : List V) (L : List (Addr × List Value × List Int)), Vals zs vals ∧ (∀ e ∈ L, LArg h e) ∧ Paired (ArgL L) xs zs
  | [], vals, w, _ => by
    cases w
    exact ⟨[], [], .nil, fun e he => absurd he (by simp), .nil⟩
  | .inl i :: xs, vals, w, hl => by
    rw [List.map_cons] at w
    cases w with
    | cons a b =>
      obtain ⟨zs, L, h1, h2, h3⟩ := args_well b fun ns hn => hl ns (List.mem_cons_of_mem _ hn)
      cases a with
      | int i t => exact ⟨.int i :: zs, L, .cons ⟨t, rfl⟩ h1, h2, .cons rfl h3⟩
  | .inr ns :: xs, vals, w, hl => by
    rw [List.map_cons] at w
    cases w with
    | cons a b =>
      obtain ⟨zs, L, h1, h2, h3⟩ := args_well b fun ns hn => hl ns (List.mem_cons_of_mem _ hn)
      cases a with
      | @list a vs _ ho hall =>
        refine ⟨.ref a :: zs, (a, vs, ns) :: L, .cons rfl h1, fun e he => ?_, .cons ⟨a, vs, rfl, List.mem_cons_self⟩ (Paired.mapP h3 fun x z q => ?_)⟩
        · rcases List.mem_cons.mp he with rfl | he
          · exact ⟨ho, Att.ints_of_wellAll ns _ hall, hl ns List.mem_cons_self⟩
          · exact h2 e he
        · cases x with
          | inl i => exact q
          | inr ms =>
            obtain ⟨a', vs', e, he⟩ := q
            exact ⟨a', vs', e, List.mem_cons_of_mem _ he⟩
theorem readsAll_ints {R : WRecords} {cl : Str → Option Addr} {h : Heap} : ∀ {its : List Value} {ys : List Int}, IntsAre its ys → ReadsAllW R cl h its (ys.map WData.int) []
  | _, _, .nil => .nil
  | _, _, .cons n t r => .cons (as := []) (.int n t) (readsAll_ints r)
theorem walk_spec {r : OpenSpec} {q : Program} {loose : List Str} {XP : (Str → Option Value) → Heap → Prop} {YP : World → Heap → Prop} {d : DefRec} {K : Params → PySem.W.Frag} {k : Nat} {ps : List Str}
    (hdf : d.params.defaults = []) (hr : Room k callerA) (hY : ∀ (w : World) (h : Heap), YP w h → (K w.params).In h)
    (A : ∀ args, r.pre args = true → ∃ (xs : List (Int ⊕ List Int)) (ys : List Int), args = xs.map wd ∧ xs.length = ps.length ∧ (∀ ns, Sum.inr ns ∈ xs → ns.length ≤ sizeLine) ∧ r.post args (.list (ys.map .int)) = true ∧
      ∀ (w : World) (mg : Str → Option Value) (fa : Addr) (h : Heap), (K w.params).In h → h.Ns mainGlobals mg → mg d.name = some (.ref fa) →
      ∃ (fd : FuncData) (sp : Sp), Binds (K w.params) fd ps [] ∧ (∀ base : Heap, (K w.params).In base → base.Ns mainGlobals mg → FnOk r.prog w (K w.params) mg base CX0 k fa fd ps sp) ∧
        ∀ (H : Hp) (zs : List V), Paired (ArgR (K w.params) H) xs zs → sp zs H (fun v H' => ∃ p, v = .ref p ∧ H' p = some (.lst (ys.map V.int))) fun _ _ _ => False) :
    WalkOS q loose XP YP r d [] (fun f vs => PySem.call f vs) := by
  intro w s₀ s₁ mg mb G Y fa o pm cd doc dV kV ho hd hcd hD hmg hg args vals as hpre hlay hrd hwl hlo
  obtain rfl : dV = .none := Dflts.none hD hdf
  obtain rfl : kV = .none := Dflts.noKw hD
  obtain ⟨xs, ys, rfl, hlen, hsz, hpost, F⟩ := A args hpre
  have KX := hY w _ Y
  obtain ⟨fd, sp, hb, hF, hsp⟩ := F w mg fa _ KX G.T.g hmg
  obtain ⟨zs, L, hv, hL, hA⟩ := args_well hwl hsz
  have hul : vals.length = ps.length := by
    rw [← hv.length, ← Paired.length hA, hlen]
  refine enter_call (codeAny_mono (spec_call (L := L) (ys := ys) KX G.T.g G.T.b G.T.builtins G.T.nolimit hg hL hv hr hF hb hul fun H hS => hsp H zs (Paired.mapP hA fun x z q => ?_)) fun res s' hq => ?_)
  · cases x with
    | inl i => exact q
    | inr ns =>
      obtain ⟨a, vs, e, he⟩ := q
      exact ⟨a, e, hS _ he⟩
  · obtain ⟨⟨p, its, n, rfl, ho', hi'⟩, h2, h3, h4⟩ := hq
    refine ⟨.inl ⟨.ref p, .list (ys.map .int), [p], rfl, fun _ => rfl, .list ho' rfl rfl (by simpa using readsAll_ints hi'), hpost, fun hu => ?_⟩, h2, h3, h4⟩
    exact absurd hu Bool.false_ne_true
end L2

set_option maxRecDepth 100000
namespace L2
open PySem PySem.Spec PyProof.Rows
/-! ### loops over range(n) -/
theorem for_range0 {n : Nat} {g : TG} {tb : TS} {D : Ends} {σ : St} {H : Hp} (Pv : Nat → St → Hp → Prop) (h0 : Pv 0 σ H)
    (hs : ∀ (i : Nat) σ H, i < n → Pv i σ H → g (.int (i : Int)) σ H fun σ2 H2 => tb { D with nx := Pv (i + 1), ct := Pv (i + 1), bk := D.nx } σ2 H2) (hd : ∀ σ H, Pv n σ H → D.nx σ H) :
    ∃ W : Nat → Nat → St → Hp → Prop, (∃ m, W 0 m σ H) ∧ ∀ i m σ H, W i m σ H →
      ((Itr 0 n).stop i H ∧ D.nx σ H) ∨ ((Itr 0 n).go i H ∧ ∃ N : St → Hp → Prop, (∀ σ' H', N σ' H' → ∃ m', m' < m ∧ W (i + 1) m' σ' H') ∧ ∀ x H', (Itr 0 n).yld i H x H' → g x σ H' fun σ2 H2 => tb { D with nx := N, ct := N, bk := D.nx } σ2 H2) :=
  for_range (lo := 0) Pv h0 (fun i σ H hi p => by rw [Int.zero_add]; exact hs i σ H hi p) hd
theorem lc_range0 {n : Nat} {g : TG} {tt : TT} {te : TE} {vs : List Nat} {σ : St} {H1 : Hp} {D : Addr} {Qd : Hp → Prop} (Pv : Nat → Hp → Prop) (h0 : Pv 0 (upd H1 D (.lst [])))
    (hs : ∀ (i : Nat) H, i < n → Pv i H → g (.int (i : Int)) (wipe σ vs) H fun σ2 H2 => wipe σ2 vs = wipe σ vs ∧ tt σ2 H2 fun b H3 =>
      if b = true then te σ2 H3 fun y H4 => ∃ acc, H4 D = some (.lst acc) ∧ acc.length < sizeLine ∧ Pv (i + 1) (upd H4 D (.lst (acc ++ [y]))) else Pv (i + 1) H3) (hd : ∀ H, Pv n H → Qd H) :
    ∃ W : Nat → Nat → Hp → Prop, (∃ m, W 0 m (upd H1 D (.lst []))) ∧ ∀ i m H, W i m H →
      ((Itr 0 n).stop i H ∧ Qd H) ∨ ((Itr 0 n).go i H ∧ ∃ Nx : Hp → Prop, (∀ H', Nx H' → ∃ m', m' < m ∧ W (i + 1) m' H') ∧ ∀ x H', (Itr 0 n).yld i H x H' → g x (wipe σ vs) H' fun σ2 H2 => wipe σ2 vs = wipe σ vs ∧ tt σ2 H2 fun b H3 =>
        if b = true then te σ2 H3 fun y H4 => ∃ acc, H4 D = some (.lst acc) ∧ acc.length < sizeLine ∧ Nx (upd H4 D (.lst (acc ++ [y]))) else Nx H3) :=
  lc_range (lo := 0) Pv h0 (fun i H hi p => by rw [Int.zero_add]; exact hs i H hi p) hd
theorem lc_rangeC {lo c : Int} {n : Nat} {g : TG} {tt : TT} {te : TE} {vs : List Nat} {σ : St} {H1 : Hp} {D : Addr} {Qd : Hp → Prop} (Pv : Nat → Hp → Prop) (h0 : Pv 0 (upd H1 D (.lst [])))
    (hs : ∀ (i : Nat) H, i < n → Pv i H → g (.int (lo + (i : Nat) * c)) (wipe σ vs) H fun σ2 H2 => wipe σ2 vs = wipe σ vs ∧ tt σ2 H2 fun b H3 =>
      if b = true then te σ2 H3 fun y H4 => ∃ acc, H4 D = some (.lst acc) ∧ acc.length < sizeLine ∧ Pv (i + 1) (upd H4 D (.lst (acc ++ [y]))) else Pv (i + 1) H3) (hd : ∀ H, Pv n H → Qd H) :
    ∃ W : Nat → Nat → Hp → Prop, (∃ m, W 0 m (upd H1 D (.lst []))) ∧ ∀ i m H, W i m H →
      ((Itc lo c n).stop i H ∧ Qd H) ∨ ((Itc lo c n).go i H ∧ ∃ Nx : Hp → Prop, (∀ H', Nx H' → ∃ m', m' < m ∧ W (i + 1) m' H') ∧ ∀ x H', (Itc lo c n).yld i H x H' → g x (wipe σ vs) H' fun σ2 H2 => wipe σ2 vs = wipe σ vs ∧ tt σ2 H2 fun b H3 =>
        if b = true then te σ2 H3 fun y H4 => ∃ acc, H4 D = some (.lst acc) ∧ acc.length < sizeLine ∧ Nx (upd H4 D (.lst (acc ++ [y]))) else Nx H3) := by
  refine ⟨fun i m H => m = n - i ∧ i ≤ n ∧ Pv i H, ⟨n, by simp, Nat.zero_le _, h0⟩, ?_⟩
  rintro i m H ⟨rfl, hi, p⟩
  by_cases hlt : i < n
  · refine .inr ⟨hlt, Pv (i + 1), fun H' p' => ⟨n - (i + 1), by omega, rfl, hlt, p'⟩, fun x H' y => ?_⟩
    obtain ⟨e, y⟩ := y
    subst e y
    exact hs i _ hlt p
  · have e : i = n := by omega
    subst e
    exact .inl ⟨Nat.le_refl _, hd H p⟩
/-- range(0, 3 k, 3) has k items -/
theorem rg3 (k : Nat) (h : k ≤ 1000) : RgC 0 ((3 * k : Nat) : Int) 3 k := by
  have e : Builtin.Range.rangeSize 0 ((3 * k : Nat) : Int) 3 = (k : Int) := by
    unfold Builtin.Range.rangeSize
    rw [if_pos (show (3 : Int) > 0 by decide)]
    split <;> omega
  refine ⟨by decide, by decide, ?_, e⟩
  have fit : ∀ x : Int, -10000 ≤ x → x ≤ 10000 → Builtin.Range.rangeFitsLong x = true := fun x h1 h2 => by
    unfold Builtin.Range.rangeFitsLong
    rw [Bool.and_eq_true]
    exact ⟨decide_eq_true (by omega), decide_eq_true (by omega)⟩
  unfold Builtin.Range.small
  rw [e, fit 0 (by decide) (by decide), fit 3 (by decide) (by decide), fit _ (by omega) (by omega), fit (k : Int) (by omega) (by omega), if_pos (show (3 : Int) > 0 by decide), fit _ (by omega) (by omega)]
  simp
/-! ### numbers -/
def Sm (u : List Nat) : Prop := ∀ x ∈ u, x < 4294967296
theorem at_sm {u : List Nat} (h : Sm u) (j : Nat) : Rb32.at_ u j < 4294967296 := by
  unfold Rb32.at_
  rw [List.getD_eq_getElem?_getD]
  cases e : u[j]? with
  | none => decide
  | some x => exact h x (List.mem_of_getElem? e)
theorem sm_of {p : Nat} {u : List Nat} (hp : p ≤ 61) (h : Fp.small p u) : Sm u := fun x hx => by
  have := h x hx
  omega
theorem row_get {K : PySem.W.Frag} {H : Hp} {a : Addr} {as : List Addr} {rs : List (List Nat)} {j : Nat} (h : Paired (RowAt K H) as rs) (hj : j < rs.length) : ∃ b, as[j]? = some b ∧ RowAt K H b (rs.getD j []) := by
  have hl := Paired.length h
  obtain ⟨b, hb⟩ : ∃ b, as[j]? = some b := ⟨as[j]'(by omega), List.getElem?_eq_getElem _⟩
  obtain ⟨r, h1, h2⟩ := Paired.getP h hb
  refine ⟨b, hb, ?_⟩
  rw [List.getD_eq_getElem?_getD, h1]
  exact h2
theorem RowAt.upd_ne {K : PySem.W.Frag} {H : Hp} {a l : Addr} {o : HO} {u : List Nat} (h : RowAt K H a u) (n : a ≠ l) : RowAt K (L2.upd H l o) a u := by
  rcases h with (h | ⟨o', h⟩) | h
  · exact .inl (.inl (by rw [L2.upd_ne n]; exact h))
  · exact .inl (.inr ⟨o', by rw [L2.upd_ne n]; exact h⟩)
  · exact .inr h
theorem cut_tail (x : Nat) (r : List Nat) : cutV (vi (x :: r)) (some 1) none = vi r := by
  unfold cutV HT.sIx
  have e : ¬ ((1 : Int) < 0) := by decide
  simp only [e, if_false, vi_len, List.length_cons]
  have e1 : min (Int.toNat 1) (r.length + 1) = 1 := by
    show min 1 (r.length + 1) = 1
    omega
  rw [e1]
  show (vi r).take (r.length + 1 - 1) = vi r
  exact List.take_of_length_le (by rw [vi_len]; omega)
theorem cut_whole (u : List Nat) (n : Nat) (h : u.length = 3 * n) : cutV (vi u) none (some ((3 : Int) * (n : Int))) = vi u := by
  have e0 : (3 : Int) * (n : Int) = ((3 * n : Nat) : Int) := by omega
  rw [e0]
  unfold cutV HT.sIx
  have e : ¬ (((3 * n : Nat) : Int) < 0) := by omega
  simp only [e, if_false, Int.toNat_natCast, vi_len, h, List.drop_zero, Nat.sub_zero, Nat.min_self]
  exact List.take_of_length_le (by rw [vi_len]; omega)
theorem cut_ref (as : List Addr) (i : Nat) (h : i ≤ as.length) : cutV (as.map V.ref) none (some (i : Int)) = (as.take i).map V.ref := by
  unfold cutV HT.sIx
  have e : ¬ ((i : Int) < 0) := by omega
  simp only [e, if_false, Int.toNat_natCast, List.length_map, List.drop_zero, Nat.sub_zero, Nat.min_eq_left h]
  rw [List.map_take]
theorem nodup_take {rs : List (List Nat)} {i : Nat} {r : List Nat} (h : rs[i]? = some r) : (rs.take (i + 1)).Nodup ↔ (rs.take i).Nodup ∧ r ∉ rs.take i := by
  rw [List.take_succ, h]
  show (rs.take i ++ [r]).Nodup ↔ _
  rw [List.nodup_append]
  constructor
  · rintro ⟨h1, _, h3⟩
    exact ⟨h1, fun hm => h3 r hm r (by simp) rfl⟩
  · rintro ⟨h1, h2⟩
    refine ⟨h1, by simp, fun a ha b hb e => ?_⟩
    have : b = r := by simpa using hb
    subst this
    subst e
    exact h2 ha
theorem nodup_iff {rs : List (List Nat)} : rs.Nodup ↔ ∀ i j : Nat, i < j → j < rs.length → rs.getD i [] ≠ rs.getD j [] := by
  rw [List.nodup_iff_pairwise_ne, List.pairwise_iff_getElem]
  constructor
  · intro h i j hij hj
    have := h i j (by omega) hj hij
    rw [List.getD_eq_getElem?_getD, List.getD_eq_getElem?_getD, List.getElem?_eq_getElem hj, List.getElem?_eq_getElem (show i < rs.length by omega)]
    exact this
  · intro h i j hi hj hij
    have := h i j hij hj
    rw [List.getD_eq_getElem?_getD, List.getD_eq_getElem?_getD, List.getElem?_eq_getElem hj, List.getElem?_eq_getElem hi] at this
    exact this
def rr (rs : List (List Nat)) (i : Nat) : List Nat := rs.getD i []
def Three (rs : List (List Nat)) : Prop := ∀ r ∈ rs, r.length = 3 ∧ Sm r
theorem Three.at_ {rs : List (List Nat)} (h : Three rs) {i : Nat} (hi : i < rs.length) : (rr rs i).length = 3 ∧ Sm (rr rs i) := by
  unfold rr
  rw [List.getD_eq_getElem?_getD, List.getElem?_eq_getElem hi]
  exact h _ (List.getElem_mem hi)
def Tri (p : Nat) (rs : List (List Nat)) : Prop := ∃ i j k : Nat, i < j ∧ j < k ∧ k < rs.length ∧ Rb32.dot p (rr rs i) (Rb32.cross p (rr rs j) (rr rs k)) = 0
theorem arc_split {p : Nat} {rs : List (List Nat)} : Rb32.arc p rs = true ↔ rs.Nodup ∧ ¬ Tri p rs := by
  rw [Fp.arc_iff, nodup_iff]
  constructor
  · rintro ⟨h1, h2⟩
    exact ⟨h1, fun ⟨i, j, k, a, b, c, d⟩ => h2 i j k a b c d⟩
  · rintro ⟨h1, h2⟩
    exact ⟨h1, fun i j k a b c d => h2 ⟨i, j, k, a, b, c, d⟩⟩
theorem cross_e {p a b c d : Nat} (hp : 0 < p) : ((a : Int) * b - (c : Int) * d) % (p : Int) = ((Rb32.sub p (a * b) (c * d) : Nat) : Int) := by
  rw [← Int.natCast_mul, ← Int.natCast_mul, Fp.sub_int hp]
def ti (o : Option (List Nat)) : List V := (Rb32.told o).map V.int
theorem ti_some (r : List Nat) : ti (some r) = V.int 1 :: vi r := by
  unfold ti Rb32.told vi
  rw [List.map_cons, List.map_map]
  rfl
theorem take_map_range {α : Type} (f : Nat → α) (i : Nat) : (List.range (i + 1)).map f = (List.range i).map f ++ [f i] := by
  rw [List.range_succ, List.map_append]
  rfl
theorem sides_ok {p : Nat} (hp : 0 < p) (hp2 : p ≤ 61) (rs : List (List Nat)) : ∀ r ∈ Fp.sidesR p rs, r.length = 3 ∧ Sm r := by
  intro r hr
  unfold Fp.sidesR at hr
  simp only [List.mem_cons, List.not_mem_nil, or_false] at hr
  rcases hr with rfl | rfl | rfl <;> exact ⟨rfl, sm_of hp2 (Fp.cross_small hp _ _)⟩
/-! ### statements, one at a time -/
section
variable {D : Ends} {σ : St} {H : Hp} {Q : VK}
theorem seq_ {t u : TS} (h : t { D with nx := u D } σ H) : tSeq t u D σ H := h
theorem set_ {te : TE} {i : Nat} (h : te σ H fun x H1 => D.nx (σ.set i (some x)) H1) : tAsg te (gName i) D σ H := h
theorem set_ev {te : TE} {i : Nat} {v : V} (h : Ev te σ H v) (q : D.nx (σ.set i (some v)) H) : tAsg te (gName i) D σ H := h _ q
theorem ret_ {te : TE} (h : te σ H D.rt) : tRet te D σ H := h
theorem next_ (h : D.nx σ H) : tNext D σ H := h
theorem expr_ {te : TE} (h : te σ H fun _ H1 => D.nx σ H1) : tDrop te D σ H := h
theorem if_ {c : TT} {t u : TS} (h : c σ H fun b H1 => if b = true then t D σ H1 else u D σ H1) : tIfS c t u D σ H := h
theorem not_ {t : TT} {R : Bool → Hp → Prop} (h : t σ H fun c H1 => R (!c) H1) : tNot t σ H R := h
theorem or_ {t u : TT} {R : Bool → Hp → Prop} (h : t σ H fun c H1 => if c = true then R true H1 else u σ H1 R) : tOr t u σ H R := h
theorem val_ {t : TE} {R : Bool → Hp → Prop} (h : t σ H fun x H1 => ∃ c, x = .bl c ∧ R c H1) : tB t σ H R := h
theorem test_ {t : TE} {R : Bool → Hp → Prop} (h : t σ H fun x H1 => ∃ c, x = .bl c ∧ R c H1) : tTest t σ H R := h
theorem eq_ {ta tb : TE} (h : ta σ H fun x H1 => tb σ H1 fun y H2 => scal x y = true ∧ Q (.bl (decide (x = y))) H2) : tOp rEq ta tb σ H Q := h
theorem ne_ {ta tb : TE} (h : ta σ H fun x H1 => tb σ H1 fun y H2 => scal x y = true ∧ Q (.bl (!decide (x = y))) H2) : tOp rNe ta tb σ H Q := h
theorem op_ {r : R2} {ta tb : TE} (h : ta σ H fun x H1 => tb σ H1 fun y H2 => r x y H2 Q) : tOp r ta tb σ H Q := h
theorem and_ {ta tb : TE} (h : ta σ H fun x H1 => ∃ c, x = .bl c ∧ if c = true then tb σ H1 Q else Q (.bl false) H1) : tAndV ta tb σ H Q := h
theorem notv_ {ta : TE} (h : ta σ H fun x H1 => ∃ c, x = .bl c ∧ Q (.bl (!c)) H1) : tNotV ta σ H Q := h
theorem cal_ {sp : Sp} {t : TA} (h : t σ H fun vs H1 => sp (vs ++ []) H1 Q E0) : tCall sp [] E0 t σ H Q := h
theorem con_ {ta : TE} {tr : TA} {R : List V → Hp → Prop} (h : ta σ H fun x H1 => tr σ H1 fun xs H2 => R (x :: xs) H2) : tCons ta tr σ H R := h
theorem con_ev {ta : TE} {tr : TA} {v : V} {R : List V → Hp → Prop} (hv : Ev ta σ H v) (h : tr σ H fun xs H2 => R (v :: xs) H2) : tCons ta tr σ H R := hv _ h
theorem nil_ {R : List V → Hp → Prop} (h : R [] H) : tNil σ H R := h
theorem lst_ {t : TA} (h : t σ H fun xs H1 => xs.length ≤ sizeLine ∧ ∀ p, H1 p = none → Q (.ref p) (upd H1 p (.lst xs))) : tLst t σ H Q := h
theorem blt_ {r : List V → Hp → VK → Prop} {t : TA} (h : t σ H fun vs H1 => r vs H1 Q) : tCB r t σ H Q := h
/-- a slice by ints -/
theorem sl_ {K : PySem.W.Frag} {te : TE} {tl th : TO} {lo hi : Option Int} (he : te σ H fun x H1 => (∀ R : Option Int → Hp → Prop, R lo H1 → tl σ H1 R) ∧ (∀ R : Option Int → Hp → Prop, R hi H1 → th σ H1 R) ∧ ∃ a xs, x = .ref a ∧ SqL K H1 a xs ∧ ∀ p, H1 p = none → Q (.ref p) (upd H1 p (.lst (cutV xs lo hi))))
    (mono : ∀ (σ : St) (H : Hp) (R R' : VK), (∀ x H1, R x H1 → R' x H1) → te σ H R → te σ H R') : tSl (rSlL K) te tl th σ H Q := mono σ H _ _ (fun _ _ ⟨h1, h2, h3⟩ => h1 _ (h2 _ h3)) he
theorem sl_ev {K : PySem.W.Frag} {te : TE} {tl th : TO} {lo hi : Option Int} {a : Addr} {xs : List V} (he : Ev te σ H (.ref a)) (hl : ∀ R : Option Int → Hp → Prop, R lo H → tl σ H R) (hh : ∀ R : Option Int → Hp → Prop, R hi H → th σ H R) (hs : SqL K H a xs) (q : ∀ p, H p = none → Q (.ref p) (upd H p (.lst (cutV xs lo hi)))) :
    tSl (rSlL K) te tl th σ H Q := he _ (hl _ (hh _ ⟨a, xs, rfl, hs, q⟩))
theorem part_ev {t : TE} {i : Int} (h : Ev t σ H (.int i)) : ∀ R : Option Int → Hp → Prop, R (some i) H → tPart t σ H R := fun _ q => h _ ⟨i, rfl, q⟩
theorem nopart : ∀ R : Option Int → Hp → Prop, R none H → tNoPart σ H R := fun _ q => q
/-- for x in range(n) -/
theorem for_r {ta : TA} {tb : TS} {n x : Nat} (h : EvA ta σ H [.int (n : Int)]) (hn : n < 4611686018427387904) (Pv : Nat → St → Hp → Prop) (h0 : Pv 0 σ H)
    (hs : ∀ (i : Nat) σ H, i < n → Pv i σ H → tb { D with nx := Pv (i + 1), ct := Pv (i + 1), bk := D.nx } (σ.set x (some (.int (i : Int)))) H) (hd : ∀ σ H, Pv n σ H → D.nx σ H) : tFor (iRng1 ta) (gName x) tb D σ H :=
  h _ ⟨(n : Int), rfl, by omega, by omega, for_range0 (n := n) Pv h0 hs hd⟩
/-- for x in xs -/
theorem for_l {K : PySem.W.Frag} {tl : TE} {tb : TS} {a : Addr} {xs : List V} {x : Nat} (h : Ev tl σ H (.ref a)) (hx : SqL K H a xs) (Pv : Nat → St → Hp → Prop) (h0 : Pv 0 σ H) (hl : ∀ i σ H, i ≤ xs.length → Pv i σ H → SqL K H a xs)
    (hs : ∀ i y σ H, xs[i]? = some y → Pv i σ H → tb { D with nx := Pv (i + 1), ct := Pv (i + 1), bk := D.nx } (σ.set x (some y)) H) (hd : ∀ σ H, Pv xs.length σ H → D.nx σ H) : tFor (iList K tl) (gName x) tb D σ H :=
  h _ ⟨a, rfl, ⟨xs, hx⟩, for_list (K := K) (a := a) (xs := xs) Pv h0 hl hs hd⟩
/-- [te for x in range(n)] -/
theorem lc_r {ta : TA} {te : TE} {n x : Nat} (h : EvA ta σ H [.int (n : Int)]) (hn : n < 4611686018427387904) (Pv : Addr → Nat → Hp → Prop) (h0 : ∀ D, H D = none → Pv D 0 (upd H D (.lst [])))
    (hw : ∀ v : Option V, wipe ((wipe σ [x]).set x v) [x] = wipe σ [x])
    (hs : ∀ D (i : Nat) H', H D = none → i < n → Pv D i H' → te ((wipe σ [x]).set x (some (.int (i : Int)))) H' fun y H4 => ∃ acc, H4 D = some (.lst acc) ∧ acc.length < sizeLine ∧ Pv D (i + 1) (upd H4 D (.lst (acc ++ [y])))) (hd : ∀ D H', H D = none → Pv D n H' → Q (.ref D) H') :
    tLc (iRng1 ta) (gName x) tYes te [x] σ H Q :=
  h _ ⟨(n : Int), rfl, by omega, by omega, fun D hD => lc_range0 (n := n) (Pv D) (h0 D hD) (fun i H' hi p => ⟨hw _, by
    refine iteT (A := te _ H' _) (B := Pv D (i + 1) H') ?_
    exact hs D i H' hD hi p⟩) fun H' p => hd D H' hD p⟩
/-- [te for x in xs], xs a value that is there -/
theorem lc_l {K : PySem.W.Frag} {tl : TE} {te : TE} {a : Addr} {xs : List V} {x : Nat} (h : Ev tl σ H (.ref a)) (hx : SqL K H a xs) (Pv : Addr → Nat → Hp → Prop) (h0 : ∀ D, H D = none → Pv D 0 (upd H D (.lst []))) (hl : ∀ D i H', Pv D i H' → Same H H')
    (hw : ∀ v : Option V, wipe ((wipe σ [x]).set x v) [x] = wipe σ [x])
    (hs : ∀ D i y H', H D = none → xs[i]? = some y → Pv D i H' → te ((wipe σ [x]).set x (some y)) H' fun y H4 => ∃ acc, H4 D = some (.lst acc) ∧ acc.length < sizeLine ∧ Pv D (i + 1) (upd H4 D (.lst (acc ++ [y])))) (hd : ∀ D H', H D = none → Pv D xs.length H' → Q (.ref D) H') :
    tLc (iList K tl) (gName x) tYes te [x] σ H Q :=
  h _ ⟨a, rfl, ⟨xs, hx⟩, fun D hD => lc_list (K := K) (a := a) (xs := xs) (Pv D) (h0 D hD) (fun i H' _ p => (hl D i H' p).seq hx) (fun i y H' hi p => ⟨hw _, by
    refine iteT (A := te _ H' _) (B := Pv D (i + 1) H') ?_
    exact hs D i y H' hD hi p⟩) fun H' p => hd D H' hD p⟩
/-- [.. for x in xs if ..], from the list on -/
theorem lc_ {K : PySem.W.Frag} {tl : TE} {tt : TT} {te : TE} {x : Nat} (h : tl σ H fun y H1 => ∃ a xs, y = .ref a ∧ SqL K H1 a xs ∧ ∀ D, H1 D = none → ∃ Pv : Nat → Hp → Prop, Pv 0 (upd H1 D (.lst [])) ∧ (∀ i H', Pv i H' → Same H1 H') ∧ (∀ v : Option V, wipe ((wipe σ [x]).set x v) [x] = wipe σ [x]) ∧
      (∀ i y H', xs[i]? = some y → Pv i H' → tt ((wipe σ [x]).set x (some y)) H' fun b H3 => if b = true then te ((wipe σ [x]).set x (some y)) H3 fun y H4 => ∃ acc, H4 D = some (.lst acc) ∧ acc.length < sizeLine ∧ Pv (i + 1) (upd H4 D (.lst (acc ++ [y]))) else Pv (i + 1) H3) ∧ ∀ H', Pv xs.length H' → Q (.ref D) H')
    (mono : ∀ (R R' : VK), (∀ x H1, R x H1 → R' x H1) → tl σ H R → tl σ H R') : tLc (iList K tl) (gName x) tt te [x] σ H Q :=
  mono _ _ (fun y H1 ⟨a, xs, e, hx, h⟩ => ⟨a, e, ⟨xs, hx⟩, fun D hD => by
    obtain ⟨Pv, h0, hl, hw, hs, hd⟩ := h D hD
    exact lc_list (K := K) (a := a) (xs := xs) Pv h0 (fun i H' _ p => (hl i H' p).seq hx) (fun i y H' hi p => ⟨hw _, hs i y H' hi p⟩) hd⟩) h
/-- [te for x in range(0, 3 k, 3)] -/
theorem lc_r3 {ta : TA} {te : TE} {k x : Nat} (h : EvA ta σ H [.int 0, .int ((3 * k : Nat) : Int), .int 3]) (hk : k ≤ 1000) (Pv : Addr → Nat → Hp → Prop) (h0 : ∀ D, H D = none → Pv D 0 (upd H D (.lst [])))
    (hw : ∀ v : Option V, wipe ((wipe σ [x]).set x v) [x] = wipe σ [x])
    (hs : ∀ D (i : Nat) H', H D = none → i < k → Pv D i H' → te ((wipe σ [x]).set x (some (.int ((3 * i : Nat) : Int)))) H' fun y H4 => ∃ acc, H4 D = some (.lst acc) ∧ acc.length < sizeLine ∧ Pv D (i + 1) (upd H4 D (.lst (acc ++ [y])))) (hd : ∀ D H', H D = none → Pv D k H' → Q (.ref D) H') :
    tLc (iRng3 ta) (gName x) tYes te [x] σ H Q :=
  h _ ⟨0, ((3 * k : Nat) : Int), 3, k, rfl, rg3 k hk, fun D hD => lc_rangeC (n := k) (Pv D) (h0 D hD) (fun i H' hi p => ⟨hw _, by
    refine iteT (A := te _ H' _) (B := Pv D (i + 1) H') ?_
    have e0 : (0 : Int) + (i : Int) * 3 = ((3 * i : Nat) : Int) := by omega
    rw [e0]
    exact hs D i H' hD hi p⟩) fun H' p => hd D H' hD p⟩
theorem yes_ {R : Bool → Hp → Prop} (h : R true H) : tYes σ H R := h
theorem nx_ {nx bk ct : St → Hp → Prop} {rt : VK} (h : nx σ H) : Ends.nx ⟨nx, rt, bk, ct⟩ σ H := h
theorem decI {n : Nat} : decide (V.int (n : Int) = V.int 0) = decide (n = 0) := by
  by_cases h : n = 0
  · subst h
    rfl
  · rw [decide_eq_false h, decide_eq_false fun e => h (by have := V.int.inj e; omega)]
end
theorem sl_l {X : Cx} {K : PySem.W.Frag} (h : X.K = K) : SlR X (rSlL K) := h ▸ sl_list
theorem ix_l {X : Cx} {K : PySem.W.Frag} (h : X.K = K) : IxR X (rIxL K) := h ▸ ix_list
theorem blk_ {X : Cx} {N : List Str} {sc scope : Scope} {own : List (Str × Nat)} (hN : X.N = N) (hs : X.env.scope = sc) (h : blkC N sc scope own = true) : BlkOk X.N X.env.scope scope own := by
  rw [hN, hs]
  exact blkOk_by h
end L2

set_option maxRecDepth 100000
namespace L2
open PySem PySem.Spec PyProof.Rows
/-! ### what is handed in, and what is due -/
abbrev nt (q : List Int) : List Nat := Rb32Neutral.nats q
theorem row_in {K : PySem.W.Frag} {H : Hp} {a : Addr} {q : List Int} (hq : q = (nt q).map (fun (x : Nat) => (x : Int))) (h : SqL K H a (q.map V.int)) : RowAt K H a (nt q) := by
  unfold RowAt
  have e : vi (nt q) = q.map V.int := by
    conv => rhs; rw [hq]
    rw [List.map_map]
    rfl
  rw [e]
  exact h
theorem cast_small {p : Int} {q : List Int} (h : ∀ x ∈ q, 0 ≤ x ∧ x < p) : q = (nt q).map (fun (x : Nat) => (x : Int)) := Fp.nats_cast h
theorem nt_len (q : List Int) : (nt q).length = q.length := List.length_map ..
theorem three_of {p : Nat} (hp : p ≤ 61) {rs : List (List Nat)} (h : ∀ r ∈ rs, Fp.IsPt p r) : Three rs := fun r hr => ⟨(h r hr).len, sm_of hp (h r hr).sm⟩
theorem pts_of {q : List Int} {n : Nat} (h : q.length = 3 * n) : Rb32Neutral.pts q = Rb32Neutral.threes n (nt q) := by
  unfold Rb32Neutral.pts
  rw [h]
  congr 1
  omega
theorem prime_of {p : Int} (h : Rb32Neutral.isPrime p = true) : ∃ n : Nat, p = (n : Int) ∧ n ∈ Fp.primes := by
  obtain ⟨h1, h2⟩ := Fp.prime_mem h
  exact ⟨_, h2, h1⟩
/-! how many could be put -/
def canR (p : Nat) (v : List Nat) (rs ls : List (List Nat)) : Bool := !decide (v ∈ rs) && ls.all fun l => Rb32.dot p v l != 0
def secsTo (p : Nat) (rs : List (List Nat)) (k n : Nat) : List (List Nat) := (List.range n).map fun j => Rb32.cross p (rr rs j) (rr rs k)
def secs (p : Nat) (rs : List (List Nat)) (n : Nat) : List (List Nat) := (List.range n).flatMap fun k => secsTo p rs k k
def moreN (p : Nat) (rs : List (List Nat)) : Nat := if Rb32.arc p rs = true then ((Rb32.points p).filter fun v => canR p v rs (secs p rs rs.length)).length else 0
theorem arc_cons (p : Nat) (v : List Nat) (rs : List (List Nat)) : Rb32.arc p (v :: rs) = (Rb32.arc p rs && canR p v rs (secs p rs rs.length)) := by
  rw [Rb32.arc]
  congr 1
  unfold canR
  congr 1
  · congr 1
    rw [Bool.eq_iff_iff]
    simp
  · rw [Bool.eq_iff_iff, Fp.pairs_iff, List.all_eq_true]
    constructor
    · intro h l hl
      unfold secs secsTo at hl
      obtain ⟨k, hk, hl⟩ := List.mem_flatMap.mp hl
      obtain ⟨j, hj, rfl⟩ := List.mem_map.mp hl
      have := h j k (List.mem_range.mp hj) (List.mem_range.mp hk)
      exact bne_iff_ne.mpr this
    · intro h i j hij hj
      have := h (Rb32.cross p (rr rs i) (rr rs j)) (by
        unfold secs secsTo
        exact List.mem_flatMap.mpr ⟨j, List.mem_range.mpr hj, List.mem_map.mpr ⟨i, List.mem_range.mpr hij, rfl⟩⟩)
      exact bne_iff_ne.mp this
theorem more_val (p : Nat) (rs : List (List Nat)) : (Rb32.more p rs).length = moreN p rs := by
  unfold Rb32.more moreN
  cases hb : Rb32.arc p rs with
  | true =>
    rw [if_pos rfl]
    congr 1
    apply List.filter_congr
    intro v _
    rw [arc_cons, hb, Bool.true_and]
  | false =>
    rw [if_neg (by decide)]
    have : (Rb32.points p).filter (fun v => Rb32.arc p (v :: rs)) = [] := by
      rw [List.filter_eq_nil_iff]
      intro v _
      rw [arc_cons, hb, Bool.false_and]
      decide
    rw [this]
    rfl
/-! the matrix, the conic -/
theorem len4 {rs : List (List Nat)} (h : rs.length = 4) : rs = [rr rs 0, rr rs 1, rr rs 2, rr rs 3] := by
  match rs, h with
  | [a, b, c, d], _ => rfl
theorem len5 {rs : List (List Nat)} (h : rs.length = 5) : rs = [rr rs 0, rr rs 1, rr rs 2, rr rs 3, rr rs 4] := by
  match rs, h with
  | [a, b, c, d, e], _ => rfl
theorem rr_mem {rs : List (List Nat)} {i : Nat} (h : i < rs.length) : rr rs i ∈ rs := by
  unfold rr
  rw [List.getD_eq_getElem?_getD, List.getElem?_eq_getElem h]
  exact List.getElem_mem h
theorem shares_ne {P : Fp.Pr} {rs : List (List Nat)} (hl : rs.length = 4) (ha : Rb32.arc P.p rs = true) : ∀ k, k < 3 → Rb32.at_ (Fp.sharesR P.p rs) k ≠ 0 := by
  have e := len4 hl
  have ha' : Rb32.arc P.p [rr rs 0, rr rs 1, rr rs 2, rr rs 3] = true := by rw [← e]; exact ha
  obtain ⟨f1, f2, f3, f4⟩ := Fp.arc4 ha'
  rw [Ne, Fp.det_zero] at f1 f2 f3 f4
  obtain ⟨s0, s1, s2⟩ := Fp.share_c (P := P) rs
  intro k hk h0
  have hz : Fp.co P (Fp.sharesR P.p rs) k = 0 := by
    unfold Fp.co
    rw [h0]
    rfl
  match k, hk with
  | 0, _ =>
    rw [s0, Fp.ip_cr3] at hz
    exact f4 hz
  | 1, _ =>
    rw [s1, Fp.ip_cr3] at hz
    exact Fp.dt_ne12 f3 hz
  | 2, _ =>
    rw [s2, Fp.ip_cr3] at hz
    exact f2 hz
theorem taken_ex {P : Fp.Pr} {fs gs : List (List Nat)} (lf : fs.length = 4) (lg : gs.length = 4) (hg : ∀ r ∈ gs, Fp.IsPt P.p r) (ha : Rb32.arc P.p fs = true) (hb : Rb32.arc P.p gs = true) :
    ∃ m, Rb32.normal P.p (Fp.takeR P.p fs gs) = some m ∧ (Rb32.rows P.p 9).find? (fun m => Rb32.takes P.p m fs gs) = some m := by
  have ef := len4 lf
  have eg := len4 lg
  have p0 := hg _ (rr_mem (i := 0) (by omega))
  have p1 := hg _ (rr_mem (i := 1) (by omega))
  have p2 := hg _ (rr_mem (i := 2) (by omega))
  have p3 := hg _ (rr_mem (i := 3) (by omega))
  generalize rr fs 0 = a0 at ef
  generalize rr fs 1 = a1 at ef
  generalize rr fs 2 = a2 at ef
  generalize rr fs 3 = a3 at ef
  generalize rr gs 0 = b0 at eg p0
  generalize rr gs 1 = b1 at eg p1
  generalize rr gs 2 = b2 at eg p2
  generalize rr gs 3 = b3 at eg p3
  subst ef eg
  exact Fp.taken_find ha hb p0 p1 p2 p3
theorem through_ex {P : Fp.Pr} {fs : List (List Nat)} (lf : fs.length = 5) (ha : Rb32.arc P.p fs = true) :
    ∃ k, Rb32.normal P.p (Fp.thrR P.p fs) = some k ∧ (Rb32.rows P.p 6).find? (fun k => Rb32.through P.p k fs) = some k := by
  have ef := len5 lf
  generalize rr fs 0 = a0 at ef
  generalize rr fs 1 = a1 at ef
  generalize rr fs 2 = a2 at ef
  generalize rr fs 3 = a3 at ef
  generalize rr fs 4 = a4 at ef
  subst ef
  exact Fp.through_find ha
end L2

set_option maxHeartbeats 4000000
namespace FP
open PySem PySem.Spec PyProof.Rows L2
def top (i : Nat) : Stmt := PySem.Challenge.pw_finiteplanes_s13_more.main.body.getD i (.Pass ⟨0, 0, 0, 0⟩)
abbrev sPoint : Stmt := top 1
abbrev sCross : Stmt := top 2
abbrev sDot : Stmt := top 3
abbrev sRows : Stmt := top 4
abbrev sDiff : Stmt := top 5
abbrev sLine : Stmt := top 6
abbrev sIsArc : Stmt := top 7
abbrev sAll : Stmt := top 8
abbrev sSecs : Stmt := top 9
abbrev sCan : Stmt := top 10
abbrev sMore : Stmt := top 11
section
variable {P : Program} {w : World} {K : PySem.W.Frag} {mg : Str → Option Value} {base : Heap}
/-! point -/
def pointR (p i : Nat) : List Nat := if i = 0 then [1, 0, 0, 1] else if i < 1 + p then [1, 0, 1, i - 1] else if i - 1 - p < p * p then [1, 1, (i - 1 - p) / p, (i - 1 - p) % p] else [0]
def spPoint : Sp := fun vs H Q _ => ∃ p i : Nat, vs = [.int p, .int i] ∧ 0 < p ∧ p ≤ 61 ∧ ∀ l, H l = none → Q (.ref l) (upd H l (.lst (vi (pointR p i))))
theorem scPoint : FnScope ["p", "i", "rest"] ["p", "i"] (defScope sPoint) := ⟨rfl, rfl, rfl, by decide +kernel, rfl, by decide +kernel, by decide +kernel⟩
theorem ok_point {f : Addr} {fd : FuncData} (D : Dfn K mg "point" sPoint ["p", "i"] f fd) : FnOk P w K mg base CX0 1 f fd ["p", "i"] spPoint := by
  refine D.fn.ok scPoint (fun vs H Q E h => ?_) (fun cdv A outer s H vs Q E hr h => ?_)
  · obtain ⟨p, i, rfl, _⟩ := h
    rfl
  · obtain ⟨p, i, rfl, hp, hp2, k⟩ := h
    refine ⟨_, pss_cons (ps_if (pt_cmpR op_eq (pv 1) pe_int (nomark _)) (pss_one (ps_ret (pe_lst (pa_cons pe_int (pa_cons pe_int (pa_cons pe_int (pa_cons pe_int pa_nil))))))) pss_nil)
      (pss_cons (ps_if (pt_cmpR op_lt (pv 1) (pe_op op_add pe_int (pv 0)) (nomark _)) (pss_one (ps_ret (pe_lst (pa_cons pe_int (pa_cons pe_int (pa_cons pe_int (pa_cons (pe_op op_sub (pv 1) pe_int) pa_nil))))))) pss_nil)
      (pss_cons (ps_set (i := 2) scPoint.nd rfl (Or.inl rfl) (pe_op op_sub (pe_op op_sub (pv 1) pe_int) (pv 0)))
      (pss_cons (ps_if (pt_cmpR op_lt (pv 2) (pe_op op_mul (pv 0) (pv 0)) (nomark _)) (pss_one (ps_ret (pe_lst (pa_cons pe_int (pa_cons pe_int (pa_cons (pe_op op_fdiv (pv 2) (pv 0)) (pa_cons (pe_op op_mod (pv 2) (pv 0)) pa_nil))))))) pss_nil)
      (pss_one (ps_ret (pe_lst (pa_cons pe_int pa_nil))))))), ?_⟩
    refine seq_ (if_ev (eqEv (ev_v rfl) ev_c) (fun hb => ?_) (fun hb => next_ ?_))
    · have hi : (i : Int) = 0 := of_decide_eq_true hb
      have e : pointR p i = [1, 0, 0, 1] := if_pos (by omega)
      rw [e] at k
      exact ret_ (lst_ev (eva_cons ev_c (eva3 ev_c ev_c ev_c)) (by simp) k)
    · have hi : ¬ (i : Int) = 0 := of_decide_eq_false hb
      refine seq_ (if_ev (ltEv (ev_v rfl) (ev_add ev_c (ev_v rfl))) (fun hb => ?_) (fun hb => next_ ?_))
      · have h1 : (i : Int) < 1 + (p : Int) := of_decide_eq_true hb
        have e : pointR p i = [1, 0, 1, i - 1] := by
          unfold pointR
          rw [if_neg (by omega), if_pos (by omega)]
        rw [e] at k
        exact ret_ (lst_ev (eva_cons ev_c (eva3 ev_c ev_c (Ev.toI (ev_sub (ev_v rfl) ev_c) (show (i : Int) - 1 = ((i - 1 : Nat) : Int) by omega)))) (by simp) k)
      · have h1 : ¬ (i : Int) < 1 + (p : Int) := of_decide_eq_false hb
        have er : (i : Int) - 1 - (p : Int) = ((i - 1 - p : Nat) : Int) := by omega
        refine seq_ (set_ev (Ev.toI (ev_sub (ev_sub (ev_v rfl) ev_c) (ev_v rfl)) er) (seq_ ?_))
        refine if_ev (ltEv (ev_v rfl) (ev_mul (cm (by omega)) (ev_v rfl) (ev_v rfl))) (fun hb => ?_) (fun hb => next_ ?_)
        · have h2 : ((i - 1 - p : Nat) : Int) < (p : Int) * (p : Int) := of_decide_eq_true hb
          have h2' : i - 1 - p < p * p := by
            rw [← Int.natCast_mul] at h2
            omega
          have e : pointR p i = [1, 1, (i - 1 - p) / p, (i - 1 - p) % p] := by
            unfold pointR
            rw [if_neg (by omega), if_neg (by omega), if_pos h2']
          rw [e] at k
          refine ret_ (lst_ev (eva_cons ev_c (eva3 ev_c (Ev.toI (ev_fdiv ⟨by omega, by omega⟩ (ev_v rfl) (ev_v rfl)) (Int.natCast_ediv _ _).symm) (Ev.toI (ev_mod (by omega) (ev_v rfl) (ev_v rfl)) (Int.natCast_emod _ _).symm))) (by simp) k)
        · have h2 : ¬ ((i - 1 - p : Nat) : Int) < (p : Int) * (p : Int) := of_decide_eq_false hb
          have h2' : ¬ i - 1 - p < p * p := by
            rw [← Int.natCast_mul] at h2
            omega
          have e : pointR p i = [0] := by
            unfold pointR
            rw [if_neg (by omega), if_neg (by omega), if_neg h2']
          rw [e] at k
          exact nx_ (ret_ (lst_ev (eva1 ev_c) (by simp) k))
theorem pointR_row {p i : Nat} (h : p ∈ Fp.primes) (hi : i < p * p + p + 1) : ∃ r, pointR p i = 1 :: r ∧ (Rb32.points p)[i]? = some r := by
  have hp := (Fp.primes_ge h).1
  rw [Fp.points_at h]
  unfold pointR
  by_cases h0 : i = 0
  · rw [if_pos h0, if_pos h0]
    exact ⟨_, rfl, rfl⟩
  · rw [if_neg h0, if_neg h0]
    by_cases h1 : i < 1 + p
    · rw [if_pos h1, if_pos h1]
      exact ⟨_, rfl, rfl⟩
    · rw [if_neg h1, if_neg h1]
      have h2 : i - 1 - p < p * p := by omega
      rw [if_pos h2, if_pos h2]
      exact ⟨_, rfl, rfl⟩
/-! cross -/
def spCross (K : PySem.W.Frag) : Sp := fun vs H Q _ => ∃ (p : Nat) (a b : Addr) (u v : List Nat), vs = [.int p, .ref a, .ref b] ∧ 0 < p ∧ RowAt K H a u ∧ u.length = 3 ∧ Sm u ∧ RowAt K H b v ∧ v.length = 3 ∧ ∀ l, H l = none → Q (.ref l) (upd H l (.lst (vi (Rb32.cross p u v))))
theorem scCross : FnScope ["p", "u", "v"] ["p", "u", "v"] (defScope sCross) := ⟨rfl, rfl, rfl, by decide +kernel, rfl, by decide +kernel, by decide +kernel⟩
theorem ok_cross {f : Addr} {fd : FuncData} (D : Dfn K mg "cross" sCross ["p", "u", "v"] f fd) : FnOk P w K mg base CX0 1 f fd ["p", "u", "v"] (spCross K) := by
  refine D.fn.ok scCross (fun vs H Q E h => ?_) (fun cdv A outer s H vs Q E hr h => ?_)
  · obtain ⟨p, a, b, u, v, rfl, _⟩ := h
    rfl
  · obtain ⟨p, a, b, u, v, rfl, hp, hu, lu, su, hv, lv, k⟩ := h
    refine ⟨_, pss_one (ps_ret (pe_lst (pa_cons (pe_op op_mod (pe_op op_sub (pe_op op_mul (pe_ix (ix_l (K := K) rfl) (pv 1) pe_int (fun _ _ => rfl)) (pe_ix (ix_l (K := K) rfl) (pv 2) pe_int (fun _ _ => rfl))) (pe_op op_mul (pe_ix (ix_l (K := K) rfl) (pv 1) pe_int (fun _ _ => rfl)) (pe_ix (ix_l (K := K) rfl) (pv 2) pe_int (fun _ _ => rfl)))) (pv 0))
      (pa_cons (pe_op op_mod (pe_op op_sub (pe_op op_mul (pe_ix (ix_l (K := K) rfl) (pv 1) pe_int (fun _ _ => rfl)) (pe_ix (ix_l (K := K) rfl) (pv 2) pe_int (fun _ _ => rfl))) (pe_op op_mul (pe_ix (ix_l (K := K) rfl) (pv 1) pe_int (fun _ _ => rfl)) (pe_ix (ix_l (K := K) rfl) (pv 2) pe_int (fun _ _ => rfl)))) (pv 0))
      (pa_cons (pe_op op_mod (pe_op op_sub (pe_op op_mul (pe_ix (ix_l (K := K) rfl) (pv 1) pe_int (fun _ _ => rfl)) (pe_ix (ix_l (K := K) rfl) (pv 2) pe_int (fun _ _ => rfl))) (pe_op op_mul (pe_ix (ix_l (K := K) rfl) (pv 1) pe_int (fun _ _ => rfl)) (pe_ix (ix_l (K := K) rfl) (pv 2) pe_int (fun _ _ => rfl)))) (pv 0)) pa_nil))))), ?_⟩
    have hp' : (0 : Int) < (p : Int) := by omega
    have U := fun (j : Nat) (hj : j < 3) => ev_ixv (σ := start ["p", "u", "v"] [.int p, .ref a, .ref b]) (i := 1) j rfl hu (by rw [lu]; exact hj)
    have W := fun (j : Nat) (hj : j < 3) => ev_ixv (σ := start ["p", "u", "v"] [.int p, .ref a, .ref b]) (i := 2) j rfl hv (by rw [lv]; exact hj)
    refine lst_ev (eva3
      (Ev.toI (ev_mod hp' (ev_sub (ev_mul (cm (at_sm su 1)) (U 1 (by decide)) (W 2 (by decide))) (ev_mul (cm (at_sm su 2)) (U 2 (by decide)) (W 1 (by decide)))) (ev_v rfl)) (cross_e hp))
      (Ev.toI (ev_mod hp' (ev_sub (ev_mul (cm (at_sm su 2)) (U 2 (by decide)) (W 0 (by decide))) (ev_mul (cm (at_sm su 0)) (U 0 (by decide)) (W 2 (by decide)))) (ev_v rfl)) (cross_e hp))
      (Ev.toI (ev_mod hp' (ev_sub (ev_mul (cm (at_sm su 0)) (U 0 (by decide)) (W 1 (by decide))) (ev_mul (cm (at_sm su 1)) (U 1 (by decide)) (W 0 (by decide)))) (ev_v rfl)) (cross_e hp))) (by simp) k
/-! product_sum -/
def spDot (K : PySem.W.Frag) : Sp := fun vs H Q _ => ∃ (p : Nat) (a b : Addr) (u v : List Nat), vs = [.int p, .ref a, .ref b] ∧ 0 < p ∧ RowAt K H a u ∧ u.length = 3 ∧ Sm u ∧ RowAt K H b v ∧ v.length = 3 ∧ Q (.int ((Rb32.dot p u v : Nat) : Int)) H
theorem scDot : FnScope ["p", "u", "v"] ["p", "u", "v"] (defScope sDot) := ⟨rfl, rfl, rfl, by decide +kernel, rfl, by decide +kernel, by decide +kernel⟩
theorem dot_e {p a b c x y z : Nat} : ((a : Int) * x + (b : Int) * y + (c : Int) * z) % (p : Int) = (((a * x + b * y + c * z) % p : Nat) : Int) := by simp
theorem ok_dot {f : Addr} {fd : FuncData} (D : Dfn K mg "product_sum" sDot ["p", "u", "v"] f fd) : FnOk P w K mg base CX0 1 f fd ["p", "u", "v"] (spDot K) := by
  refine D.fn.ok scDot (fun vs H Q E h => ?_) (fun cdv A outer s H vs Q E hr h => ?_)
  · obtain ⟨p, a, b, u, v, rfl, _⟩ := h
    rfl
  · obtain ⟨p, a, b, u, v, rfl, hp, hu, lu, su, hv, lv, k⟩ := h
    refine ⟨_, pss_one (ps_ret (pe_op op_mod (pe_op op_add (pe_op op_add (pe_op op_mul (pe_ix (ix_l (K := K) rfl) (pv 1) pe_int (fun _ _ => rfl)) (pe_ix (ix_l (K := K) rfl) (pv 2) pe_int (fun _ _ => rfl))) (pe_op op_mul (pe_ix (ix_l (K := K) rfl) (pv 1) pe_int (fun _ _ => rfl)) (pe_ix (ix_l (K := K) rfl) (pv 2) pe_int (fun _ _ => rfl)))) (pe_op op_mul (pe_ix (ix_l (K := K) rfl) (pv 1) pe_int (fun _ _ => rfl)) (pe_ix (ix_l (K := K) rfl) (pv 2) pe_int (fun _ _ => rfl)))) (pv 0))), ?_⟩
    have hp' : (0 : Int) < (p : Int) := by omega
    have U := fun (j : Nat) (hj : j < 3) => ev_ixv (σ := start ["p", "u", "v"] [.int p, .ref a, .ref b]) (i := 1) j rfl hu (by rw [lu]; exact hj)
    have W := fun (j : Nat) (hj : j < 3) => ev_ixv (σ := start ["p", "u", "v"] [.int p, .ref a, .ref b]) (i := 2) j rfl hv (by rw [lv]; exact hj)
    exact ret_ev (Ev.toI (ev_mod hp' (ev_add (ev_add (ev_mul (cm (at_sm su 0)) (U 0 (by decide)) (W 0 (by decide))) (ev_mul (cm (at_sm su 1)) (U 1 (by decide)) (W 1 (by decide)))) (ev_mul (cm (at_sm su 2)) (U 2 (by decide)) (W 2 (by decide)))) (ev_v rfl)) dot_e) k
/-! rows_of_three -/
def spRows (K : PySem.W.Frag) : Sp := fun vs H Q _ => ∃ (a : Addr) (u : List Nat) (k : Nat), vs = [.ref a] ∧ RowAt K H a u ∧ u.length = 3 * k ∧ k ≤ 1000 ∧ ∀ l H', Same H H' → RowsAt K H' l (Rb32Neutral.threes k u) → Q (.ref l) H'
theorem scRows : FnScope ["points", "k"] ["points"] (defScope sRows) := ⟨rfl, rfl, rfl, by decide +kernel, rfl, by decide +kernel, by decide +kernel⟩
theorem ok_rows {f : Addr} {fd : FuncData} (hrg : mg "range" = none) (hln : mg "len" = none) (D : Dfn K mg "rows_of_three" sRows ["points"] f fd) : FnOk P w K mg base CX0 1 f fd ["points"] (spRows K) := by
  refine D.fn.ok scRows (fun vs H Q E h => ?_) (fun cdv A outer s H vs Q E hr h => ?_)
  · obtain ⟨a, u, k, rfl, _⟩ := h
    rfl
  · obtain ⟨a, u, k, rfl, hu, lu, hk, q⟩ := h
    refine ⟨_, pss_one (ps_ret (pe_lc (own := [("k", 1)]) rfl scRows.nd (pi_range3 rfl hrg (pa_cons pe_int (pa_cons (pe_callB call_len_seq rfl hln PySem.boot_len (pa_cons (pv 0) pa_nil)) (pa_cons pe_int pa_nil)))) (blk_ (N := ["points", "k"]) (sc := defScope sRows) rfl rfl (by decide +kernel)) (fun _ _ _ _ _ => pg_name (i := 1) scRows.nd rfl (Or.inl rfl)) (fun _ _ _ _ _ => pts_nil)
      (fun _ _ _ _ _ => pe_slice (sl_l (K := K) rfl) (pv 0) (po_some (pv 1)) (po_some (pe_op op_add (pv 1) pe_int))))), ?_⟩
    refine ret_ (lc_r3 (eva3 ev_c (Ev.toI (len_ev (ev_v rfl) hu) (show ((vi u).length : Int) = ((3 * k : Nat) : Int) by rw [vi_len, lu])) ev_c) hk (fun D i H2 => Same H H2 ∧ ∃ as : List Addr, H2 D = some (.lst (as.map V.ref)) ∧ Paired (fun b r => b ≠ D ∧ RowAt K H2 b r) as ((Rb32Neutral.threes k u).take i)) (fun D hD => ⟨Same.upd hD, [], upd_same, .nil⟩) (fun _ => rfl) ?_ ?_)
    · rintro D i H2 hD hi ⟨s2, as, hD2, hp⟩
      have e1 : ((3 * i : Nat) : Int) + 3 = ((3 * i + 3 : Nat) : Int) := by omega
      refine sl_ev (ev_v rfl) (part_ev (ev_v rfl)) (part_ev (Ev.toI (ev_add (ev_v rfl) ev_c) e1)) (s2.seq hu) fun l hl => ?_
      rw [cut_vi u _ _ (by omega)]
      have e2 : 3 * i + 3 - 3 * i = 3 := by omega
      rw [e2]
      have nl : D ≠ l := ne_of_none hD2 hl
      have hlen : as.length = i := by
        have := Paired.length hp
        rw [List.length_take, Fp.threes_len] at this
        omega
      refine ⟨as.map V.ref, by rw [upd_ne nl]; exact hD2, by rw [List.length_map, hlen]; exact small1000 (by omega), ?_, as ++ [l], by rw [upd_same, List.map_append]; rfl, ?_⟩
      · exact Same.upd' (Same.upd' s2 (s2.free hl)) hD
      · have et : (Rb32Neutral.threes k u).take (i + 1) = (Rb32Neutral.threes k u).take i ++ [(u.drop (3 * i)).take 3] := by
          rw [List.take_succ, Fp.threes_get k u i hi]
          rfl
        rw [et]
        refine Paired.appP (Paired.mapP hp fun b r ⟨n, z⟩ => ⟨n, RowAt.upd_ne (z.mono (Same.upd hl)) n⟩) (.cons ⟨nl.symm, RowAt.upd_ne (RowAt.of upd_same) nl.symm⟩ .nil)
    · rintro D H2 hD ⟨s2, as, hD2, hp⟩
      rw [List.take_of_length_le (by rw [Fp.threes_len]; exact Nat.le_refl _)] at hp
      exact q D H2 s2 ⟨as, SqL.of hD2, Paired.mapP hp fun b r z => z.2⟩
/-! all_different -/
def spDiff (K : PySem.W.Frag) : Sp := fun vs H Q _ => ∃ (a : Addr) (rs : List (List Nat)), vs = [.ref a] ∧ RowsAt K H a rs ∧ rs.length ≤ 1000 ∧ ∀ H', Same H H' → Q (.bl (decide rs.Nodup)) H'
theorem scDiff : FnScope ["rows", "k"] ["rows"] (defScope sDiff) := ⟨rfl, rfl, rfl, by decide +kernel, rfl, by decide +kernel, by decide +kernel⟩
theorem ok_diff {f : Addr} {fd : FuncData} (hrg : mg "range" = none) (hln : mg "len" = none) (D : Dfn K mg "all_different" sDiff ["rows"] f fd) : FnOk P w K mg base CX0 1 f fd ["rows"] (spDiff K) := by
  refine D.fn.ok scDiff (fun vs H Q E h => ?_) (fun cdv A outer s H vs Q E hr h => ?_)
  · obtain ⟨a, rs, rfl, _⟩ := h
    rfl
  · obtain ⟨a, rs, rfl, ⟨as, hS, hp⟩, hl, q⟩ := h
    refine ⟨_, pss_cons (ps_for PassesOwn.never rfl (pi_range1 rfl hrg (pa_cons (pe_callB call_len_seq rfl hln PySem.boot_len (pa_cons (pv 0) pa_nil)) pa_nil)) (pg_name (i := 1) scDiff.nd rfl (Or.inl rfl))
      (pss_one (ps_if (pt_cmpR (op_inR hr.units) (pe_ix (ix_l (K := K) rfl) (pv 0) (pv 1) (fun _ _ => rfl)) (pe_slice (sl_l (K := K) rfl) (pv 0) po_none (po_some (pv 1))) rfl) (pss_one (ps_ret pe_bl)) pss_nil)))
      (pss_one (ps_ret pe_bl)), ?_⟩
    have hlen : as.length = rs.length := Paired.length hp
    refine seq_ (for_r (n := (as.map V.ref).length) (eva1 (len_ev (ev_v rfl) hS)) (by rw [List.length_map]; omega) (fun i σ H2 => Same H H2 ∧ (∃ v, σ = [some (.ref a), v]) ∧ (rs.take i).Nodup) ⟨Same.refl H, ⟨none, rfl⟩, by simp⟩ ?_ ?_)
    · rintro i σ H2 hi ⟨s2, ⟨v, rfl⟩, hn⟩
      rw [List.length_map] at hi
      have hp2 : Paired (RowAt K H2) as rs := Paired.mapP hp fun _ _ z => RowAt.mono z s2
      obtain ⟨b, hb⟩ : ∃ b, as[i]? = some b := ⟨as[i], List.getElem?_eq_getElem hi⟩
      obtain ⟨r, h1, h2⟩ := Paired.getP hp2 hb
      refine if_ (test_ (op_ (ev_ixr (ev_v rfl) (ev_v rfl) (s2.seq hS) hb _ (sl_ev (ev_v rfl) nopart (part_ev (ev_v rfl)) (s2.seq hS) fun l hl => ?_))))
      rw [cut_ref as i (by omega)]
      have s3 : Same H2 (upd H2 l (.lst ((as.take i).map V.ref))) := Same.upd hl
      refine ⟨b, r, l, rs.take i, rfl, rfl, h2.mono s3, ⟨as.take i, SqL.of upd_same, Paired.takeP i (Paired.mapP hp2 fun _ _ z => RowAt.mono z s3)⟩, _, rfl, ?_⟩
      by_cases hm : r ∈ rs.take i
      · rw [decide_eq_true hm]
        refine iteT (ret_ev ev_c ?_)
        have nd : ¬ rs.Nodup := fun hh => ((nodup_take h1).mp (hh.sublist (List.take_sublist _ _))).2 hm
        have := q _ (s2.trans s3)
        rw [decide_eq_false nd] at this
        exact this
      · rw [decide_eq_false hm]
        exact iteF (next_ ⟨s2.trans s3, ⟨_, rfl⟩, (nodup_take h1).mpr ⟨hn, hm⟩⟩)
    · rintro σ H2 ⟨s2, ⟨v, rfl⟩, hn⟩
      rw [List.take_of_length_le (by rw [List.length_map, hlen]; exact Nat.le_refl _)] at hn
      have := q _ s2
      rw [decide_eq_true hn] at this
      exact nx_ (ret_ (ev_c _ this))
/-! three_on_a_line -/
def spLine (K : PySem.W.Frag) : Sp := fun vs H Q _ => ∃ (p : Nat) (a : Addr) (rs : List (List Nat)), vs = [.int p, .ref a] ∧ 0 < p ∧ RowsAt K H a rs ∧ Three rs ∧ rs.length ≤ 1000 ∧ ∀ (b : Bool) H', Same H H' → (b = true ↔ Tri p rs) → Q (.bl b) H'
theorem scLine : FnScope ["p", "rows", "k", "j", "line", "i"] ["p", "rows"] (defScope sLine) := ⟨rfl, rfl, rfl, by decide +kernel, rfl, by decide +kernel, by decide +kernel⟩
theorem ok_line {f fc fp : Addr} {fd fdc fdp : FuncData} (hrg : mg "range" = none) (hln : mg "len" = none) (D : Dfn K mg "three_on_a_line" sLine ["p", "rows"] f fd) (Dc : Dfn K mg "cross" sCross ["p", "u", "v"] fc fdc) (Dp : Dfn K mg "product_sum" sDot ["p", "u", "v"] fp fdp) :
    FnOk P w K mg base CX0 2 f fd ["p", "rows"] (spLine K) := by
  have Gc : FnOk P w K mg base CX0 1 fc fdc ["p", "u", "v"] (spCross K) := ok_cross Dc
  have Gp : FnOk P w K mg base CX0 1 fp fdp ["p", "u", "v"] (spDot K) := ok_dot Dp
  refine D.fn.ok scLine (fun vs H Q E h => ?_) (fun cdv A outer s H vs Q E hr h => ?_)
  · obtain ⟨p, a, rs, rfl, _⟩ := h
    rfl
  · obtain ⟨p, a, rs, rfl, hp0, ⟨as, hS, hp⟩, h3, hl, q⟩ := h
    refine ⟨_, pss_cons (ps_for PassesOwn.never rfl (pi_range1 rfl hrg (pa_cons (pe_callB call_len_seq rfl hln PySem.boot_len (pa_cons (pv 1) pa_nil)) pa_nil)) (pg_name (i := 2) scLine.nd rfl (Or.inl rfl))
      (pss_one (ps_for PassesOwn.never rfl (pi_range1 rfl hrg (pa_cons (pv 2) pa_nil)) (pg_name (i := 3) scLine.nd rfl (Or.inl rfl))
        (pss_cons (ps_set (i := 4) scLine.nd rfl (Or.inl rfl) (pe_fn Dc Gc hr (pa_cons (pv 0) (pa_cons (pe_ix (ix_l (K := K) rfl) (pv 1) (pv 3) (fun _ _ => rfl)) (pa_cons (pe_ix (ix_l (K := K) rfl) (pv 1) (pv 2) (fun _ _ => rfl)) pa_nil)))))
          (pss_one (ps_for PassesOwn.never rfl (pi_range1 rfl hrg (pa_cons (pv 3) pa_nil)) (pg_name (i := 5) scLine.nd rfl (Or.inl rfl))
            (pss_one (ps_if (pt_cmpR op_eq (pe_fn Dp Gp hr (pa_cons (pv 0) (pa_cons (pe_ix (ix_l (K := K) rfl) (pv 1) (pv 5) (fun _ _ => rfl)) (pa_cons (pv 4) pa_nil)))) pe_int (nomark _)) (pss_one (ps_ret pe_bl)) pss_nil))))))))
      (pss_one (ps_ret pe_bl)), ?_⟩
    have hlen : as.length = rs.length := Paired.length hp
    refine seq_ (for_r (n := (as.map V.ref).length) (eva1 (len_ev (ev_v rfl) hS)) (by rw [List.length_map]; omega) (fun k σ H2 => Same H H2 ∧ (∃ v2 v3 v4 v5, σ = [some (.int p), some (.ref a), v2, v3, v4, v5]) ∧ ∀ i j m : Nat, i < j → j < m → m < k → Rb32.dot p (rr rs i) (Rb32.cross p (rr rs j) (rr rs m)) ≠ 0)
      ⟨Same.refl H, ⟨none, none, none, none, rfl⟩, fun i j m _ _ h => absurd h (by omega)⟩ ?_ ?_)
    · rintro k σ H2 hk ⟨s2, ⟨v2, v3, v4, v5, rfl⟩, hT⟩
      rw [List.length_map] at hk
      refine for_r (n := k) (eva1 (ev_v rfl)) (by omega) (fun j σ H3 => Same H H3 ∧ (∃ v3 v4 v5, σ = [some (.int p), some (.ref a), some (.int (k : Int)), v3, v4, v5]) ∧ ∀ i j' : Nat, i < j' → j' < j → Rb32.dot p (rr rs i) (Rb32.cross p (rr rs j') (rr rs k)) ≠ 0)
        ⟨s2, ⟨v3, v4, v5, rfl⟩, fun i j' _ h => absurd h (by omega)⟩ ?_ ?_
      · rintro j σ H3 hj ⟨s3, ⟨v3, v4, v5, rfl⟩, hT2⟩
        have hp3 : Paired (RowAt K H3) as rs := Paired.mapP hp fun _ _ z => RowAt.mono z s3
        obtain ⟨bj, hbj, rj⟩ := row_get (a := a) hp3 (j := j) (by omega)
        obtain ⟨bk, hbk, rk⟩ := row_get (a := a) hp3 (j := k) (by omega)
        have tj := h3.at_ (i := j) (by omega)
        have tk := h3.at_ (i := k) (by omega)
        refine seq_ (set_ (call_ev (eva3 (ev_v rfl) (ev_ixr (ev_v rfl) (ev_v rfl) (s3.seq hS) hbj) (ev_ixr (ev_v rfl) (ev_v rfl) (s3.seq hS) hbk)) ⟨p, bj, bk, _, _, rfl, hp0, rj, tj.1, tj.2, rk, tk.1, fun l hl => ?_⟩))
        have s4 : Same H3 (upd H3 l (.lst (vi (Rb32.cross p (rr rs j) (rr rs k))))) := Same.upd hl
        refine for_r (n := j) (eva1 (ev_v rfl)) (by omega) (fun i σ H4 => H4 = upd H3 l (.lst (vi (Rb32.cross p (rr rs j) (rr rs k)))) ∧ (∃ v5, σ = [some (.int p), some (.ref a), some (.int (k : Int)), some (.int (j : Int)), some (.ref l), v5]) ∧ ∀ i' : Nat, i' < i → Rb32.dot p (rr rs i') (Rb32.cross p (rr rs j) (rr rs k)) ≠ 0)
          ⟨rfl, ⟨v5, rfl⟩, fun i' h => absurd h (by omega)⟩ ?_ ?_
        · rintro i σ H4 hi ⟨rfl, ⟨v5, rfl⟩, hT3⟩
          have hp4 : Paired (RowAt K (upd H3 l (.lst (vi (Rb32.cross p (rr rs j) (rr rs k)))))) as rs := Paired.mapP hp3 fun _ _ z => RowAt.mono z s4
          obtain ⟨bi, hbi, ri⟩ := row_get (a := a) hp4 (j := i) (by omega)
          have ti := h3.at_ (i := i) (by omega)
          refine if_ (test_ (eq_ (call_ev (eva3 (ev_v rfl) (ev_ixr (ev_v rfl) (ev_v rfl) ((s3.trans s4).seq hS) hbi) (ev_v rfl)) ⟨p, bi, l, _, _, rfl, hp0, ri, ti.1, ti.2, RowAt.of upd_same, rfl, rfl, _, rfl, ?_⟩)))
          by_cases hz : Rb32.dot p (rr rs i) (Rb32.cross p (rr rs j) (rr rs k)) = 0
          · have e : decide (V.int ((Rb32.dot p (rr rs i) (Rb32.cross p (rr rs j) (rr rs k)) : Nat) : Int) = V.int 0) = true := by
              rw [hz]
              rfl
            have e' : decide (V.int ((Rb32.dot p (rs.getD i []) (Rb32.cross p (rr rs j) (rr rs k)) : Nat) : Int) = V.int 0) = true := e
            rw [e']
            exact iteT (ret_ev ev_c (q true _ (s3.trans s4) ⟨fun _ => ⟨i, j, k, hi, hj, by omega, hz⟩, fun _ => rfl⟩))
          · have e' : decide (V.int ((Rb32.dot p (rs.getD i []) (Rb32.cross p (rr rs j) (rr rs k)) : Nat) : Int) = V.int 0) = false := decide_eq_false fun e => hz (by
              have := V.int.inj e
              show Rb32.dot p (rs.getD i []) _ = 0
              omega)
            rw [e']
            refine iteF (next_ ⟨rfl, ⟨_, rfl⟩, fun i' h => ?_⟩)
            by_cases hh : i' = i
            · subst hh
              exact hz
            · exact hT3 i' (by omega)
        · rintro σ H4 ⟨rfl, ⟨v5, rfl⟩, hT3⟩
          refine ⟨s3.trans s4, ⟨_, _, _, rfl⟩, fun i j' h1 h2 => ?_⟩
          by_cases hh : j' = j
          · subst hh
            exact hT3 i h1
          · exact hT2 i j' h1 (by omega)
      · rintro σ H3 ⟨s3, ⟨v3, v4, v5, rfl⟩, hT2⟩
        refine ⟨s3, ⟨_, _, _, _, rfl⟩, fun i j m h1 h2 h3 => ?_⟩
        by_cases hh : m = k
        · subst hh
          exact hT2 i j h1 h2
        · exact hT i j m h1 h2 (by omega)
    · rintro σ H2 ⟨s2, ⟨v2, v3, v4, v5, rfl⟩, hT⟩
      rw [List.length_map, hlen] at hT
      refine nx_ (ret_ (ev_c _ (q false _ s2 ⟨fun h => (by cases h), fun ⟨i, j, k, h1, h2, h3, h4⟩ => absurd h4 (hT i j k h1 h2 h3)⟩)))
/-! is_arc -/
def spArc (K : PySem.W.Frag) : Sp := fun vs H Q _ => ∃ (p : Nat) (a : Addr) (rs : List (List Nat)), vs = [.int p, .ref a] ∧ 0 < p ∧ RowsAt K H a rs ∧ Three rs ∧ rs.length ≤ 1000 ∧ ∀ H', Same H H' → Q (.bl (Rb32.arc p rs)) H'
theorem scArc : FnScope ["p", "rows"] ["p", "rows"] (defScope sIsArc) := ⟨rfl, rfl, rfl, by decide +kernel, rfl, by decide +kernel, by decide +kernel⟩
theorem ok_isarc {f fd' fl fc fp : Addr} {fd fdd fdl fdc fdp : FuncData} (hrg : mg "range" = none) (hln : mg "len" = none) (D : Dfn K mg "is_arc" sIsArc ["p", "rows"] f fd) (Dd : Dfn K mg "all_different" sDiff ["rows"] fd' fdd) (Dl : Dfn K mg "three_on_a_line" sLine ["p", "rows"] fl fdl)
    (Dc : Dfn K mg "cross" sCross ["p", "u", "v"] fc fdc) (Dp : Dfn K mg "product_sum" sDot ["p", "u", "v"] fp fdp) : FnOk P w K mg base CX0 3 f fd ["p", "rows"] (spArc K) := by
  have Gd : FnOk P w K mg base CX0 1 fd' fdd ["rows"] (spDiff K) := ok_diff hrg hln Dd
  have Gl : FnOk P w K mg base CX0 2 fl fdl ["p", "rows"] (spLine K) := ok_line hrg hln Dl Dc Dp
  refine D.fn.ok scArc (fun vs H Q E h => ?_) (fun cdv A outer s H vs Q E hr h => ?_)
  · obtain ⟨p, a, rs, rfl, _⟩ := h
    rfl
  · obtain ⟨p, a, rs, rfl, hp0, hR, h3, hl, q⟩ := h
    refine ⟨_, pss_one (ps_ret (pe_and (pe_fn Dd Gd (hr.mono (by decide)) (pa_cons (pv 1) pa_nil)) (pe_one (pe_not (pe_fn Dl Gl hr (pa_cons (pv 0) (pa_cons (pv 1) pa_nil))))))), ?_⟩
    refine ret_ (and_ (call_ev (eva1 (ev_v rfl)) ⟨a, rs, rfl, hR, hl, fun H1 s1 => ⟨_, rfl, ?_⟩⟩))
    by_cases hn : rs.Nodup
    · rw [decide_eq_true hn]
      refine iteT (notv_ (call_ev (eva2 (ev_v rfl) (ev_v rfl)) ⟨p, a, rs, rfl, hp0, hR.mono s1, h3, hl, fun b H2 s2 hb => ⟨_, rfl, ?_⟩⟩))
      have e : Rb32.arc p rs = !b := by
        cases b with
        | true =>
          have : ¬ Rb32.arc p rs = true := fun hh => (arc_split.mp hh).2 (hb.mp rfl)
          simpa using this
        | false =>
          exact arc_split.mpr ⟨hn, fun hh => absurd (hb.mpr hh) (by decide)⟩
      have := q H2 (s1.trans s2)
      rw [e] at this
      exact this
    · rw [decide_eq_false hn]
      have e : Rb32.arc p rs = false := by
        have : ¬ Rb32.arc p rs = true := fun hh => hn (arc_split.mp hh).1
        simpa using this
      have := q H1 s1
      rw [e] at this
      exact iteF this
/-! all_points -/
def spAll (K : PySem.W.Frag) : Sp := fun vs H Q _ => ∃ p : Nat, vs = [.int p] ∧ p ∈ Fp.primes ∧ ∀ l H', Same H H' → RowsAt K H' l (Rb32.points p) → Q (.ref l) H'
theorem scAll : FnScope ["p", "i"] ["p"] (defScope sAll) := ⟨rfl, rfl, rfl, by decide +kernel, rfl, by decide +kernel, by decide +kernel⟩
theorem ok_all {f fp : Addr} {fd fdp : FuncData} (hrg : mg "range" = none) (D : Dfn K mg "all_points" sAll ["p"] f fd) (Dp : Dfn K mg "point" sPoint ["p", "i"] fp fdp) : FnOk P w K mg base CX0 2 f fd ["p"] (spAll K) := by
  have Gp : FnOk P w K mg base CX0 1 fp fdp ["p", "i"] spPoint := ok_point Dp
  refine D.fn.ok scAll (fun vs H Q E h => ?_) (fun cdv A outer s H vs Q E hr h => ?_)
  · obtain ⟨p, rfl, _⟩ := h
    rfl
  · obtain ⟨p, rfl, hp, q⟩ := h
    have hp2 := Fp.primes_ge hp
    have hpp : p * p ≤ 61 * 61 := Nat.mul_le_mul hp2.2 hp2.2
    refine ⟨_, pss_one (ps_ret (pe_lc (own := [("i", 1)]) rfl scAll.nd (pi_range1 rfl hrg (pa_cons (pe_op op_add (pe_op op_add (pe_op op_mul (pv 0) (pv 0)) (pv 0)) pe_int) pa_nil)) (blk_ (N := ["p", "i"]) (sc := defScope sAll) rfl rfl (by decide +kernel)) (fun _ _ _ _ _ => pg_name (i := 1) scAll.nd rfl (Or.inl rfl)) (fun _ _ _ _ _ => pts_nil)
      (fun _ _ _ _ _ => pe_slice (sl_l (K := K) rfl) (pe_fn Dp Gp hr (pa_cons (pv 0) (pa_cons (pv 1) pa_nil))) (po_some pe_int) po_none))), ?_⟩
    have en : (p : Int) * (p : Int) + (p : Int) + 1 = ((p * p + p + 1 : Nat) : Int) := by
      rw [← Int.natCast_mul]
      omega
    refine ret_ (lc_r (n := p * p + p + 1) (eva1 (Ev.toI (ev_add (ev_add (ev_mul (cm (by omega)) (ev_v rfl) (ev_v rfl)) (ev_v rfl)) ev_c) en)) (by omega) (fun D i H2 => Same H H2 ∧ ∃ as : List Addr, H2 D = some (.lst (as.map V.ref)) ∧ Paired (fun b r => b ≠ D ∧ RowAt K H2 b r) as ((Rb32.points p).take i)) (fun D hD => ⟨Same.upd hD, [], upd_same, .nil⟩) (fun _ => rfl) ?_ ?_)
    · rintro D i H2 hD hi ⟨s2, as, hD2, ha⟩
      obtain ⟨r, er, hr⟩ := pointR_row hp hi
      refine (show tSl (rSlL K) (tCall spPoint [] E0 (tCons (tVar 0) (tCons (tVar 1) tNil))) (tPart (tC (.int 1))) tNoPart _ _ _ from ?_)
      refine call_ev (sp := spPoint) (eva2 (ev_v rfl) (ev_v rfl)) ⟨p, i, rfl, by omega, hp2.2, fun l hl => ?_⟩
      rw [er]
      refine ⟨_, rfl, l, _, rfl, SqL.of upd_same, fun l2 hl2 => ?_⟩
      rw [cut_tail]
      have nl : D ≠ l := ne_of_none hD2 hl
      have hlu : upd H2 l (.lst (vi (1 :: r))) D = some (.lst (as.map V.ref)) := by rw [upd_ne nl]; exact hD2
      have nl2 : D ≠ l2 := ne_of_none hlu hl2
      have hlen : as.length = i := by
        have := Paired.length ha
        rw [List.length_take, Fp.points_length hp] at this
        omega
      have s3 : Same H2 (upd H2 l (.lst (vi (1 :: r)))) := Same.upd hl
      have s4 : Same (upd H2 l (.lst (vi (1 :: r)))) (upd (upd H2 l (.lst (vi (1 :: r)))) l2 (.lst (vi r))) := Same.upd hl2
      refine ⟨as.map V.ref, by rw [upd_ne nl2]; exact hlu, by rw [List.length_map, hlen]; exact Nat.lt_of_lt_of_le (show i < 10000 by omega) (by decide), ?_, as ++ [l2], by rw [upd_same, List.map_append]; rfl, ?_⟩
      · exact Same.upd' ((s2.trans s3).trans s4) hD
      · rw [List.take_succ, hr]
        refine Paired.appP (Paired.mapP ha fun b r ⟨n, z⟩ => ⟨n, RowAt.upd_ne (z.mono (s3.trans s4)) n⟩) (.cons ⟨nl2.symm, RowAt.upd_ne (RowAt.of upd_same) nl2.symm⟩ .nil)
    · rintro D H2 hD ⟨s2, as, hD2, ha⟩
      rw [List.take_of_length_le (by rw [Fp.points_length hp]; exact Nat.le_refl _)] at ha
      exact q D H2 s2 ⟨as, SqL.of hD2, Paired.mapP ha fun b r z => z.2⟩
/-! secants -/
theorem secsTo_len (p : Nat) (rs : List (List Nat)) (k n : Nat) : (secsTo p rs k n).length = n := by
  unfold secsTo
  rw [List.length_map, List.length_range]
theorem secs_succ (p : Nat) (rs : List (List Nat)) (n : Nat) : secs p rs (n + 1) = secs p rs n ++ secsTo p rs n n := by
  unfold secs
  rw [List.range_succ, List.flatMap_append]
  simp
theorem secs_len (p : Nat) (rs : List (List Nat)) : ∀ n, (secs p rs n).length ≤ n * n
  | 0 => by simp [secs]
  | n + 1 => by
    rw [secs_succ, List.length_append, secsTo_len]
    have := secs_len p rs n
    have e : (n + 1) * (n + 1) = n * n + n + n + 1 := by
      rw [Nat.succ_mul, Nat.mul_succ]
      omega
    omega
theorem secsTo_succ (p : Nat) (rs : List (List Nat)) (k n : Nat) : secsTo p rs k (n + 1) = secsTo p rs k n ++ [Rb32.cross p (rr rs n) (rr rs k)] := by
  unfold secsTo
  rw [List.range_succ, List.map_append]
  rfl
def spSecs (K : PySem.W.Frag) : Sp := fun vs H Q _ => ∃ (p : Nat) (a : Addr) (rs : List (List Nat)), vs = [.int p, .ref a] ∧ 0 < p ∧ RowsAt K H a rs ∧ Three rs ∧ rs.length ≤ 100 ∧ ∀ l H', Same H H' → RowsAt K H' l (secs p rs rs.length) → Q (.ref l) H'
theorem scSecs : FnScope ["p", "rows", "lines", "k", "j"] ["p", "rows"] (defScope sSecs) := ⟨rfl, rfl, rfl, by decide +kernel, rfl, by decide +kernel, by decide +kernel⟩
theorem ok_secs {f fc : Addr} {fd fdc : FuncData} (hrg : mg "range" = none) (hln : mg "len" = none) (D : Dfn K mg "secants" sSecs ["p", "rows"] f fd) (Dc : Dfn K mg "cross" sCross ["p", "u", "v"] fc fdc) : FnOk P w K mg base CX0 2 f fd ["p", "rows"] (spSecs K) := by
  have Gc : FnOk P w K mg base CX0 1 fc fdc ["p", "u", "v"] (spCross K) := ok_cross Dc
  refine D.fn.ok scSecs (fun vs H Q E h => ?_) (fun cdv A outer s H vs Q E hr h => ?_)
  · obtain ⟨p, a, rs, rfl, _⟩ := h
    rfl
  · obtain ⟨p, a, rs, rfl, hp0, ⟨as, hS, hp⟩, h3, hl, q⟩ := h
    refine ⟨_, pss_cons (ps_set (i := 2) scSecs.nd rfl (Or.inl rfl) (pe_lst pa_nil))
      (pss_cons (ps_for PassesOwn.never rfl (pi_range1 rfl hrg (pa_cons (pe_callB call_len_seq rfl hln PySem.boot_len (pa_cons (pv 1) pa_nil)) pa_nil)) (pg_name (i := 3) scSecs.nd rfl (Or.inl rfl))
        (pss_one (ps_for PassesOwn.never rfl (pi_range1 rfl hrg (pa_cons (pv 3) pa_nil)) (pg_name (i := 4) scSecs.nd rfl (Or.inl rfl))
          (pss_one (ps_expr (pe_bm PySem.F.plainAttrs_list PySem.F.slot_list_append PySem.F.type_list_append mt_append (pv 2) (pa_cons (pe_fn Dc Gc hr (pa_cons (pv 0) (pa_cons (pe_ix (ix_l (K := K) rfl) (pv 1) (pv 4) (fun _ _ => rfl)) (pa_cons (pe_ix (ix_l (K := K) rfl) (pv 1) (pv 3) (fun _ _ => rfl)) pa_nil)))) pa_nil)))))))
      (pss_one (ps_ret (pv 2)))), ?_⟩
    have hlen : as.length = rs.length := Paired.length hp
    refine seq_ (set_ (lst_ev eva_nil (by simp) fun l hl0 => ?_))
    have s0 : Same H (upd H l (.lst [])) := Same.upd hl0
    refine nx_ (seq_ (for_r (n := (as.map V.ref).length) (eva1 (len_ev (ev_v rfl) (s0.seq hS))) (by rw [List.length_map]; omega) (fun k σ H2 => Same H H2 ∧ (∃ v3 v4, σ = [some (.int p), some (.ref a), some (.ref l), v3, v4]) ∧ ∃ ls : List Addr, H2 l = some (.lst (ls.map V.ref)) ∧ Paired (fun b r => b ≠ l ∧ RowAt K H2 b r) ls (secs p rs k))
      ⟨s0, ⟨none, none, rfl⟩, [], upd_same, .nil⟩ ?_ ?_))
    · rintro k σ H2 hk ⟨s2, ⟨v3, v4, rfl⟩, ls, hl2, hps⟩
      rw [List.length_map] at hk
      refine for_r (n := k) (eva1 (ev_v rfl)) (by omega) (fun j σ H3 => Same H H3 ∧ (∃ v4, σ = [some (.int p), some (.ref a), some (.ref l), some (.int (k : Int)), v4]) ∧ ∃ ls : List Addr, H3 l = some (.lst (ls.map V.ref)) ∧ Paired (fun b r => b ≠ l ∧ RowAt K H3 b r) ls (secs p rs k ++ secsTo p rs k j))
        ⟨s2, ⟨v4, rfl⟩, ls, hl2, by
          have e : secsTo p rs k 0 = [] := rfl
          rw [e, List.append_nil]
          exact hps⟩ ?_ ?_
      · rintro j σ H3 hj ⟨s3, ⟨v4, rfl⟩, ms, hl3, hps3⟩
        have hp3 : Paired (RowAt K H3) as rs := Paired.mapP hp fun _ _ z => RowAt.mono z s3
        obtain ⟨bj, hbj, rj⟩ := row_get (a := a) hp3 (j := j) (by omega)
        obtain ⟨bk, hbk, rk⟩ := row_get (a := a) hp3 (j := k) (by omega)
        have tj := h3.at_ (i := j) (by omega)
        have tk := h3.at_ (i := k) (by omega)
        refine expr_ ⟨_, rfl, .inl ⟨rfl, _, SqL.of hl3⟩, con_ ?_⟩
        refine call_ev (eva3 (ev_v rfl) (ev_ixr (ev_v rfl) (ev_v rfl) (s3.seq hS) hbj) (ev_ixr (ev_v rfl) (ev_v rfl) (s3.seq hS) hbk)) ⟨p, bj, bk, _, _, rfl, hp0, rj, tj.1, tj.2, rk, tk.1, fun m hm => ?_⟩
        have nm : l ≠ m := ne_of_none hl3 hm
        have s4 : Same H3 (upd H3 m (.lst (vi (Rb32.cross p (rr rs j) (rr rs k))))) := Same.upd hm
        have hml : ms.length ≤ 20000 := by
          have e1 := Paired.length hps3
          rw [List.length_append, secsTo_len] at e1
          have e2 := secs_len p rs k
          have e3 : k * k ≤ 100 * 100 := Nat.mul_le_mul (by omega) (by omega)
          omega
        refine nil_ ⟨l, ms.map V.ref, _, rfl, rfl, by rw [upd_ne nm]; exact hl3, by rw [List.length_map]; exact Nat.lt_of_le_of_lt hml (by decide), ?_⟩
        refine ⟨Same.upd' (s3.trans s4) hl0, ⟨_, rfl⟩, ms ++ [m], by rw [upd_same, List.map_append]; rfl, ?_⟩
        rw [secsTo_succ, ← List.append_assoc]
        exact Paired.appP (Paired.mapP hps3 fun b r ⟨n, z⟩ => ⟨n, RowAt.upd_ne (z.mono s4) n⟩) (.cons ⟨nm.symm, RowAt.upd_ne (RowAt.of upd_same) nm.symm⟩ .nil)
      · rintro σ H3 ⟨s3, ⟨v4, rfl⟩, ms, hl3, hps3⟩
        refine ⟨s3, ⟨_, _, rfl⟩, ms, hl3, ?_⟩
        rw [secs_succ]
        exact hps3
    · rintro σ H2 ⟨s2, ⟨v3, v4, rfl⟩, ls, hl2, hps⟩
      rw [List.length_map, hlen] at hps
      exact nx_ (ret_ev (ev_v rfl) (q l H2 s2 ⟨ls, SqL.of hl2, Paired.mapP hps fun b r z => z.2⟩))
/-! can_be_put -/
def spCan (K : PySem.W.Frag) : Sp := fun vs H Q _ => ∃ (p : Nat) (a b c : Addr) (v : List Nat) (rs ls : List (List Nat)), vs = [.int p, .ref a, .ref b, .ref c] ∧ 0 < p ∧ RowAt K H a v ∧ v.length = 3 ∧ Sm v ∧ RowsAt K H b rs ∧ RowsAt K H c ls ∧ (∀ r ∈ ls, r.length = 3) ∧ Q (.bl (canR p v rs ls)) H
theorem scCan : FnScope ["p", "v", "rows", "lines", "line"] ["p", "v", "rows", "lines"] (defScope sCan) := ⟨rfl, rfl, rfl, by decide +kernel, rfl, by decide +kernel, by decide +kernel⟩
theorem ok_can {f fp : Addr} {fd fdp : FuncData} (D : Dfn K mg "can_be_put" sCan ["p", "v", "rows", "lines"] f fd) (Dp : Dfn K mg "product_sum" sDot ["p", "u", "v"] fp fdp) : FnOk P w K mg base CX0 2 f fd ["p", "v", "rows", "lines"] (spCan K) := by
  have Gp : FnOk P w K mg base CX0 1 fp fdp ["p", "u", "v"] (spDot K) := ok_dot Dp
  refine D.fn.ok scCan (fun vs H Q E h => ?_) (fun cdv A outer s H vs Q E hr h => ?_)
  · obtain ⟨p, a, b, c, v, rs, ls, rfl, _⟩ := h
    rfl
  · obtain ⟨p, a, b, c, v, rs, ls, rfl, hp0, hv, lv, sv, hR, ⟨as, hL, hpl⟩, l3, q⟩ := h
    refine ⟨_, pss_cons (ps_if (pt_cmpR (op_inR hr.units) (pv 1) (pv 2) rfl) (pss_one (ps_ret pe_bl)) pss_nil)
      (pss_cons (ps_for PassesOwn.never rfl (pi_list (pv 3)) (pg_name (i := 4) scCan.nd rfl (Or.inl rfl)) (pss_one (ps_if (pt_cmpR op_eq (pe_fn Dp Gp hr (pa_cons (pv 0) (pa_cons (pv 1) (pa_cons (pv 4) pa_nil)))) pe_int (nomark _)) (pss_one (ps_ret pe_bl)) pss_nil)))
      (pss_one (ps_ret pe_bl))), ?_⟩
    refine seq_ (if_ (test_ (op_ (ev_v rfl _ (ev_v rfl _ ⟨a, v, b, rs, rfl, rfl, hv, hR, _, rfl, ?_⟩)))))
    by_cases hm : v ∈ rs
    · rw [decide_eq_true hm]
      have e : canR p v rs ls = false := by
        unfold canR
        rw [decide_eq_true hm]
        rfl
      rw [e] at q
      exact iteT (ret_ev ev_c q)
    · rw [decide_eq_false hm]
      have e : canR p v rs ls = ls.all fun l => Rb32.dot p v l != 0 := by
        unfold canR
        rw [decide_eq_false hm]
        rfl
      rw [e] at q
      refine iteF (next_ (nx_ (seq_ (for_l (ev_v rfl) hL (fun i σ H2 => H2 = H ∧ (∃ x, σ = [some (.int p), some (.ref a), some (.ref b), some (.ref c), x]) ∧ (ls.take i).all (fun l => Rb32.dot p v l != 0) = true)
        ⟨rfl, ⟨none, rfl⟩, rfl⟩ (fun i σ H2 _ ⟨e, _⟩ => by rw [e]; exact hL) ?_ ?_))))
      · rintro i y σ H2 hi ⟨rfl, ⟨x, rfl⟩, ha⟩
        rw [List.getElem?_map] at hi
        cases hb : as[i]? with
        | none =>
          rw [hb] at hi
          cases hi
        | some d =>
          rw [hb] at hi
          cases hi
          obtain ⟨r, h1, h2⟩ := Paired.getP hpl hb
          refine if_ (test_ (eq_ (call_ev (eva3 (ev_v rfl) (ev_v rfl) (ev_v rfl)) ⟨p, a, d, v, r, rfl, hp0, hv, lv, sv, h2, l3 r (List.mem_of_getElem? h1), rfl, _, rfl, ?_⟩)))
          by_cases hz : Rb32.dot p v r = 0
          · have e' : decide (V.int ((Rb32.dot p v r : Nat) : Int) = V.int 0) = true := by
              rw [hz]
              rfl
            rw [e']
            have e2 : (ls.all fun l => Rb32.dot p v l != 0) = false := by
              rw [Bool.eq_false_iff]
              intro hh
              have := List.all_eq_true.mp hh r (List.mem_of_getElem? h1)
              rw [hz] at this
              exact absurd this (by decide)
            rw [e2] at q
            exact iteT (ret_ev ev_c q)
          · have e' : decide (V.int ((Rb32.dot p v r : Nat) : Int) = V.int 0) = false := decide_eq_false fun e => hz (by
              have := V.int.inj e
              omega)
            rw [e']
            refine iteF (next_ ⟨rfl, ⟨_, rfl⟩, ?_⟩)
            rw [List.take_succ, h1, List.all_append, ha]
            simpa using hz
      · rintro σ H2 ⟨rfl, ⟨x, rfl⟩, ha⟩
        rw [List.take_of_length_le (by rw [List.length_map, Paired.length hpl]; exact Nat.le_refl _)] at ha
        rw [ha] at q
        exact nx_ (ret_ (ev_c _ q))
/-! more -/
def spMore (K : PySem.W.Frag) : Sp := fun vs H Q _ => ∃ (p n : Nat) (a : Addr) (u : List Nat), vs = [.int p, .int n, .ref a] ∧ p ∈ Fp.primes ∧ RowAt K H a u ∧ u.length = 3 * n ∧ n ≤ 64 ∧ Three (Rb32Neutral.threes n u) ∧
  ∀ l H', H' l = some (.lst [V.int ((moreN p (Rb32Neutral.threes n u) : Nat) : Int)]) → Q (.ref l) H'
theorem scMore : FnScope ["p", "n", "points", "rows", "lines", "v"] ["p", "n", "points"] (defScope sMore) := ⟨rfl, rfl, rfl, by decide +kernel, rfl, by decide +kernel, by decide +kernel⟩
theorem secs_three (p : Nat) (rs : List (List Nat)) (n : Nat) : ∀ r ∈ secs p rs n, r.length = 3 := by
  intro r hr
  unfold secs secsTo at hr
  obtain ⟨k, _, hr⟩ := List.mem_flatMap.mp hr
  obtain ⟨j, _, rfl⟩ := List.mem_map.mp hr
  rfl
theorem ok_more {f fpt fc fp fr fd' fl fa fal fs fcan : Addr} {fd fdpt fdc fdp fdr fdd fdl fda fdal fds fdcan : FuncData} (hrg : mg "range" = none) (hln : mg "len" = none) (D : Dfn K mg "more" sMore ["p", "n", "points"] f fd) (Dpt : Dfn K mg "point" sPoint ["p", "i"] fpt fdpt)
    (Dc : Dfn K mg "cross" sCross ["p", "u", "v"] fc fdc) (Dp : Dfn K mg "product_sum" sDot ["p", "u", "v"] fp fdp) (Dr : Dfn K mg "rows_of_three" sRows ["points"] fr fdr) (Dd : Dfn K mg "all_different" sDiff ["rows"] fd' fdd) (Dl : Dfn K mg "three_on_a_line" sLine ["p", "rows"] fl fdl)
    (Da : Dfn K mg "is_arc" sIsArc ["p", "rows"] fa fda) (Dal : Dfn K mg "all_points" sAll ["p"] fal fdal) (Ds : Dfn K mg "secants" sSecs ["p", "rows"] fs fds) (Dcan : Dfn K mg "can_be_put" sCan ["p", "v", "rows", "lines"] fcan fdcan) :
    FnOk P w K mg base CX0 4 f fd ["p", "n", "points"] (spMore K) := by
  have Gr : FnOk P w K mg base CX0 1 fr fdr ["points"] (spRows K) := ok_rows hrg hln Dr
  have Ga : FnOk P w K mg base CX0 3 fa fda ["p", "rows"] (spArc K) := ok_isarc hrg hln Da Dd Dl Dc Dp
  have Gal : FnOk P w K mg base CX0 2 fal fdal ["p"] (spAll K) := ok_all hrg Dal Dpt
  have Gs : FnOk P w K mg base CX0 2 fs fds ["p", "rows"] (spSecs K) := ok_secs hrg hln Ds Dc
  have Gcan : FnOk P w K mg base CX0 2 fcan fdcan ["p", "v", "rows", "lines"] (spCan K) := ok_can Dcan Dp
  refine D.fn.ok scMore (fun vs H Q E h => ?_) (fun cdv A outer s H vs Q E hr h => ?_)
  · obtain ⟨p, n, a, u, rfl, _⟩ := h
    rfl
  · obtain ⟨p, n, a, u, rfl, hpr, hu, lu, hn, h3, q⟩ := h
    have hp2 := Fp.primes_ge hpr
    have hr2 : Room 2 _ := hr.mono (by decide)
    refine ⟨_, pss_cons (ps_set (i := 3) scMore.nd rfl (Or.inr rfl) (pe_fn Dr Gr (hr.mono (by decide)) (pa_cons (pe_slice (sl_l (K := K) rfl) (pv 2) po_none (po_some (pe_op op_mul pe_int (pv 1)))) pa_nil)))
      (pss_cons (ps_if (pt_not (pt_val (pe_fn Da Ga hr (pa_cons (pv 0) (pa_cons (pv 3) pa_nil))))) (pss_one (ps_ret (pe_lst (pa_cons pe_int pa_nil)))) pss_nil)
      (pss_cons (ps_set (i := 4) scMore.nd rfl (Or.inr rfl) (pe_fn Ds Gs hr2 (pa_cons (pv 0) (pa_cons (pv 3) pa_nil))))
      (pss_one (ps_ret (pe_lst (pa_cons (pe_callB call_len_seq rfl hln PySem.boot_len (pa_cons
        (pe_lc (own := [("v", 5)]) rfl scMore.nd (pi_list (pe_fn Dal Gal hr2 (pa_cons (pv 0) pa_nil))) (blk_ (N := ["p", "n", "points", "rows", "lines", "v"]) (sc := defScope sMore) rfl rfl (by decide +kernel)) (fun _ _ _ _ _ => pg_name (i := 5) scMore.nd rfl (Or.inl rfl))
          (fun _ _ _ _ _ => pts_one (pt_val (pe_fn Dcan Gcan hr2 (pa_cons (pv 0) (pa_cons (pv 5) (pa_cons (pv 3) (pa_cons (pv 4) pa_nil))))))) (fun _ _ _ _ _ => pv 5)) pa_nil)) pa_nil)))))), ?_⟩
    refine seq_ (set_ (cal_ (con_ (sl_ev (ev_v rfl) nopart (part_ev (ev_mul (.inl ⟨by decide, by decide⟩) ev_c (ev_v rfl))) hu fun l hl => nil_ ?_))))
    rw [cut_whole u n lu]
    refine ⟨l, u, n, rfl, RowAt.of upd_same, lu, by omega, fun l2 H2 s2 hR => ?_⟩
    generalize hrs : Rb32Neutral.threes n u = rs at *
    have hrl : rs.length = n := by rw [← hrs, Fp.threes_len]
    refine nx_ (seq_ (if_ (not_ (val_ (call_ev (eva2 (ev_v rfl) (ev_v rfl)) ⟨p, l2, rs, rfl, by omega, hR, h3, by omega, fun H3 s3 => ⟨_, rfl, ?_⟩⟩)))))
    cases hb : Rb32.arc p rs with
    | false =>
      have e : moreN p rs = 0 := by
        unfold moreN
        rw [hb]
        rfl
      rw [e] at q
      exact iteT (ret_ (lst_ev (eva1 ev_c) (by simp) fun l3 h3 => q l3 _ upd_same))
    | true =>
      refine iteF (next_ (nx_ ?_))
      have e : moreN p rs = ((Rb32.points p).filter fun v => canR p v rs (secs p rs rs.length)).length := by
        unfold moreN
        rw [hb]
        rfl
      rw [e] at q
      refine seq_ (set_ (call_ev (eva2 (ev_v rfl) (ev_v rfl)) ⟨p, l2, rs, rfl, by omega, hR.mono s3, h3, by omega, fun l4 H4 s4 hS4 => ?_⟩))
      refine nx_ (ret_ (lst_ (con_ (blt_ (con_ (call_ev (sp := spAll K) (eva1 (ev_v rfl)) ⟨p, rfl, hpr, fun l5 H5 s5 hA5 => ?_⟩))))))
      obtain ⟨as, hL, hpa⟩ := hA5
      have hR5 : RowsAt K H5 l2 rs := (hR.mono s3).mono (s4.trans s5)
      have hS5 : RowsAt K H5 l4 (secs p rs rs.length) := hS4.mono s5
      refine ⟨l5, rfl, ⟨_, hL⟩, fun D hD => ?_⟩
      refine lc_list (K := K) (a := l5) (xs := as.map V.ref) (fun i H6 => Same H5 H6 ∧ ∃ acc : List V, H6 D = some (.lst acc) ∧ acc.length = (((Rb32.points p).take i).filter fun v => canR p v rs (secs p rs rs.length)).length)
        ⟨Same.upd hD, [], upd_same, rfl⟩ (fun i H6 _ ⟨s6, _⟩ => s6.seq hL) ?_ ?_
      · rintro i y H6 hi ⟨s6, acc, hD6, ha⟩
        rw [List.getElem?_map] at hi
        cases hb' : as[i]? with
        | none =>
          rw [hb'] at hi
          cases hi
        | some d =>
          rw [hb'] at hi
          cases hi
          obtain ⟨r, h1, h2⟩ := Paired.getP hpa hb'
          have ip := Fp.points_isPt hpr (List.mem_of_getElem? h1)
          refine ⟨rfl, val_ (call_ev (eva_cons (ev_v rfl) (eva3 (ev_v rfl) (ev_v rfl) (ev_v rfl))) ⟨p, d, l2, l4, r, rs, _, rfl, by omega, h2.mono s6, ip.len, sm_of hp2.2 ip.sm, hR5.mono s6, hS5.mono s6, secs_three _ _ _, _, rfl, ?_⟩)⟩
          have hlt : acc.length < 10000 := by
            rw [ha]
            refine Nat.lt_of_le_of_lt (List.length_filter_le _ _) ?_
            rw [List.length_take, Fp.points_length hpr]
            have : p * p ≤ 61 * 61 := Nat.mul_le_mul hp2.2 hp2.2
            omega
          cases hc : canR p r rs (secs p rs rs.length) with
          | true =>
            refine iteT ⟨_, rfl, acc, hD6, Nat.lt_of_lt_of_le hlt (by decide), Same.upd' s6 hD, acc ++ [V.ref d], upd_same, ?_⟩
            rw [List.take_succ, h1, List.filter_append, List.length_append, List.length_append, ha]
            simp [hc]
          | false =>
            refine iteF ⟨s6, acc, hD6, ?_⟩
            rw [List.take_succ, h1, List.filter_append, List.length_append, ha]
            simp [hc]
      · rintro H6 ⟨s6, acc, hD6, ha⟩
        rw [List.take_of_length_le (by rw [List.length_map, Paired.length hpa]; exact Nat.le_refl _)] at ha
        refine nil_ ⟨D, acc, rfl, .inl (SqL.of hD6), nil_ ⟨(by show 1 ≤ sizeLine; decide), fun l7 h7 => ?_⟩⟩
        rw [ha]
        exact q l7 _ upd_same
end
end FP

namespace FP
open PySem PySem.Spec PyProof.Rows L2
abbrev row : PySem.W.OpenSpec := PySem.Challenge.rw_finiteplanes_s13_more
theorem said : row.wellSaid = true := by decide +kernel
theorem val {p n : Nat} {q : List Int} (hq : q.length = 3 * n) : PyRb32.more p n q = [((moreN p (Rb32Neutral.threes n (nt q)) : Nat) : Int)] := by
  show Rb32.count (Rb32.more (Int.toNat (p : Int)) (Rb32Neutral.pts q)) = _
  rw [pts_of hq, Int.toNat_natCast, ← more_val]
  rfl
theorem ask {p n : Int} {q : List Int} (ha : PyRb32.more_asked p n q = true) : ∃ P m : Nat, p = (P : Int) ∧ n = (m : Int) ∧ P ∈ Fp.primes ∧ m ≤ 64 ∧ q.length = 3 * m ∧ q = (nt q).map (fun (x : Nat) => (x : Int)) ∧ ∀ r ∈ Rb32Neutral.threes m (nt q), Fp.IsPt P r := by
  have ha' : (Rb32Neutral.isPrime p && ((decide (0 ≤ n) && decide (n ≤ 64)) && Rb32Neutral.arePoints p n.toNat q)) = true := ha
  rw [Bool.and_eq_true, Bool.and_eq_true, Bool.and_eq_true, decide_eq_true_eq, decide_eq_true_eq] at ha'
  obtain ⟨h1, ⟨h2, h3⟩, h4⟩ := ha'
  obtain ⟨P, rfl, hP⟩ := prime_of h1
  obtain ⟨m, rfl⟩ : ∃ m : Nat, n = (m : Int) := ⟨n.toNat, by omega⟩
  rw [Int.toNat_natCast] at h4
  obtain ⟨l1, l2, l3⟩ := Fp.points_ok hP m h4
  exact ⟨P, m, rfl, rfl, hP, by omega, l1, cast_small l2, l3⟩
theorem due {args : List PySem.W.WData} (h : row.pre args = true) : ∃ (p n : Nat) (q : List Int), args = ([.inl (p : Int), .inl (n : Int), .inr q] : List (Int ⊕ List Int)).map wd ∧ p ∈ Fp.primes ∧ n ≤ 64 ∧ q.length = 3 * n ∧ q = (nt q).map (fun (x : Nat) => (x : Int)) ∧ (∀ r ∈ Rb32Neutral.threes n (nt q), Fp.IsPt p r) ∧
    row.post args (.list ((PyRb32.more p n q).map .int)) = true := by
  obtain ⟨a, hw, ha, e⟩ := (PySem.W.OpenSpec.pre_iff said args).mp h
  obtain ⟨p, n, q, u⟩ := a
  have hpost := (PySem.W.OpenSpec.post_iff said hw (.list ((PyRb32.more p n q).map .int)) []).mpr rfl
  rw [← e] at hpost
  obtain ⟨P, m, rfl, rfl, hP, hm, l1, l2, l3⟩ := ask ha
  exact ⟨P, m, q, e, hP, hm, l1, l2, l3, hpost⟩
end FP
open PySem PySem.W PyProof.Rows
open L2 (nt row_in nt_len sm_of three_of through_ex taken_ex shares_ne)
open FP (val)
set_option maxRecDepth 100000 in
set_option maxHeartbeats 0 in
theorem PySem.Challenge.cw_finiteplanes_s13_more_holds : PySem.Challenge.rw_finiteplanes_s13_more.Holds := by
  have said := FP.said
  w_on; k_headS; (case hw => exact ⟨[.int 2, .int 0, .list []], by decide +kernel, by decide +kernel⟩)
  k_fillS
  refine L2.walk_spec (r := PySem.Challenge.rw_finiteplanes_s13_more) (k := 4) (ps := ["p", "n", "points"]) rfl ⟨rfl, by decide, by decide⟩ (fun w h Y => PySem.W.kIn_of Y) ?A
  intro args hpre
  obtain ⟨p, n, q, rfl, hP, hn, lq, cq, hpt, hpost⟩ := FP.due hpre
  refine ⟨[.inl (p : Int), .inl (n : Int), .inr q], PyRb32.more p n q, rfl, rfl, fun ns hns => ?_, hpost, fun w mg fa h KX G hmg => ?_⟩
  · have hle : ns.length ≤ 1000 := by
      simp only [List.mem_cons, List.not_mem_nil, or_false, reduceCtorEq, false_or, Sum.inr.injEq] at hns
      first | (subst hns; omega) | (rcases hns with hns | hns <;> (subst hns; omega))
    exact Nat.le_of_lt (L2.small1000 hle)
  · have T_point : ∃ f fd, L2.Dfn (L2.KOf KX) mg "point" FP.sPoint ["p", "i"] f fd := by
      dsimp only [L2.KOf]
      refine' L2.dfn_ex KX G ?a ?l ?c ?k ?b
      (case a => k_is)
      (case l => k_is)
      (case c => k_is)
      (case k => k_is)
      (case b => exact fun _ _ _ _ _ _ us hl => match us, hl with | [_, _], _ => rfl)
    obtain ⟨f_point, fd_point, D_point⟩ := T_point
    have T_cross : ∃ f fd, L2.Dfn (L2.KOf KX) mg "cross" FP.sCross ["p", "u", "v"] f fd := by
      dsimp only [L2.KOf]
      refine' L2.dfn_ex KX G ?a ?l ?c ?k ?b
      (case a => k_is)
      (case l => k_is)
      (case c => k_is)
      (case k => k_is)
      (case b => exact fun _ _ _ _ _ _ us hl => match us, hl with | [_, _, _], _ => rfl)
    obtain ⟨f_cross, fd_cross, D_cross⟩ := T_cross
    have T_product_sum : ∃ f fd, L2.Dfn (L2.KOf KX) mg "product_sum" FP.sDot ["p", "u", "v"] f fd := by
      dsimp only [L2.KOf]
      refine' L2.dfn_ex KX G ?a ?l ?c ?k ?b
      (case a => k_is)
      (case l => k_is)
      (case c => k_is)
      (case k => k_is)
      (case b => exact fun _ _ _ _ _ _ us hl => match us, hl with | [_, _, _], _ => rfl)
    obtain ⟨f_product_sum, fd_product_sum, D_product_sum⟩ := T_product_sum
    have T_rows_of_three : ∃ f fd, L2.Dfn (L2.KOf KX) mg "rows_of_three" FP.sRows ["points"] f fd := by
      dsimp only [L2.KOf]
      refine' L2.dfn_ex KX G ?a ?l ?c ?k ?b
      (case a => k_is)
      (case l => k_is)
      (case c => k_is)
      (case k => k_is)
      (case b => exact fun _ _ _ _ _ _ us hl => match us, hl with | [_], _ => rfl)
    obtain ⟨f_rows_of_three, fd_rows_of_three, D_rows_of_three⟩ := T_rows_of_three
    have T_all_different : ∃ f fd, L2.Dfn (L2.KOf KX) mg "all_different" FP.sDiff ["rows"] f fd := by
      dsimp only [L2.KOf]
      refine' L2.dfn_ex KX G ?a ?l ?c ?k ?b
      (case a => k_is)
      (case l => k_is)
      (case c => k_is)
      (case k => k_is)
      (case b => exact fun _ _ _ _ _ _ us hl => match us, hl with | [_], _ => rfl)
    obtain ⟨f_all_different, fd_all_different, D_all_different⟩ := T_all_different
    have T_three_on_a_line : ∃ f fd, L2.Dfn (L2.KOf KX) mg "three_on_a_line" FP.sLine ["p", "rows"] f fd := by
      dsimp only [L2.KOf]
      refine' L2.dfn_ex KX G ?a ?l ?c ?k ?b
      (case a => k_is)
      (case l => k_is)
      (case c => k_is)
      (case k => k_is)
      (case b => exact fun _ _ _ _ _ _ us hl => match us, hl with | [_, _], _ => rfl)
    obtain ⟨f_three_on_a_line, fd_three_on_a_line, D_three_on_a_line⟩ := T_three_on_a_line
    have T_is_arc : ∃ f fd, L2.Dfn (L2.KOf KX) mg "is_arc" FP.sIsArc ["p", "rows"] f fd := by
      dsimp only [L2.KOf]
      refine' L2.dfn_ex KX G ?a ?l ?c ?k ?b
      (case a => k_is)
      (case l => k_is)
      (case c => k_is)
      (case k => k_is)
      (case b => exact fun _ _ _ _ _ _ us hl => match us, hl with | [_, _], _ => rfl)
    obtain ⟨f_is_arc, fd_is_arc, D_is_arc⟩ := T_is_arc
    have T_all_points : ∃ f fd, L2.Dfn (L2.KOf KX) mg "all_points" FP.sAll ["p"] f fd := by
      dsimp only [L2.KOf]
      refine' L2.dfn_ex KX G ?a ?l ?c ?k ?b
      (case a => k_is)
      (case l => k_is)
      (case c => k_is)
      (case k => k_is)
      (case b => exact fun _ _ _ _ _ _ us hl => match us, hl with | [_], _ => rfl)
    obtain ⟨f_all_points, fd_all_points, D_all_points⟩ := T_all_points
    have T_secants : ∃ f fd, L2.Dfn (L2.KOf KX) mg "secants" FP.sSecs ["p", "rows"] f fd := by
      dsimp only [L2.KOf]
      refine' L2.dfn_ex KX G ?a ?l ?c ?k ?b
      (case a => k_is)
      (case l => k_is)
      (case c => k_is)
      (case k => k_is)
      (case b => exact fun _ _ _ _ _ _ us hl => match us, hl with | [_, _], _ => rfl)
    obtain ⟨f_secants, fd_secants, D_secants⟩ := T_secants
    have T_can_be_put : ∃ f fd, L2.Dfn (L2.KOf KX) mg "can_be_put" FP.sCan ["p", "v", "rows", "lines"] f fd := by
      dsimp only [L2.KOf]
      refine' L2.dfn_ex KX G ?a ?l ?c ?k ?b
      (case a => k_is)
      (case l => k_is)
      (case c => k_is)
      (case k => k_is)
      (case b => exact fun _ _ _ _ _ _ us hl => match us, hl with | [_, _, _, _], _ => rfl)
    obtain ⟨f_can_be_put, fd_can_be_put, D_can_be_put⟩ := T_can_be_put
    have T_more : ∃ f fd, L2.Dfn (L2.KOf KX) mg "more" FP.sMore ["p", "n", "points"] f fd := by
      dsimp only [L2.KOf]
      refine' L2.dfn_ex KX G ?a ?l ?c ?k ?b
      (case a => k_is)
      (case l => k_is)
      (case c => k_is)
      (case k => k_is)
      (case b => exact fun _ _ _ _ _ _ us hl => match us, hl with | [_, _, _], _ => rfl)
    obtain ⟨f_more, fd_more, D_more⟩ := T_more
    have hrg : mg "range" = none := PySem.W.mg_none_of KX G (by k_is)
    have hln : mg "len" = none := PySem.W.mg_none_of KX G (by k_is)
    have e0 := hmg.symm.trans D_more.at_
    cases e0
    refine ⟨_, FP.spMore _, D_more.bd, fun base _ _ => FP.ok_more hrg hln D_more D_point D_cross D_product_sum D_rows_of_three D_all_different D_three_on_a_line D_is_arc D_all_points D_secants D_can_be_put, fun H zs hz => ?_⟩
    match zs, hz with
    | _, .cons z0 (.cons z1 (.cons z2 .nil)) =>
    cases z0
    cases z1
    obtain ⟨a, rfl, hS⟩ := z2
    have hp2 := Fp.primes_ge hP
    refine ⟨p, n, a, nt q, rfl, hP, row_in cq hS, by rw [nt_len, lq], by omega, three_of hp2.2 hpt, fun l H' h' => ⟨l, rfl, ?_⟩⟩
    rw [val lq]
    exact h'
