/- A certified evaluator of closed calls, part P2. -/
import Derived.Test.YthmaejcpadoljaaGreatEvP1
import Derived.Laws.Cells
import Derived.Laws.CopyRow
import Derived.Laws.Rows
namespace Go.Ev
open Go Go.RowKit
set_option linter.unusedVariables false
set_option linter.unusedSimpArgs false

/-- temporaries -/
def TR (E : Env) (t : T AV) (ts : Array Value) : Prop := ∀ k v, t.get k = some v → ∃ x, ts[k]? = some x ∧ Is E v x
inductive EsIs (E : Env) : List (AV × AV × Nat) → List MapEntry → Prop
  | nil : EsIs E [] []
  | cons (k v : AV) (n : Nat) (x y : Value) (l : List (AV × AV × Nat)) (m : List MapEntry) (hk : Is E k x) (hv : Is E v y) (h : EsIs E l m) : EsIs E ((k, v, n) :: l) (⟨x, y, n⟩ :: m)
def DIs (E : Env) (a : ADef) (d : Deferred) : Prop := match a.target with
  | .fn f cap => ∃ g vs ws, d = { target := .fn g ws.toArray, args := vs.toArray } ∧ IsF E f g ∧ IsL E cap ws ∧ IsL E a.args vs
  | .collected b => ∃ r, E.at_ b = some r ∧ d.target = .collected r
inductive DsIs (E : Env) : List ADef → List Deferred → Prop
  | nil : DsIs E [] []
  | cons (a : ADef) (d : Deferred) (l : List ADef) (m : List Deferred) (h : DIs E a d) (hl : DsIs E l m) : DsIs E (a :: l) (d :: m)
def LIs (E : Env) (r : ALoop) (l : Loop) : Prop :=
  l.state = r.state ∧ l.pending = r.pending ∧ l.fn = r.fn ∧ l.params = r.params ∧ l.assign = r.assign ∧ l.body = r.body ∧ r.nt ≤ l.tmps.size ∧ TR E r.tmps l.tmps ∧ E.at_ r.defers = some l.defers
def OIs (P : Program) (E : Env) (b : Nat) (ab : AB) (o : Obj) : Prop := match ab with
  | .cells n c opn e lo hi => ∃ arr, o = .cells arr e (lo, hi) ∧ n ≤ arr.size ∧ (opn = false → arr.size = n) ∧ (opn = true → ∃ sz, size P e = some sz ∧ arr.size = E.cap b * sz) ∧
      ∀ k v, k < n → c.get k = some v → ∃ x, arr[k]? = some x ∧ Is E v x
  | .ro n c => ∃ arr e fz, o = .cells arr e fz ∧ n ≤ arr.size ∧ ∀ k v, k < n → c.get k = some v → ∃ x, arr[k]? = some x ∧ Is E v x
  | .map es cl => ∃ l : List MapEntry, o = .map l.toArray cl ∧ EsIs E es l
  | .loop r => ∃ l, o = .loop l ∧ LIs E r l
  | .defr ds => ∃ l, o = .deferred (some l) ∧ DsIs E ds l
  | .siter s p => o = .stringIter (byts s) p ∧ ∀ x ∈ s, x < 256
  | .miter m since seen st => ∃ r, E.at_ m = some r ∧ o = .mapIter (some r) since seen.toArray st
  | .dead => True

theorem TR.le {E E' : Env} (h : E.le E') {t : T AV} {ts : Array Value} (k : TR E t ts) : TR E' t ts :=
  fun j v e => let ⟨x, a, b⟩ := k j v e; ⟨x, a, b.le h⟩
theorem EsIs.le {E E' : Env} (h : E.le E') : ∀ {l : List (AV × AV × Nat)} {m : List MapEntry}, EsIs E l m → EsIs E' l m
  | _, _, .nil => .nil
  | _, _, .cons k v n x y l m hk hv hl => .cons k v n x y l m (hk.le h) (hv.le h) (hl.le h)
theorem DIs.le {E E' : Env} (h : E.le E') {a : ADef} {d : Deferred} (k : DIs E a d) : DIs E' a d := by
  unfold DIs at *
  split
  · rename_i f cap hf
    simp only [hf] at k
    obtain ⟨g, vs, ws, e, h1, h2, h3⟩ := k
    exact ⟨g, vs, ws, e, h1.le h, h2.le h, h3.le h⟩
  · rename_i b hb
    simp only [hb] at k
    obtain ⟨r, e, h1⟩ := k
    exact ⟨r, h.at_ _ _ e, h1⟩
theorem DsIs.le {E E' : Env} (h : E.le E') : ∀ {l : List ADef} {m : List Deferred}, DsIs E l m → DsIs E' l m
  | _, _, .nil => .nil
  | _, _, .cons a d l m k hl => .cons a d l m (k.le h) (hl.le h)
theorem DsIs.app {E : Env} : ∀ {l : List ADef} {m : List Deferred} {l' : List ADef} {m' : List Deferred}, DsIs E l m → DsIs E l' m' → DsIs E (l ++ l') (m ++ m')
  | _, _, _, _, .nil, h => h
  | _, _, _, _, .cons a d l m k hl, h => .cons a d _ _ k (hl.app h)
theorem LIs.le {E E' : Env} (h : E.le E') {r : ALoop} {l : Loop} (k : LIs E r l) : LIs E' r l := by
  obtain ⟨a, b, c, d, e, f, g, i, j⟩ := k
  exact ⟨a, b, c, d, e, f, g, i.le h, h.at_ _ _ j⟩
theorem OIs.le {P : Program} {E E' : Env} (h : E.le E') {b r : Nat} (hb : E.at_ b = some r) {ab : AB} {o : Obj} (k : OIs P E b ab o) : OIs P E' b ab o := by
  cases ab with
  | cells n c opn e lo hi =>
    obtain ⟨arr, h1, h2, h3, h4, h5⟩ := k
    exact ⟨arr, h1, h2, h3, fun q => by rw [h.cap b r hb]; exact h4 q, fun k v q e => let ⟨x, a, c⟩ := h5 k v q e; ⟨x, a, c.le h⟩⟩
  | ro n c =>
    obtain ⟨arr, e, fz, h1, h2, h5⟩ := k
    exact ⟨arr, e, fz, h1, h2, fun k v q e => let ⟨x, a, c⟩ := h5 k v q e; ⟨x, a, c.le h⟩⟩
  | map es cl => obtain ⟨l, h1, h2⟩ := k; exact ⟨l, h1, h2.le h⟩
  | loop r => obtain ⟨l, h1, h2⟩ := k; exact ⟨l, h1, h2.le h⟩
  | defr ds => obtain ⟨l, h1, h2⟩ := k; exact ⟨l, h1, h2.le h⟩
  | siter s p => exact k
  | miter m since seen st => obtain ⟨r, h1, h2⟩ := k; exact ⟨r, h.at_ _ _ h1, h2⟩
  | dead => trivial

/-- the state: blocks, and the world -/
structure St (P : Program) (w0 : World) (E : Env) (h : T AB) (nx : Nat) (w : World) : Prop where
  below : Below w0.heap.size w0 w
  new : ∀ b, nx ≤ b → E.at_ b = none
  own : ∀ b r ab, E.at_ b = some r → h.get b = some ab → (∃ n c, ab = .ro n c) ∨ w0.heap.size ≤ r
  inj : ∀ b b' r ab ab', E.at_ b = some r → E.at_ b' = some r → h.get b = some ab → h.get b' = some ab' → ab ≠ .dead → ab' ≠ .dead → b = b'
  obj : ∀ b r ab, E.at_ b = some r → h.get b = some ab → ∃ o, w.heap[r]? = some o ∧ OIs P E b ab o
  flat : ∀ k v, E.ov k = some v → v.oneCell' = true
  gl : ∀ g, g < 256 → E.at_ g = some g
  top : ∀ b, nx ≤ b → h.get b = none
/-- what comes later of E, h, nx -/
structure Ext (E : Env) (h : T AB) (nx : Nat) (E' : Env) (h' : T AB) (nx' : Nat) : Prop where
  le : E.le E'
  nle : nx ≤ nx'
  pend : ∀ b, b < nx → E.at_ b = none → E'.at_ b = none ∧ ∀ ab, h'.get b = some ab → h.get b = some ab
theorem Ext.refl (E : Env) (h : T AB) (nx : Nat) : Ext E h nx E h nx := ⟨.refl E, Nat.le_refl _, fun b _ e => ⟨e, fun _ q => q⟩⟩
theorem Ext.trans {E1 E2 E3 : Env} {h1 h2 h3 : T AB} {n1 n2 n3 : Nat} (a : Ext E1 h1 n1 E2 h2 n2) (b : Ext E2 h2 n2 E3 h3 n3) : Ext E1 h1 n1 E3 h3 n3 :=
  ⟨a.le.trans b.le, Nat.le_trans a.nle b.nle, fun k hk e =>
    let ⟨e2, q⟩ := a.pend k hk e
    let ⟨e3, q2⟩ := b.pend k (Nat.lt_of_lt_of_le hk a.nle) e2
    ⟨e3, fun ab x => q ab (q2 ab x)⟩⟩

def Env.upd (E : Env) (b r c : Nat) : Env := { E with at_ := fun k => if k = b then some r else E.at_ k, cap := fun k => if k = b then c else E.cap k }
theorem Env.upd_le (E : Env) {b : Nat} (r c : Nat) (h : E.at_ b = none) : E.le (E.upd b r c) :=
  ⟨fun k q e => by
    have : k ≠ b := fun x => by subst x; rw [h] at e; cases e
    simp [Env.upd, this, e], fun k q e => by
    have : k ≠ b := fun x => by subst x; rw [h] at e; cases e
    simp [Env.upd, this], rfl⟩
@[simp] theorem Env.upd_at (E : Env) (b r c : Nat) : (E.upd b r c).at_ b = some r := by simp [Env.upd]
@[simp] theorem Env.upd_cap (E : Env) (b r c : Nat) : (E.upd b r c).cap b = c := by simp [Env.upd]

variable {P : Program} {w0 : World} {E : Env} {h : T AB} {nx : Nat} {w : World}

theorem St.lt (s : St P w0 E h nx w) {b r : Nat} {ab : AB} (e : E.at_ b = some r) (g : h.get b = some ab) : r < w.heap.size := by
  obtain ⟨o, h1, _⟩ := s.obj b r ab e g
  exact (Array.getElem?_eq_some_iff.1 h1).1
theorem St.size (s : St P w0 E h nx w) : w0.heap.size ≤ w.heap.size := s.below.size

/-- a world that differs in block r alone -/
theorem St.turn (s : St P w0 E h nx w) {b r : Nat} {ab : AB} (hb : E.at_ b = some r) (hr : w0.heap.size ≤ r) (hold : ∃ old, h.get b = some old ∧ old ≠ .dead) {w' : World} {o : Obj}
    (hs : w'.heap.size = w.heap.size) (ho : w'.heap[r]? = some o) (hk : ∀ k, k ≠ r → w'.heap[k]? = w.heap[k]?) (hos : w'.os = w.os) (htp : w'.tape = w.tape) (hou : w'.output = w.output)
    (hab : OIs P E b ab o) : St P w0 E (h.set b ab) nx w' := by
  refine ⟨⟨hos.trans s.below.os, htp.trans s.below.tape, hou.trans s.below.output, by rw [hs]; exact s.below.size, fun k hk' => ?_⟩, s.new, ?_, ?_, ?_, s.flat, s.gl, fun k hk => by rw [T.get_set, if_neg (fun x => by subst x; rw [s.new _ hk] at hb; cases hb)]; exact s.top k hk⟩
  · rw [hk k (by omega)]; exact s.below.block k hk'
  · intro c q cb e1 e2
    rw [T.get_set] at e2
    split at e2
    · rename_i hbc; subst hbc; rw [hb] at e1; cases e1; exact .inr hr
    · exact s.own c q cb e1 e2
  · intro c c' q cb cb' e1 e2 e3 e4 d1 d2
    obtain ⟨old, g1, g2⟩ := hold
    rw [T.get_set] at e3 e4
    split at e3 <;> split at e4
    · rename_i x y; rw [← x, ← y]
    · rename_i x y; subst x; exact s.inj _ _ q _ _ e1 e2 g1 e4 g2 d2
    · rename_i x y; subst y; exact s.inj _ _ q _ _ e1 e2 e3 g1 d1 g2
    · exact s.inj _ _ q _ _ e1 e2 e3 e4 d1 d2
  · intro c q cb e1 e2
    rw [T.get_set] at e2
    split at e2
    · rename_i hbc; subst hbc; rw [hb] at e1; cases e1; cases e2; exact ⟨o, ho, hab⟩
    · rename_i hbc
      obtain ⟨o', g1, g2⟩ := s.obj c q cb e1 e2
      by_cases hq : q = r
      · subst hq
        obtain ⟨old, k1, k2⟩ := hold
        by_cases hd : cb = .dead
        · subst hd; exact ⟨o, ho, trivial⟩
        · exact absurd (s.inj b c q old cb hb e1 k1 e2 k2 hd) hbc
      · exact ⟨o', by rw [hk q hq]; exact g1, g2⟩
theorem Ext.turn (s : St P w0 E h nx w) {b r : Nat} (ab : AB) (hb : E.at_ b = some r) : Ext E h nx E (h.set b ab) nx :=
  ⟨.refl E, Nat.le_refl _, fun k _ e => ⟨e, fun cb q => by
    rw [T.get_set] at q
    split at q
    · rename_i x; subst x; rw [hb] at e; cases e
    · exact q⟩⟩

/-- a new block -/
theorem St.fresh (s : St P w0 E h nx w) (o : Obj) (ab : AB) (c b : Nat) (hb : E.at_ b = none) {nx' : Nat} (hnx : nx ≤ nx') (hbn : b < nx') (hg : ∀ cb, h.get b = some cb → cb = ab) {h' : T AB} (hh : ∀ k cb, h'.get k = some cb → (k = b ∧ cb = ab) ∨ h.get k = some cb)
    (hab : OIs P (E.upd b w.heap.size c) b ab o) : St P w0 (E.upd b w.heap.size c) h' nx' (w.alloc o) := by
  have hle := E.upd_le w.heap.size c hb
  have hsz : (w.alloc o).heap.size = w.heap.size + 1 := (Array.size_push ..)
  have hold : ∀ k, k < w.heap.size → (w.alloc o).heap[k]? = w.heap[k]? := fun k hk => heap_alloc_old w o k hk
  have hat : ∀ k q, (E.upd b w.heap.size c).at_ k = some q → (k = b ∧ q = w.heap.size) ∨ (k ≠ b ∧ E.at_ k = some q) := by
    intro k q e
    by_cases hk : k = b
    · subst hk; simp at e; exact .inl ⟨rfl, e.symm⟩
    · simp only [Env.upd, hk, if_false] at e; exact .inr ⟨hk, e⟩
  have hget : ∀ k cb, h'.get k = some cb → k = b → cb = ab := fun k cb e x => by
    subst x
    rcases hh _ _ e with ⟨_, z⟩ | z
    · exact z
    · exact hg _ z
  have hget2 : ∀ k cb, h'.get k = some cb → k ≠ b → h.get k = some cb := fun k cb e x => by
    rcases hh _ _ e with ⟨z, _⟩ | z
    · exact absurd z x
    · exact z
  refine ⟨s.below.alloc s.below.size o, fun k hk => ?_, fun k q cb e1 e2 => ?_, fun k k' q cb cb' e1 e2 e3 e4 d1 d2 => ?_, fun k q cb e1 e2 => ?_, s.flat, fun g hg' => hle.at_ _ _ (s.gl g hg'), fun k hk => ?_⟩
  · have : k ≠ b := by omega
    simp only [Env.upd, this, if_false]; exact s.new k (by omega)
  · rcases hat k q e1 with ⟨_, rfl⟩ | ⟨x, e⟩
    · exact .inr s.below.size
    · exact s.own k q cb e (hget2 k cb e2 x)
  · rcases hat k q e1 with ⟨rfl, rfl⟩ | ⟨x, e⟩
    · rcases hat k' _ e2 with ⟨rfl, _⟩ | ⟨x', e⟩
      · rfl
      · have := s.lt e (hget2 k' cb' e4 x'); omega
    · rcases hat k' q e2 with ⟨rfl, rfl⟩ | ⟨x', e'⟩
      · have := s.lt e (hget2 k cb e3 x); omega
      · exact s.inj k k' q cb cb' e e' (hget2 k cb e3 x) (hget2 k' cb' e4 x') d1 d2
  · rcases hat k q e1 with ⟨rfl, rfl⟩ | ⟨x, e⟩
    · rw [hget _ cb e2 rfl]
      exact ⟨o, heap_alloc_new w o, hab⟩
    · obtain ⟨o', g1, g2⟩ := s.obj k q cb e (hget2 k cb e2 x)
      exact ⟨o', by rw [hold q (s.lt e (hget2 k cb e2 x))]; exact g1, g2.le hle e⟩
  · cases q : h'.get k with
    | none => rfl
    | some cb =>
      rcases hh k cb q with ⟨x, _⟩ | x
      · omega
      · rw [s.top k (by omega)] at x; cases x
theorem St.alloc (s : St P w0 E h nx w) (o : Obj) (ab : AB) (c : Nat) (hab : OIs P (E.upd nx w.heap.size c) nx ab o) :
    St P w0 (E.upd nx w.heap.size c) (h.set nx ab) (Nat.succ nx) (w.alloc o) ∧ Ext E h nx (E.upd nx w.heap.size c) (h.set nx ab) (Nat.succ nx) := by
  have hn := s.new nx (Nat.le_refl _)
  constructor
  · have := s.fresh o ab c nx hn (nx' := nx + 1) (by omega) (by omega) (h' := h.set nx ab)
    -- an old block of that number is gone
    clear this
    refine St.mk (s.below.alloc s.below.size o) (fun k hk => ?_) (fun k q cb e1 e2 => ?_) (fun k k' q cb cb' e1 e2 e3 e4 d1 d2 => ?_) (fun k q cb e1 e2 => ?_) s.flat (fun g hg' => (E.upd_le w.heap.size c hn).at_ _ _ (s.gl g hg')) (fun k hk => by rw [T.get_set, if_neg (by simp only [Nat.succ_eq_add_one] at hk; omega)]; exact s.top k (by simp only [Nat.succ_eq_add_one] at hk; omega))
    · have : k ≠ nx := by simp only [Nat.succ_eq_add_one] at hk; omega
      simp only [Env.upd, this, if_false]; exact s.new k (by simp only [Nat.succ_eq_add_one] at hk; omega)
    · by_cases hk : k = nx
      · subst hk; simp at e1; subst e1; exact .inr s.below.size
      · simp only [Env.upd, hk, if_false] at e1
        rw [T.get_set, if_neg (fun x => hk x.symm)] at e2
        exact s.own k q cb e1 e2
    · by_cases hk : k = nx
      · subst hk; simp at e1; subst e1
        by_cases hk' : k' = k
        · exact hk'.symm
        · simp only [Env.upd, hk', if_false] at e2
          rw [T.get_set, if_neg (fun x => hk' x.symm)] at e4
          have := s.lt e2 e4; omega
      · simp only [Env.upd, hk, if_false] at e1
        rw [T.get_set, if_neg (fun x => hk x.symm)] at e3
        by_cases hk' : k' = nx
        · subst hk'; simp at e2; subst e2; have := s.lt e1 e3; omega
        · simp only [Env.upd, hk', if_false] at e2
          rw [T.get_set, if_neg (fun x => hk' x.symm)] at e4
          exact s.inj k k' q cb cb' e1 e2 e3 e4 d1 d2
    · by_cases hk : k = nx
      · subst hk; simp at e1; subst e1
        rw [T.get_set, if_pos rfl] at e2
        cases e2
        exact ⟨o, heap_alloc_new w o, hab⟩
      · simp only [Env.upd, hk, if_false] at e1
        rw [T.get_set, if_neg (fun x => hk x.symm)] at e2
        obtain ⟨o', g1, g2⟩ := s.obj k q cb e1 e2
        exact ⟨o', by rw [heap_alloc_old w o q (s.lt e1 e2)]; exact g1, g2.le (E.upd_le _ c hn) e1⟩
  · refine ⟨E.upd_le _ c hn, Nat.le_succ _, fun k hk e => ⟨?_, fun cb q => ?_⟩⟩
    · have : k ≠ nx := by omega
      simp only [Env.upd, this, if_false]; exact e
    · rw [T.get_set, if_neg (by omega)] at q; exact q
/-- a block that is told of ahead -/
theorem St.tell (s : St P w0 E h nx w) (ab : AB) : St P w0 E (h.set nx ab) (Nat.succ nx) w := by
  have hn := s.new nx (Nat.le_refl _)
  have key : ∀ k r cb, E.at_ k = some r → (h.set nx ab).get k = some cb → h.get k = some cb := fun k r cb e q => by
    rw [T.get_set] at q
    split at q
    · rename_i x; subst x; rw [hn] at e; cases e
    · exact q
  exact ⟨s.below, fun b hb => s.new b (Nat.le_trans (Nat.le_succ _) hb), fun b r cb e q => s.own b r cb e (key b r cb e q), fun b b' r cb cb' e1 e2 q1 q2 d1 d2 => s.inj b b' r cb cb' e1 e2 (key b r cb e1 q1) (key b' r cb' e2 q2) d1 d2,
    fun b r cb e q => s.obj b r cb e (key b r cb e q), s.flat, s.gl, fun b hb => by
      rw [T.get_set, if_neg (by simp only [Nat.succ_eq_add_one] at hb; omega)]; exact s.top b (Nat.le_trans (Nat.le_succ _) hb)⟩
/-- a state that knows less -/
theorem St.sub (s : St P w0 E h nx w) {h0 : T AB} (hs : ∀ b ab, h0.get b = some ab → h.get b = some ab) : St P w0 E h0 nx w :=
  ⟨s.below, s.new, fun b r cb e q => s.own b r cb e (hs _ _ q), fun b b' r cb cb' e1 e2 q1 q2 d1 d2 => s.inj b b' r cb cb' e1 e2 (hs _ _ q1) (hs _ _ q2) d1 d2, fun b r cb e q => s.obj b r cb e (hs _ _ q), s.flat, s.gl, fun b hb => by
    cases q : h0.get b with
    | none => rfl
    | some cb => have := hs _ _ q; rw [s.top b hb] at this; cases this⟩
theorem St.drew (s : St P w0 E h nx w) : St P w0 E h nx w.drew :=
  ⟨s.below.drew, s.new, s.own, s.inj, s.obj, s.flat, s.gl, s.top⟩
end Go.Ev
