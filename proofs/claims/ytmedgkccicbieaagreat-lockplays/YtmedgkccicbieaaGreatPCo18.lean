/- coord: rows of lists that are made one by one; all ways to take one of each. · coord: Under. -/
import Derived.Test.YtmedgkccicbieaaGreatPTk
import Derived.Test.YtmedgkccicbieaaGreatPCo16
import Derived.Test.YtmedgkccicbieaaGreatPRefDims10
namespace Go.Proofs.YtmedgkccicbieaaGreat
open Go.RowKit Go.Maps Go.Shelf
set_option linter.unusedSimpArgs false
set_option linter.unusedVariables false

def lsK (f : Nat → List Int) (j : Nat) : List (List Int) := (List.range j).map f
theorem lsK_len (f : Nat → List Int) (j : Nat) : (lsK f j).length = j := by simp [lsK]
theorem lsK_get (f : Nat → List Int) {j k : Nat} (h : k < j) : (lsK f j).getD k [] = f k := by simp [lsK, List.getD, h]
def lsV (f : Nat → List Int) (nv : Nat → Option Addr × Nat) (j : Nat) : List Value := (List.range j).map fun k => .slice (nv k).1 (f k).length (nv k).2
def OwnL (w : World) (B : Nat) (v : Value) (f : Nat → List Int) (j : Nat) (nv : Nat → Option Addr × Nat) : Prop :=
  w.ownsRow B 52 1 v j (lsV f nv j) ∧ ∀ k, k < j → Sl .i64 w (nv k).1 (f k).length (f k) ∧ ∀ ad, (nv k).1 = some ad → B ≤ ad.block ∧ ad.block < w.heap.size ∧ v.ownBlock ≠ some ad.block
theorem ownL_nil (w : World) (B : Nat) (f : Nat → List Int) (nv : Nat → Option Addr × Nat) : OwnL w B (.slice none 0 0) f 0 nv := ⟨World.ownsRow_nil _ _ _ _, fun k hk => absurd hk (by omega)⟩
theorem OwnL.kept {w y : World} {B : Nat} {v : Value} {f : Nat → List Int} {j : Nat} {nv : Nat → Option Addr × Nat} (h : OwnL w B v f j nv) (g : Kept w y) : OwnL y B v f j nv :=
  ⟨ownsRow_kept h.1 g, fun k hk => ⟨(h.2 k hk).1.kept g, fun ad e => ⟨((h.2 k hk).2 ad e).1, Nat.lt_of_lt_of_le ((h.2 k hk).2 ad e).2.1 g.size, ((h.2 k hk).2 ad e).2.2⟩⟩⟩
theorem OwnL.lt {w : World} {B : Nat} {v : Value} {f : Nat → List Int} {j : Nat} {nv : Nat → Option Addr × Nat} (h : OwnL w B v f j nv) : ∀ g, v.ownBlock = some g → B ≤ g ∧ g < w.heap.size := World.ownsRow.lt h.1
theorem OwnL.form {w : World} {B : Nat} {v : Value} {f : Nat → List Int} {j : Nat} {nv : Nat → Option Addr × Nat} (h : OwnL w B v f j nv) : ∃ a c, v = .slice a j c := by
  obtain ⟨_, ⟨h1, hz⟩ | ⟨g, cap, cur, h1, _⟩⟩ := h.1
  · exact ⟨none, 0, by rw [h1]; have : j = 0 := by simpa using hz
                       rw [this]⟩
  · exact ⟨_, _, h1⟩
theorem OwnL.lls {w : World} {B : Nat} {a : Option Addr} {c : Nat} {f : Nat → List Int} {j : Nat} {nv : Nat → Option Addr × Nat} (h : OwnL w B (.slice a j c) f j nv) (h4 : j ≤ 4) : Lls w a j (lsK f j) nv := by
  refine ⟨lsK_len f j, h4, fun k hk => by rw [lsK_get f hk]; exact (h.2 k hk).1, fun hp => ?_⟩
  obtain ⟨g, cap, e, _, _⟩ := h.1.form hp
  cases e
  refine ⟨g, 0, rfl, fun k hk => ?_⟩
  rw [Nat.zero_add, h.1.cellAt k (by omega), lsK_get f hk]
  simp [lsV, hk]
theorem linfo : ∃ i0, Tryz.prog.info? 52 = some i0 ∧ i0.zero = some (.slice none 0 0) ∧ i0.size = 1 ∧ i0.bytes = 24 := by
  have h : (Tryz.prog.info? 52).map (fun i => (i.zero, i.size, i.bytes)) = some (some (.slice none 0 0), 1, 24) := by kernel_rfl
  exact info_parts h
theorem ownL_next {w w' : World} {B : Nat} {v : Value} {f : Nat → List Int} {j : Nat} {nv : Nat → Option Addr × Nat} (hv : OwnL w B v f j nv) (va : Option Addr) (vc : Nat) (hsl : Sl .i64 w va (f j).length (f j)) (hfr : ∀ ad, va = some ad → B ≤ ad.block ∧ ad.block < w.heap.size ∧ v.ownBlock ≠ some ad.block) {g' cap : Nat}
    (h2 : w'.ownsRow B 52 1 (.slice (some ⟨g', 0, none⟩) (j + 1) cap) (j + 1) (lsV f nv j ++ [.slice va (f j).length vc])) (h3 : Chg (fun k => v.ownBlock = some k) w w') (h4 : v.ownBlock = some g' ∨ g' = w.heap.size) : OwnL w' B (.slice (some ⟨g', 0, none⟩) (j + 1) cap) f (j + 1) (fun k => if k = j then (va, vc) else nv k) := by
  have hne : ∀ ad : Addr, ad.block < w.heap.size → v.ownBlock ≠ some ad.block → (Value.slice (some ⟨g', 0, none⟩) (j + 1) cap).ownBlock ≠ some ad.block := fun ad hlt hn e => by
    simp only [Value.ownBlock, Option.some.injEq] at e
    rcases h4 with h4 | h4
    · rw [h4] at hn; exact hn (by rw [e])
    · omega
  refine ⟨?_, fun k hk => ?_⟩
  · have e : lsV f (fun k => if k = j then (va, vc) else nv k) (j + 1) = lsV f nv j ++ [.slice va (f j).length vc] := by
      unfold lsV
      rw [List.range_succ, List.map_append]
      congr 1
      · apply List.map_congr_left
        intro k hk
        rw [List.mem_range] at hk
        have e : ¬ k = j := by omega
        simp only [if_neg e]
      · simp
    rw [e]
    exact h2
  · by_cases e : k = j
    · subst e
      simp only [if_true]
      exact ⟨hsl.chg h3 (fun _ ad had e => (hfr ad had).2.2 e), fun ad had => ⟨(hfr ad had).1, Nat.lt_of_lt_of_le (hfr ad had).2.1 h3.size, hne ad (hfr ad had).2.1 (hfr ad had).2.2⟩⟩
    · simp only [if_neg e]
      have hk' : k < j := by omega
      obtain ⟨s1, s2⟩ := hv.2 k hk'
      exact ⟨s1.chg h3 (fun _ ad had e => (s2 ad had).2.2 e), fun ad had => ⟨(s2 ad had).1, Nat.lt_of_lt_of_le (s2 ad had).2.1 h3.size, hne ad (s2 ad had).2.1 (s2 ad had).2.2⟩⟩
theorem step_pushL {ops : Array Oper} {o : Oper} {a : Act} {K : Act → World → Prop} {Q : Exit → Act → World → Prop} {E : Prop} (w : World) (hgd : o.guard = none) (s x : Operand)
    (ho : o.op = .call { callee := .builtin .append, args := #[s, x], argTypes := #[103, 103] })
    (B : Nat) (v : Value) (f : Nat → List Int) (j : Nat) (nv : Nat → Option Addr × Nat) (hs : a.eval s = v) (hv : OwnL w B v f j nv) (hB : B ≤ w.heap.size) (g : Nat) (va : Option Addr) (vc : Nat) (hx : a.eval x = .slice (some ⟨g, 0, none⟩) 1 1) (hcell : w.cell? ⟨g, 0, none⟩ = some (.slice va (f j).length vc))
    (hsl : Sl .i64 w va (f j).length (f j)) (hfr : ∀ ad, va = some ad → B ≤ ad.block ∧ ad.block < w.heap.size ∧ v.ownBlock ≠ some ad.block) (hj : j ≤ 1000)
    (h : ∀ g' cap w', OwnL w' B (.slice (some ⟨g', 0, none⟩) (j + 1) cap) f (j + 1) (fun k => if k = j then (va, vc) else nv k) → Chg (fun k => v.ownBlock = some k) w w' → K (a.put o.dst (.slice (some ⟨g', 0, none⟩) (j + 1) cap)) w') :
    if Region.wanted o (yielded ops a.tmps) = true then Oper.wp Tryz.prog o a w K Q else E := by
  obtain ⟨i0, hi0, hz0, hz1, hz2⟩ := linfo
  refine step_append_lies w hgd s x 103 ho B 52 i0 (.slice none 0 0) 1 24 Tryz.underlying103 hi0 hz0 hz1 hz2 rfl (by decide) v _ _ hs hv.1 ⟨g, 0, none⟩ 1 1 [.slice va (f j).length vc] hx rfl (one_news hcell) (by intro u hu; simp at hu; subst hu; rfl) (by omega) (by unfold maxLen; omega) (by omega) hB w.heap.size rfl ?_
  intro g' cap w' h2 h3 h4 h5
  have hc : Chg (fun k => v.ownBlock = some k) w w' := (Chg.refl _ w).grown h3 (fun k hk => .inl hk)
  exact h g' cap w' (ownL_next hv va vc hsl hfr h2 hc h4) hc
theorem step_pushN {ops : Array Oper} {o : Oper} {a : Act} {K : Act → World → Prop} {Q : Exit → Act → World → Prop} {E : Prop} (w : World) (hgd : o.guard = none) (s x : Operand)
    (ho : o.op = .call { callee := .builtin .append, args := #[s, x], argTypes := #[52, 52] })
    (B : Nat) (v : Value) (l : List Int) (hs : a.eval s = v) (hv : OwnI w B v l) (hB : B ≤ w.heap.size) (g : Nat) (y : Int) (hx : a.eval x = .slice (some ⟨g, 0, none⟩) 1 1) (hcell : w.cell? ⟨g, 0, none⟩ = some (.int .i64 y))
    (h47 : (l.length + 1) * 8 ≤ 140737488355328)
    (h : ∀ g' cap w', OwnI w' B (.slice (some ⟨g', 0, none⟩) (l.length + 1) cap) (l ++ [y]) → Chg (fun k => v.ownBlock = some k) w w' → (v.ownBlock = some g' ∨ g' = w.heap.size) → g' < w'.heap.size → K (a.put o.dst (.slice (some ⟨g', 0, none⟩) (l.length + 1) cap)) w') :
    if Region.wanted o (yielded ops a.tmps) = true then Oper.wp Tryz.prog o a w K Q else E := by
  obtain ⟨i0, hi0, hz0, hz1, hz2⟩ := iinfo
  refine step_append_lies w hgd s x 52 ho B 3 i0 (.int .i64 0) 1 8 Tryz.underlying52 hi0 hz0 hz1 hz2 rfl (by decide) v _ _ hs hv ⟨g, 0, none⟩ 1 1 [.int .i64 y] hx rfl (cell_news hcell) (by intro u hu; simp at hu; subst hu; rfl) (by omega) (by unfold maxLen; omega) (by omega) hB w.heap.size rfl ?_
  intro g' cap w' h2 h3 h4 h5
  refine h g' cap w' ?_ ((Chg.refl _ w).grown h3 (fun k hk => .inl hk)) h4 h5
  unfold OwnI
  simpa using h2
theorem prods_le : ∀ (ls : List (List Int)), (∀ l, l ∈ ls → l.length ≤ 60) → (prods ls).length ≤ 60 ^ ls.length := by
  intro ls
  induction ls with
  | nil => intro _; simp [prods]
  | cons l r ih =>
    intro h
    have h1 := ih (fun x hx => h x (by simp [hx]))
    have h2 := h l (by simp)
    simp only [prods, List.length_flatMap, List.length_map, List.length_cons]
    have e : ∀ m : List Int, (m.map fun _ => (prods r).length).sum = m.length * (prods r).length := fun m => by
      induction m with
      | nil => simp
      | cons a m ihm => simp only [List.map_cons, List.sum_cons, ihm, List.length_cons, Nat.add_mul, Nat.one_mul]; omega
    rw [e, Nat.pow_succ, Nat.mul_comm]
    exact Nat.mul_le_mul h1 h2
theorem prods_small {ls : List (List Int)} (h : ∀ l, l ∈ ls → l.length ≤ 60) (h4 : ls.length ≤ 4) : (prods ls).length ≤ 12960000 := by
  have h1 := prods_le ls h
  have h2 : 60 ^ ls.length ≤ 60 ^ 4 := Nat.pow_le_pow_right (by omega) h4
  have h3 : (60 : Nat) ^ 4 = 12960000 := by decide
  omega
theorem prods_mem : ∀ (ls : List (List Int)) (x : List Int), x ∈ prods ls ↔ x.length = ls.length ∧ ∀ k, k < ls.length → x.getD k 0 ∈ ls.getD k [] := by
  intro ls
  induction ls with
  | nil => intro x; simp only [prods, List.mem_singleton, List.length_nil]; constructor
           · intro h; subst h; exact ⟨rfl, fun k hk => absurd hk (by omega)⟩
           · intro h; exact List.eq_nil_of_length_eq_zero h.1
  | cons l r ih =>
    intro x
    simp only [prods, List.mem_flatMap, List.mem_map]
    constructor
    · rintro ⟨v, hv, t, ht, rfl⟩
      obtain ⟨h1, h2⟩ := (ih t).1 ht
      refine ⟨by simp [h1], fun k hk => ?_⟩
      cases k with
      | zero => simpa using hv
      | succ k => have := h2 k (by simpa using hk); simpa using this
    · rintro ⟨h1, h2⟩
      cases x with
      | nil => simp at h1
      | cons v t =>
        refine ⟨v, by have := h2 0 (by simp); simpa using this, t, (ih t).2 ⟨by simpa using h1, fun k hk => ?_⟩, rfl⟩
        have := h2 (k + 1) (by simpa using hk)
        simpa using this
theorem prods_at {f : Nat → List Int} {j : Nat} {x : List Int} (h : x ∈ prods (lsK f j)) : (∀ k, k < j → at4 x k ∈ f k) ∧ ∀ k, j ≤ k → at4 x k = 0 := by
  obtain ⟨h1, h2⟩ := (prods_mem _ _).1 h
  rw [lsK_len] at h1 h2
  refine ⟨fun k hk => ?_, fun k hk => ?_⟩
  · have := h2 k hk
    rw [lsK_get f hk] at this
    exact this
  · unfold at4
    rw [List.getD_eq_getElem?_getD, List.getElem?_eq_none (by omega)]
    rfl
theorem pre_mem {α : Type} {pre xs : List α} {x : α} (h : pre ++ [x] <+: xs) : x ∈ xs ∧ pre.length < xs.length := by
  obtain ⟨t, ht⟩ := h
  rw [← ht]
  simp
def spanL (ds : List Dm) (at_ : Nat → Int) (k : Nat) : List Int := rngI (fromI (dmL ds k) (at_ k)) (toI (dmL ds k) (at_ k) - fromI (dmL ds k) (at_ k)).toNat
theorem span_bound (l : List Nd) (i : Int) : (0 ≤ fromI l i ∧ fromI l i ≤ (lvsN l).length) ∧ 0 ≤ toI l i ∧ toI l i ≤ (lvsN l).length := by
  unfold fromI toI
  by_cases h : isP l i
  · rw [if_pos h, if_pos h]
    have h1 : spFrom l i ≤ (lvsN l).length := List.findIdx_le_length
    have h2 : ((lvsN l).drop (spFrom l i)).findIdx (fun x => !inB l i x) ≤ ((lvsN l).drop (spFrom l i)).length := List.findIdx_le_length
    rw [List.length_drop] at h2
    unfold spTo
    omega
  · rw [if_neg h, if_neg h]
    omega
theorem rngI_mem {f : Int} {m : Nat} {x : Int} : x ∈ rngI f m ↔ f ≤ x ∧ x < f + m := by
  unfold rngI
  simp only [List.mem_map, List.mem_range]
  constructor
  · rintro ⟨k, hk, rfl⟩; omega
  · rintro ⟨h1, h2⟩; exact ⟨(x - f).toNat, by omega, by omega⟩
theorem spanL_mem {ds : List Dm} {at_ : Nat → Int} {k : Nat} {x : Int} : x ∈ spanL ds at_ k ↔ fromI (dmL ds k) (at_ k) ≤ x ∧ x < toI (dmL ds k) (at_ k) := by
  unfold spanL
  rw [rngI_mem]
  omega
def undL (ms : List ByteArray) (ds : List Dm) (cm : Int) (at_ : Nat → Int) : List Int := if rightB ms ds cm at_ = true then (prods (lsK (spanL ds at_) ds.length)).map fun x => numK (fun k => leas ds k) (at4 x) cm 4 else []
structure UJ {α : Type} (N : Nat) (WA : World) (code : α → Int) (pre : List α) (X : World) : Prop where
  kp : Kept WA X
  sz : WA.heap.size + N ≤ X.heap.size
  bx : ∃ v, X.cell? ⟨WA.heap.size, 0, none⟩ = some v ∧ OwnI X (WA.heap.size + N) v (pre.map code)
  fz : X.frozen? ⟨WA.heap.size, 0, none⟩ = false
theorem UJ.chg {α : Type} {N : Nat} {WA X Y : World} {code : α → Int} {pre : List α} {S : Nat → Prop} (h : UJ N WA code pre X) (k : Chg S X Y) (hS : ∀ j, S j → WA.heap.size < j ∧ j < WA.heap.size + N) : UJ N WA code pre Y := by
  obtain ⟨v, h1, h2⟩ := h.bx
  have n0 : ¬ S WA.heap.size := fun e => by have := hS _ e; omega
  exact ⟨Chg.kept h.kp k (fun j e => by have := hS j e; omega), Nat.le_trans h.sz k.size, ⟨v, k.cellp h1 n0, h2.chg k (fun g hg e => by have h3 := hS g e; have h4 := (h2.lt g hg).1; omega)⟩, (k.frozen (p := ⟨WA.heap.size, 0, none⟩) (cell_lt h1) n0).trans h.fz⟩
theorem UJ.keep {α : Type} {N : Nat} {WA X Y : World} {code : α → Int} {pre : List α} (h : UJ N WA code pre X) (k : Kept X Y) : UJ N WA code pre Y := h.chg (S := fun _ => False) (Chg.of_kept k) (fun _ e => e.elim)
theorem chg_put (X : World) (b : Nat) (o : Obj) : Chg (fun j => j = b) X (X.putObj b o) := ⟨rfl, rfl, rfl, by rw [World.putObj_size]; exact Nat.le_refl _, fun j hj hb => World.putObj_heap_other hb⟩
theorem UJ.put {α : Type} {N : Nat} {WA X : World} {code : α → Int} {pre : List α} {b : Nat} {o : Obj} (h : UJ N WA code pre X) (hb : WA.heap.size < b ∧ b < WA.heap.size + N) : UJ N WA code pre (X.putObj b o) := h.chg (chg_put X b o) (fun j e => by subst e; exact hb)
theorem UJ.next {α : Type} {N : Nat} (hN : 0 < N) {WA X Y Z : World} {code : α → Int} {pre : List α} {x : α} (h : UJ N WA code pre X) (k : Kept X Y) {v : Value} (hv : X.cell? ⟨WA.heap.size, 0, none⟩ = some v) (hg : Chg (fun g => v.ownBlock = some g) Y Z) {v' : Value} (ho : OwnI Z (WA.heap.size + N) v' (pre.map code ++ [code x])) : UJ N WA code (pre ++ [x]) (Z.setCell ⟨WA.heap.size, 0, none⟩ v') ∧ Chg (fun j => j = WA.heap.size ∨ WA.heap.size + N ≤ j) X (Z.setCell ⟨WA.heap.size, 0, none⟩ v') := by
  obtain ⟨v0, h1, h2⟩ := h.bx
  rw [h1] at hv
  obtain rfl : v0 = v := by simpa using hv
  have e0 := k.cellp h1
  have hb : ∀ g, v0.ownBlock = some g → WA.heap.size + N ≤ g := fun g e => (h2.lt g e).1
  have n0 : ¬ v0.ownBlock = some WA.heap.size := fun e => by have := hb _ e; omega
  have c1 : Chg (fun j => j = WA.heap.size ∨ WA.heap.size + N ≤ j) X Z := (Chg.of_kept k).trans (hg.mono (fun j hj e => .inr (hb j e)))
  have c2 : Chg (fun j => j = WA.heap.size ∨ WA.heap.size + N ≤ j) X (Z.setCell ⟨WA.heap.size, 0, none⟩ v') := c1.setCell (p := ⟨WA.heap.size, 0, none⟩) (.inl (.inl rfl)) _
  have z0 := hg.cellp e0 n0
  have f0 : Z.frozen? ⟨WA.heap.size, 0, none⟩ = false := ((hg.frozen (p := ⟨WA.heap.size, 0, none⟩) (cell_lt e0) n0).trans (k.frozen (p := ⟨WA.heap.size, 0, none⟩) (cell_lt h1))).trans h.fz
  refine ⟨⟨Chg.kept h.kp c2 (fun j e => by omega), Nat.le_trans h.sz c2.size, ⟨v', World.cell?_setCell_same _ _ _ z0, ?_⟩, by rw [World.frozen?_setCell]; exact f0⟩, c2⟩
  rw [List.map_append, List.map_singleton]
  refine ho.chg (S := fun j => j = WA.heap.size) (Chg.setCell (S := fun j => j = WA.heap.size) (Chg.refl _ Z) (p := ⟨WA.heap.size, 0, none⟩) (.inl rfl) _) (fun g hg' e => ?_)
  have := (ho.lt g hg').1
  omega
def UndP (w : World) (l : List Int) (e : Ending) (w' : World) : Prop := ∃ v, e = .returned v ∧ OwnI w' w.heap.size v l ∧ Kept w w'
end Go.Proofs.YtmedgkccicbieaaGreat
namespace Go.Proofs.YtmedgkccicbieaaGreat
open Go.RowKit Go.Maps Go.Shelf
set_option linter.unusedSimpArgs false
set_option linter.unusedVariables false
attribute [local go_sem] Oper.semAt_some

theorem ownB {w : World} {B n c : Nat} {ad : Addr} {f : Nat → List Int} {nv : Nat → Option Addr × Nat} (h : OwnL w B (.slice (some ad) n c) f n nv) : (Value.slice (some ad) n c).ownBlock = some ad.block := by
  obtain ⟨_, ⟨h1, hz⟩ | ⟨g, cap, cur, h1, _⟩⟩ := h.1
  · cases h1
  · cases h1; rfl
theorem block_only {F : Fence} {n b : Nat} {P : Program} {c : Code} {K : Act → World → Prop} {Q : Exit → Act → World → Prop} {a : Act} {w : World} (h : c.wpIn F n P (Exit.inBlock b (Exit.then K (fun _ _ _ => False))) a w) : c.wpIn F n P (Exit.inBlock b (Exit.then K Q)) a w :=
  Go.wpIn_mono h (fun e a w h => by
    cases e with
    | exit id =>
      simp only [Exit.inBlock] at h ⊢
      by_cases hi : id = b
      · rw [if_pos hi] at h ⊢; exact h
      · rw [if_neg hi] at h; exact h.elim
    | normal => exact h
    | ret => exact h.elim
    | goto t => exact h.elim
    | panic c => exact h.elim
    | outgrown => exact h.elim)
def noDefer (ops : Array Oper) : Bool := ops.toList.all fun o => match o.op with
  | .defer _ => false
  | _ => true
theorem noDefer_spec {ops : Array Oper} (h : noDefer ops = true) : ∀ o ∈ ops.toList, ∀ c, o.op ≠ .defer c := fun o ho c e => by
  have := List.all_eq_true.1 h o ho
  rw [e] at this
  cases this
section
variable {w : World} {s p : Nat} {ds : List Dm} {ms : List ByteArray} {tp : Nat → Nat} {rv : Nat → Option Addr × Nat}
set_option maxHeartbeats 8000000 in
set_option maxRecDepth 100000 in
theorem sw_Under (h : SW w s p ds ms tp rv) (cm : Int) (at_ : Nat → Int) : Calls Tryz.prog 63 #[.pointer (some ⟨s, 0, none⟩), cellV cm at_] w (UndP w (undL ms ds cm at_)) := by
  obtain ⟨sb, hsb⟩ : ∃ x, x = w.heap.size := ⟨_, rfl⟩
  obtain ⟨cb, hcb⟩ : ∃ x, x = w.heap.size + 1 := ⟨_, rfl⟩
  obtain ⟨W1, hW1⟩ : ∃ X, X = (w.alloc (.cells #[.pointer (some ⟨s, 0, none⟩)] 30)).alloc (.cells #[.int .i64 cm, .int .i64 (at_ 0), .int .i64 (at_ 1), .int .i64 (at_ 2), .int .i64 (at_ 3)] 29) := ⟨_, rfl⟩
  have k1 : Kept w W1 := by rw [hW1]; exact ((Kept.refl w).alloc _).alloc _
  have HSB := hidMk (show W1.cell? ⟨sb, 0, none⟩ = some (.pointer (some ⟨s, 0, none⟩)) from by rw [hW1]; exact ((Kept.refl _).alloc _).cellp (new_cell _ _ _ _ 0 _ hsb rfl))
  have HCC := hidMk (show W1.cell? ⟨cb, 0, none⟩ = some (.int .i64 cm) ∧ W1.cell? ⟨cb, 1, none⟩ = some (.int .i64 (at_ 0)) ∧ W1.cell? ⟨cb, 2, none⟩ = some (.int .i64 (at_ 1)) ∧ W1.cell? ⟨cb, 3, none⟩ = some (.int .i64 (at_ 2)) ∧ W1.cell? ⟨cb, 4, none⟩ = some (.int .i64 (at_ 3)) from by
    have hcb' : cb = (w.alloc (.cells #[.pointer (some ⟨s, 0, none⟩)] 30)).heap.size := by rw [World.size_alloc]; exact hcb
    rw [hW1]; exact ⟨new_cell _ _ _ _ 0 _ hcb' rfl, new_cell _ _ _ _ 1 _ hcb' rfl, new_cell _ _ _ _ 2 _ hcb' rfl, new_cell _ _ _ _ 3 _ hcb' rfl, new_cell _ _ _ _ 4 _ hcb' rfl⟩)
  have HCA := hidMk (show ∀ k, k < 4 → W1.cell? ⟨cb, 1 + k, none⟩ = some (.int .i64 (at_ k)) from fun k hk => by
    have : k = 0 ∨ k = 1 ∨ k = 2 ∨ k = 3 := by omega
    rcases this with rfl | rfl | rfl | rfl
    · exact HCC.out.2.1
    · exact HCC.out.2.2.1
    · exact HCC.out.2.2.2.1
    · exact HCC.out.2.2.2.2)
  have HDM := hidMk (fun X (kX : Kept W1 X) => sw_Dims (h.keep (k1.trans kX)))
  have HRT := hidMk (fun X (kX : Kept W1 X) => sw_Right (h.keep (k1.trans kX)) cm at_)
  have HCN := hidMk (fun X (kX : Kept W1 X) => (h.keep (k1.trans kX)).counts.2)
  have HC0 := hidMk (fun X (kX : Kept W1 X) => (h.keep (k1.trans kX)).sp.c0)
  have HMN := hidMk (fun X (kX : Kept W1 X) => callsIn_wide (n := 2).2 (sw_Many (h.keep (k1.trans kX))))
  have HTR := hidMk (fun X (kX : Kept W1 X) k (hk : k < ds.length) => sw_Tree (h.keep (k1.trans kX)) hk)
  have HSN := hidMk (fun X (kX : Kept W1 X) k (hk : k < ds.length) => w_Span ((h.keep (k1.trans kX)).whole hk) (at_ k))
  have HTG := hidMk (fun a n c w => callsIn_wide (n := 2).2 (coord_together a n c w))
  have HNM := hidMk (fun (x : List Int) (hr : rightB ms ds cm at_ = true) (hx : ∀ k, 0 ≤ at4 x k ∧ at4 x k ≤ 1000) X => coord_number (fun k => leas ds k) (at4 x) cm (right_bounds h hr).1 (fun k => leas_bound h k) hx X)
  have H4 := hidMk h.d4
  have HL6 := hidMk h.l60
  have HK1 := hidMk k1
  have HLEN := hidMk (show ∀ l, l ∈ lsK (spanL ds at_) ds.length → l.length ≤ 60 from fun l hl => by
    simp only [lsK, List.mem_map, List.mem_range] at hl
    obtain ⟨k, hk, rfl⟩ := hl
    have h1 := span_bound (dmL ds k) (at_ k)
    have h2 := h.l60 k hk
    unfold spanL
    rw [rngI_len]
    omega)
  have HXB := hidMk (show ∀ x, x ∈ prods (lsK (spanL ds at_) ds.length) → ∀ k, 0 ≤ at4 x k ∧ at4 x k ≤ 1000 from fun x hx k => by
    obtain ⟨p1, p2⟩ := prods_at hx
    by_cases e : k < ds.length
    · have h1 := spanL_mem.1 (p1 k e)
      have h2 := span_bound (dmL ds k) (at_ k)
      have h3 := h.l60 k e
      omega
    · rw [p2 k (by omega)]; omega)
  unfold cellV at *
  unfold arr4 at HNM
  dsimp only at HNM
  clear h k1
  obtain ⟨ul, hul⟩ : ∃ l, l = undL ms ds cm at_ := ⟨_, rfl⟩
  have HUL := hidMk hul
  rw [← hul]
  clear hul
  refine (callsIn_wide (n := 3)).1 ?_
  refine callsIn_of_wp_marks Tryz.func63 rfl trivial ?_ rfl
  simp only [Tryz.ntmps63, List.size_toArray, List.length_cons, List.length_nil, Nat.reduceAdd, Nat.reduceSub, Array.replicate_succ, Array.replicate_zero, List.push_toArray, List.append_toArray, List.nil_append, List.cons_append]
  gi_wp2
  rw [← hW1, ← hcb, ← hsb]
  clear hW1 hcb hsb
  refine then_only ?_
  refine wpIn_wide.2 ?_
  refine wp_region_held_drew (S := (fun w' => Kept W1 w')) (by kernel_rfl) ?_ (fun hHeld => ?_)
  · exact (Kept.refl W1).drew
  refine tkL 0 9 (v := ?_) rfl ?_ ?_
  rotate_left
  · (intro w9 hSw; have s0 := hSw.cellp HSB.out; obtain ⟨c0, c1, c2, c3, c4⟩ := HCC.out; have c0 := hSw.cellp c0; have c1 := hSw.cellp c1; have c2 := hSw.cellp c2; have c3 := hSw.cellp c3; have c4 := hSw.cellp c4; clear hSw; go_simp; (try with_reducible rfl))
  (try simp only [tkS])
  refine tkL 2 11 (v := ?_) rfl ?_ ?_
  rotate_left
  · (intro w9 hSw; have s0 := hSw.cellp HSB.out; obtain ⟨c0, c1, c2, c3, c4⟩ := HCC.out; have c0 := hSw.cellp c0; have c1 := hSw.cellp c1; have c2 := hSw.cellp c2; have c3 := hSw.cellp c3; have c4 := hSw.cellp c4; clear hSw; go_simp; (try with_reducible rfl))
  (try simp only [tkS])
  refine wpAnyH_ready (rs := [1]) (by kernel_rfl) (by simp) ?_
  refine AllReadyH.cons (o := ⟨some 10, _, _, _, _, _⟩) rfl (fun K hK => ?_) AllReadyH.nil
  go_simp
  refine (HDM.out _ hHeld).mono ?_
  rintro e w3 ⟨rfl, hw3⟩
  rw [hw3]
  clear hw3 w3
  (try go_wp2_with fail)
  refine hK.out _ _ ?_ (fun hHeld => ?_)
  · (first | exact HKR.out | assumption)
  clear hK K
  (try simp only [tkS])
  refine wpAnyH_ready (rs := [3]) (by kernel_rfl) (by simp) ?_
  refine AllReadyH.cons (o := ⟨some 12, _, _, _, _, _⟩) rfl (fun K hK => ?_) AllReadyH.nil
  go_simp
  refine (HRT.out _ hHeld).mono ?_
  rintro e wR ⟨rfl, kR⟩
  have HKR := hidMk (hHeld.trans kR)
  clear kR
  (try go_wp2_with fail)
  refine hK.out _ _ ?_ (fun hHeld => ?_)
  · (first | exact HKR.out | assumption)
  clear hK K
  (try simp only [tkS])
  refine tkL 4 13 (v := ?_) rfl ?_ ?_
  rotate_left
  · (intro w9 hSw; have s0 := hSw.cellp HSB.out; obtain ⟨c0, c1, c2, c3, c4⟩ := HCC.out; have c0 := hSw.cellp c0; have c1 := hSw.cellp c1; have c2 := hSw.cellp c2; have c3 := hSw.cellp c3; have c4 := hSw.cellp c4; clear hSw; go_simp; (try with_reducible rfl))
  (try simp only [tkS])
  refine wpAnyH_done (by kernel_rfl) ?_ _
  clear hHeld
  cases hr : rightB ms ds cm at_ with
  | false =>
    gi_wp2
    have := HUL.out
    unfold undL at this
    rw [hr] at this
    rw [this]
    exact ⟨_, results_tmp rfl _ _ _, _, rfl, ownI_nil _ _, HK1.out.trans HKR.out⟩
  | true =>
    have c0 := HC0.out wR HKR.out
    have s0 := HKR.out.cellp HSB.out
    gi_wp2
    refine ⟨trivial, ?_⟩
    refine (HMN.out _ HKR.out).mono ?_
    rintro e w2 ⟨rfl, hw2⟩
    rw [hw2]
    clear hw2 w2 c0 s0
    gi_wp2
    refine block_only ?_
    refine wpIn_wide.2 ?_
    go_loopg [5, 19] (ds.length + 1) (fun gg sv x wr => ∃ (j : Nat) (nv : Nat → Option Addr × Nat), j + gg = ds.length + 1 ∧ j ≤ ds.length ∧ x = .int .i64 j ∧ Hid (OwnL wr W1.heap.size sv (spanL ds at_) j nv ∧ Kept W1 wr))
    case atStart => exact ⟨0, fun _ => (none, 0), by omega, by omega, rfl, hidMk ⟨ownL_nil _ _ _ _, HKR.out⟩⟩
    case round =>
      clear HKR
      obtain ⟨j, nv, hjg, hjd, rfl, HS⟩ := hrel
      have HG := hidMk hjg
      clear hjg
      by_cases hj : j < ds.length
      · have hj' : (j : Int) < (ds.length : Int) := by omega
        have hj4 : (j : Int) < 4 := by have := H4.out; omega
        have hjn : j < 4 := by omega
        obtain ⟨ra, rc, hsv⟩ := HS.out.1.form
        subst hsv
        have HKD0 := hidMk HS.out.2.drew
        have HCJ := hidMk (HCA.out j hjn)
        have HT2 := hidMk (fun X kX => HTR.out X kX j hj)
        have HS2 := hidMk (fun X kX => HSN.out X kX j hj)
        have HLJ := hidMk (show (spanL ds at_ j).length ≤ maxLen from by have := HLEN.out _ (show spanL ds at_ j ∈ lsK (spanL ds at_) ds.length from by simp only [lsK, List.mem_map, List.mem_range]; exact ⟨j, hj, rfl⟩); unfold maxLen; omega)
        have HN2 := hidMk (show ∀ X, Calls Tryz.prog 106 #[.int .i64 (fromI (dmL ds j) (at_ j)), .int .i64 (toI (dmL ds j) (at_ j))] X fun e w' => ∃ v, e = .returned v ∧ OwnI w' X.heap.size v (spanL ds at_ j) ∧ Kept X w' from fun X => by
          have h1 := span_bound (dmL ds j) (at_ j)
          have h2 := HL6.out j hj
          exact coord_numbers _ _ (by omega) (by omega) X)
        generalize fromI (dmL ds j) (at_ j) = fr at *
        generalize toI (dmL ds j) (at_ j) = tu at *
        generalize at_ j = aj at HCJ HS2
        go_upto_region 7 with fail
        refine wp_region_held_drew (S := (fun w' => Kept W1 w')) (by kernel_rfl) ?_ (fun hHeld => ?_)
        · exact HKD0.out
        refine tkL 0 22 (v := ?_) rfl ?_ ?_
        rotate_left
        · (intro w9 hSw; have s0 := hSw.cellp HSB.out; have c0 := HC0.out w9 hSw; have cj := hSw.cellp HCJ.out; clear hSw; go_simp; (try with_reducible rfl))
        (try simp only [tkS])
        refine tkL 1 23 (v := ?_) rfl ?_ ?_
        rotate_left
        · (intro w9 hSw; have s0 := hSw.cellp HSB.out; have c0 := HC0.out w9 hSw; have cj := hSw.cellp HCJ.out; clear hSw; go_simp; (try with_reducible rfl))
        (try simp only [tkS])
        refine tkL 2 24 (v := ?_) rfl ?_ ?_
        rotate_left
        · (intro w9 hSw; have s0 := hSw.cellp HSB.out; have c0 := HC0.out w9 hSw; have cj := hSw.cellp HCJ.out; clear hSw; go_simp; (try with_reducible rfl))
        (try simp only [tkS])
        refine tkL 3 25 (v := ?_) rfl ?_ ?_
        rotate_left
        · (intro w9 hSw; have s0 := hSw.cellp HSB.out; have c0 := HC0.out w9 hSw; have cj := hSw.cellp HCJ.out; clear hSw; go_simp; (try with_reducible rfl))
        (try simp only [tkS])
        refine tkL 4 26 (v := ?_) rfl ?_ ?_
        rotate_left
        · (intro w9 hSw; have s0 := hSw.cellp HSB.out; have c0 := HC0.out w9 hSw; have cj := hSw.cellp HCJ.out; clear hSw; go_simp; (try with_reducible rfl))
        (try simp only [tkS])
        refine tkL 5 27 (v := ?_) rfl ?_ ?_
        rotate_left
        · (intro w9 hSw; have s0 := hSw.cellp HSB.out; have c0 := HC0.out w9 hSw; have cj := hSw.cellp HCJ.out; clear hSw; go_simp; (try with_reducible rfl))
        (try simp only [tkS])
        refine tkL 7 29 (v := ?_) rfl ?_ ?_
        rotate_left
        · (intro w9 hSw; have s0 := hSw.cellp HSB.out; have c0 := HC0.out w9 hSw; have cj := hSw.cellp HCJ.out; clear hSw; go_simp; (try with_reducible rfl))
        (try simp only [tkS])
        refine tkL 8 30 (v := ?_) rfl ?_ ?_
        rotate_left
        · (intro w9 hSw; have s0 := hSw.cellp HSB.out; have c0 := HC0.out w9 hSw; have cj := hSw.cellp HCJ.out; clear hSw; go_simp; (try with_reducible rfl))
        (try simp only [tkS])
        refine tkL 9 31 (v := ?_) rfl ?_ ?_
        rotate_left
        · (intro w9 hSw; have s0 := hSw.cellp HSB.out; have c0 := HC0.out w9 hSw; have cj := hSw.cellp HCJ.out; clear hSw; go_simp; (try with_reducible rfl))
        (try simp only [tkS])
        refine tkL 10 32 (v := ?_) rfl ?_ ?_
        rotate_left
        · (intro w9 hSw; have s0 := hSw.cellp HSB.out; have c0 := HC0.out w9 hSw; have cj := hSw.cellp HCJ.out; clear hSw; go_simp; (try with_reducible rfl))
        (try simp only [tkS])
        refine wpAnyH_ready (rs := [6]) (by kernel_rfl) (by simp) ?_
        refine AllReadyH.cons (o := ⟨some 28, _, _, _, _, _⟩) rfl (fun K hK => ?_) AllReadyH.nil
        go_simp
        refine (HT2.out _ HKD0.out).mono ?_
        rintro e w3 ⟨rfl, hw3⟩
        rw [hw3]
        clear hw3 w3
        (try go_wp2_with fail)
        refine hK.out _ _ ?_ (fun hHeld => ?_)
        · (first | exact HKP.out | exact HKN.out.alloc _ | exact HKN.out | exact HKS.out | exact HKD0.out)
        clear hK K
        (try simp only [tkS])
        refine wpAnyH_ready (rs := [11]) (by kernel_rfl) (by simp) ?_
        refine AllReadyH.cons (o := ⟨some 33, _, _, _, _, _⟩) rfl (fun K hK => ?_) AllReadyH.nil
        go_simp
        refine (HS2.out _ HKD0.out).mono ?_
        rintro e wS ⟨rfl, kS⟩
        have HKS := hidMk (HKD0.out.trans kS)
        have HKS0 := hidMk kS
        clear kS
        (try go_wp2_with fail)
        refine hK.out _ _ ?_ (fun hHeld => ?_)
        · (first | exact HKP.out | exact HKN.out.alloc _ | exact HKN.out | exact HKS.out | exact HKD0.out)
        clear hK K
        (try simp only [tkS])
        refine tkL 12 34 (v := ?_) rfl ?_ ?_
        rotate_left
        · (intro w9 hSw; have s0 := hSw.cellp HSB.out; have c0 := HC0.out w9 hSw; have cj := hSw.cellp HCJ.out; clear hSw; go_simp; (try with_reducible rfl))
        (try simp only [tkS])
        refine tkL 13 35 (v := ?_) rfl ?_ ?_
        rotate_left
        · (intro w9 hSw; have s0 := hSw.cellp HSB.out; have c0 := HC0.out w9 hSw; have cj := hSw.cellp HCJ.out; clear hSw; go_simp; (try with_reducible rfl))
        (try simp only [tkS])
        refine wpAnyH_ready (rs := [14]) (by kernel_rfl) (by simp) ?_
        refine AllReadyH.cons (o := ⟨some 36, _, _, _, _, _⟩) rfl (fun K hK => ?_) AllReadyH.nil
        go_simp
        refine (HN2.out _).mono ?_
        rintro e wN ⟨v, rfl, hoN, kN⟩
        obtain ⟨na, nc, hna, hns⟩ := hoN.sl HLJ.out
        subst hna
        have HNS := hidMk hns
        have HNF := hidMk (show ∀ ad, na = some ad → wS.heap.size ≤ ad.block ∧ ad.block < wN.heap.size from fun ad had => by subst had; exact hoN.lt ad.block (by first | rfl | exact ownB hoN))
        have HKN := hidMk (HKS.out.trans kN)
        have HKN0 := hidMk (HKS0.out.trans kN)
        clear hns hoN kN
        (try go_wp2_with fail)
        refine hK.out _ _ ?_ (fun hHeld => ?_)
        · (first | exact HKP.out | exact HKN.out.alloc _ | exact HKN.out | exact HKS.out | exact HKD0.out)
        clear hK K
        (try simp only [tkS])
        refine wpAnyH_ready (rs := [15]) (by kernel_rfl) (by simp) ?_
        refine AllReadyH.cons (o := ⟨some 37, _, _, _, _, _⟩) rfl (fun K hK => ?_) AllReadyH.nil
        go_simp
        refine hK.out _ _ ?_ (fun hHeld => ?_)
        · (first | exact HKP.out | exact HKN.out.alloc _ | exact HKN.out | exact HKS.out | exact HKD0.out)
        clear hK K
        (try simp only [tkS])
        refine wpAnyH_ready (rs := [16]) (by kernel_rfl) (by simp) ?_
        refine AllReadyH.cons (o := ⟨some 38, _, _, _, _, _⟩) rfl (fun K hK => ?_) AllReadyH.nil
        refine step_pushL _ (by rfl) _ _ (by rfl) W1.heap.size (.slice ra j rc) (spanL ds at_) j nv (by rfl) (HS.out.1.kept ((((Kept.refl wr).drew).trans HKN0.out).alloc _)) (by have := HKN.out.size; rw [World.size_alloc]; omega) wN.heap.size na nc (by rfl) (new_cell _ _ _ _ 0 _ rfl rfl) (HNS.out.kept ((Kept.refl wN).alloc _)) (fun ad had => ?_) (by omega) ?_
        · have h1 := HNF.out ad had
          have h2 := HKS0.out.size
          have h3 := HKS.out.size
          refine ⟨by omega, by rw [World.size_alloc]; omega, fun e => ?_⟩
          have h4 := (HS.out.1.lt _ e).2
          have h5 : wr.drew.heap.size = wr.heap.size := rfl
          omega
        intro g' cap wP hoP cP
        have HOP := hidMk hoP
        have HKP := hidMk (Chg.kept (HKN.out.alloc _) cP (fun k e => (HS.out.1.lt k e).1))
        clear hoP cP
        refine hK.out _ _ ?_ (fun hHeld => ?_)
        · (first | exact HKP.out | exact HKN.out.alloc _ | exact HKN.out | exact HKS.out | exact HKD0.out)
        clear hK K
        (try simp only [tkS])
        refine tkL 17 5 (v := ?_) rfl ?_ ?_
        rotate_left
        · (intro w9 hSw; have s0 := hSw.cellp HSB.out; have c0 := HC0.out w9 hSw; have cj := hSw.cellp HCJ.out; clear hSw; go_simp; (try with_reducible rfl))
        (try simp only [tkS])
        refine wpAnyH_done (by kernel_rfl) ?_ _
        clear hHeld
        go_wp2_with fail
        go_roundg (gk - 1)
        case measure => have := HG.out; omega
        case rel => exact ⟨j + 1, _, by have := HG.out; omega, by omega, by go_num, hidMk ⟨HOP.out, HKP.out⟩⟩
      · have hje : j = ds.length := by omega
        subst hje
        obtain ⟨ra, rc, hsv⟩ := HS.out.1.form
        subst hsv
        go_wp2_with fail
        obtain ⟨bx, hbx⟩ : ∃ x, x = wr.heap.size := ⟨_, rfl⟩
        obtain ⟨W0, hW0⟩ : ∃ X, X = (wr.alloc (.cells #[.slice none 0 0] 52)).alloc (.cells #[.slice ra ds.length rc] 103) := ⟨_, rfl⟩
        have HS0 := hidMk (show W0.heap.size = bx + 2 from by rw [hW0, hbx]; simp)
        have HW0 := hidMk (show Kept wr W0 from by rw [hW0]; exact ((Kept.refl wr).alloc _).alloc _)
        have HBC := hidMk (show W0.cell? ⟨bx, 0, none⟩ = some (.slice none 0 0) ∧ W0.frozen? ⟨bx, 0, none⟩ = false ∧ W0.cell? ⟨bx + 1, 0, none⟩ = some (.slice ra ds.length rc) from by
          have c0 : (wr.alloc (.cells #[.slice none 0 0] 52)).cell? ⟨bx, 0, none⟩ = some (.slice none 0 0) := new_cell _ _ _ _ 0 _ hbx rfl
          rw [hW0]
          exact ⟨((Kept.refl _).alloc _).cellp c0, (((Kept.refl _).alloc _).frozen (p := ⟨bx, 0, none⟩) (cell_lt c0)).trans (new_frozen _ _ _ hbx 0), new_cell _ _ _ _ 0 _ (by rw [hbx, World.size_alloc]) rfl⟩)
        have HBW := hidMk hbx
        gi_wp2
        refine ⟨trivial, ?_⟩
        refine (HTG.out _ _ _ _).mono ?_
        rintro e w1 ⟨rfl, hw1⟩
        rw [← hW0] at hw1
        rw [hw1]
        clear hw1 w1 hW0
        rw [World.size_alloc]
        rw [← hbx]
        clear hbx
        obtain ⟨code, hcode⟩ : ∃ f : List Int → Int, f = fun x => numK (fun k => leas ds k) (at4 x) cm 4 := ⟨_, rfl⟩
        have HU0 := hidMk (show ∀ Y, Kept W0 Y → wr.heap.size + 7 ≤ Y.heap.size → UJ 7 wr code [] Y from fun Y kY hY => by
          rw [HBW.out] at HBC
          exact ⟨HW0.out.trans kY, hY, ⟨_, kY.cellp HBC.out.1, ownI_nil _ _⟩, (kY.frozen (p := ⟨wr.heap.size, 0, none⟩) (cell_lt HBC.out.1)).trans HBC.out.2.1⟩)
        have HCD := hidMk hcode
        clear hcode
        gi_wp2
        refine range_su (n := 1) (gf := 139) (lb := #[.pointer (some ⟨bx + 1, 0, none⟩)]) (by rfl) (enters_of Tryz.func139 (by kernel_rfl) rfl) (encs := fun x : List Int => #[.agg #[.int .i64 (at4 x 0), .int .i64 (at4 x 1), .int .i64 (at4 x 2), .int .i64 (at4 x 3)]]) (fun _ => rfl) (prods (lsK (spanL ds at_) ds.length))
          (fun pre X => UJ 7 wr code pre X) (fun X Y => Chg (fun j => (j = wr.heap.size ∨ j = wr.heap.size + 3) ∨ wr.heap.size + 7 ≤ j) X Y) (fun pre X o h _ => h.put (by have := HS0.out; have := HBW.out; omega)) (fun X o _ => (chg_put X _ o).mono (fun j _ e => .inl (.inr (by have := HS0.out; have := HBW.out; omega)))) (fun h k => h.trans k) ?_ ?_ ?_
        · intro R R' pre x X hJ hpre hR
          have HXX := hidMk (HXB.out x (pre_mem hpre).1)
          have HPL := hidMk (show pre.length < 12960000 from by have h1 := (pre_mem hpre).2; have h2 := prods_small HLEN.out (by rw [lsK_len]; exact H4.out); omega)
          have HR := hidMk hR
          have HJ := hidMk hJ
          clear hpre hR hJ
          gi_wp2
          obtain ⟨ab, hab⟩ : ∃ x, x = X.heap.size := ⟨_, rfl⟩
          obtain ⟨X1, hX1⟩ : ∃ V, V = X.alloc (.cells #[.int .i64 (at4 x 0), .int .i64 (at4 x 1), .int .i64 (at4 x 2), .int .i64 (at4 x 3)] 27) := ⟨_, rfl⟩
          have HAT := hidMk (show X1.cell? ⟨ab, 0, none⟩ = some (.int .i64 (at4 x 0)) ∧ X1.cell? ⟨ab, 1, none⟩ = some (.int .i64 (at4 x 1)) ∧ X1.cell? ⟨ab, 2, none⟩ = some (.int .i64 (at4 x 2)) ∧ X1.cell? ⟨ab, 3, none⟩ = some (.int .i64 (at4 x 3)) from by
            rw [hX1]; exact ⟨new_cell _ _ _ _ 0 _ hab rfl, new_cell _ _ _ _ 1 _ hab rfl, new_cell _ _ _ _ 2 _ hab rfl, new_cell _ _ _ _ 3 _ hab rfl⟩)
          have HX1 := hidMk (show Kept X X1 from by rw [hX1]; exact (Kept.refl X).alloc _)
          rw [← hX1, ← hab]
          have HAB := hidMk hab
          clear hX1 hab
          refine ⟨HJ.out.keep HX1.out, Chg.of_kept HX1.out, ⟨(HX1.out.block _ ((Array.getElem?_eq_some_iff.1 HR.out.1).1)).trans HR.out.1, (HX1.out.block _ ((Array.getElem?_eq_some_iff.1 HR.out.2).1)).trans HR.out.2⟩, ?_⟩
          have HY := hidMk ((HJ.out.keep HX1.out).put (b := W0.heap.size + 1) (o := R') (by have := HS0.out; have := HBW.out; omega))
          have HRY := hidMk (show Recs W0.heap.size R' (X1.putObj (W0.heap.size + 1) R') from ⟨World.putObj_heap_same (by have h1 := (Array.getElem?_eq_some_iff.1 HR.out.1).1; have h2 := HX1.out.size; omega), (World.putObj_heap_other (by omega)).trans ((HX1.out.block _ ((Array.getElem?_eq_some_iff.1 HR.out.2).1)).trans HR.out.2)⟩)
          have HNE := hidMk (show ab ≠ W0.heap.size + 1 from by have h1 := (Array.getElem?_eq_some_iff.1 HR.out.1).1; have h2 := HAB.out; omega)
          have HAY := hidMk (show (X1.putObj (W0.heap.size + 1) R').cell? ⟨ab, 0, none⟩ = some (.int .i64 (at4 x 0)) ∧ (X1.putObj (W0.heap.size + 1) R').cell? ⟨ab, 1, none⟩ = some (.int .i64 (at4 x 1)) ∧ (X1.putObj (W0.heap.size + 1) R').cell? ⟨ab, 2, none⟩ = some (.int .i64 (at4 x 2)) ∧ (X1.putObj (W0.heap.size + 1) R').cell? ⟨ab, 3, none⟩ = some (.int .i64 (at4 x 3)) from
            ⟨(put_cell HNE.out).trans HAT.out.1, (put_cell HNE.out).trans HAT.out.2.1, (put_cell HNE.out).trans HAT.out.2.2.1, (put_cell HNE.out).trans HAT.out.2.2.2⟩)
          obtain ⟨v, hv, ho⟩ := HJ.out.bx
          have hpl : (pre.map code).length = pre.length := by simp
          obtain ⟨va, vc, hvv, _⟩ := ho.sl (by rw [hpl]; have := HPL.out; unfold maxLen; omega)
          rw [hpl] at hvv
          subst hvv
          have HOL := hidMk (show ∀ g, (Value.slice va pre.length vc).ownBlock = some g → wr.heap.size + 7 ≤ g ∧ g < ab from fun g hg => by
            have h3 := ho.lt g hg
            have h4 := HAB.out
            omega)
          have HV := hidMk (show (X1.putObj (W0.heap.size + 1) R').cell? ⟨wr.heap.size, 0, none⟩ = some (.slice va pre.length vc) from (put_cell (by have := HS0.out; have := HBW.out; omega)).trans (HX1.out.cellp hv))
          have HO := hidMk (show OwnI (X1.putObj (W0.heap.size + 1) R') (wr.heap.size + 7) (.slice va pre.length vc) (pre.map code) from by
            obtain ⟨v', hv', ho'⟩ := HY.out.bx
            rw [HV.out] at hv'
            have e : Value.slice va pre.length vc = v' := by simpa using hv'
            rw [e]; exact ho')
          generalize X1.putObj (W0.heap.size + 1) R' = Y at *
          clear hv ho hpl
          have HYL := hidMk (show ab < Y.heap.size from cell_lt HAY.out.1)
          have HRD := hidMk (show ∀ w9, Chg (fun j => j = wr.heap.size ∨ (Value.slice va pre.length vc).ownBlock = some j) Y w9 → w9.cell? ⟨sb, 0, none⟩ = some (.pointer (some ⟨s, 0, none⟩)) ∧ w9.cell? ⟨cb, 0, none⟩ = some (.int .i64 cm) ∧ (w9.cell? ⟨ab, 0, none⟩ = some (.int .i64 (at4 x 0)) ∧ w9.cell? ⟨ab, 1, none⟩ = some (.int .i64 (at4 x 1)) ∧ w9.cell? ⟨ab, 2, none⟩ = some (.int .i64 (at4 x 2)) ∧ w9.cell? ⟨ab, 3, none⟩ = some (.int .i64 (at4 x 3))) ∧
              (w9.cell? ⟨s, 6, none⟩ = some (.int .i64 (leas ds 0)) ∧ w9.cell? ⟨s, 7, none⟩ = some (.int .i64 (leas ds 1)) ∧ w9.cell? ⟨s, 8, none⟩ = some (.int .i64 (leas ds 2)) ∧ w9.cell? ⟨s, 9, none⟩ = some (.int .i64 (leas ds 3))) from fun w9 hc => by
            have k9 : Kept W1 w9 := Chg.kept (HS.out.2.trans HY.out.kp) hc (fun j e => by
              have h1 := HS.out.2.size
              rcases e with e | e
              · omega
              · have := (HOL.out j e).1; omega)
            have na : ¬ (ab = wr.heap.size ∨ (Value.slice va pre.length vc).ownBlock = some ab) := fun e => by
              rcases e with e | e
              · have h1 := HAB.out; have h2 := HJ.out.sz; omega
              · have := (HOL.out ab e).2; omega
            exact ⟨k9.cellp HSB.out, k9.cellp HCC.out.1, ⟨hc.cellp HAY.out.1 na, hc.cellp HAY.out.2.1 na, hc.cellp HAY.out.2.2.1 na, hc.cellp HAY.out.2.2.2 na⟩, HCN.out w9 k9⟩)
          have HN2 := hidMk (fun X => HNM.out x hr HXX.out X)
          have HBX := hidMk (show ∀ Z, Kept Y Z → Z.cell? ⟨wr.heap.size, 0, none⟩ = some (.slice va pre.length vc) from fun Z k => k.cellp HV.out)
          have HCX := hidMk (show numK (fun k => leas ds k) (at4 x) cm 4 = code x from by rw [HCD.out])
          rw [HCX.out] at HN2
          have HD0 := hidMk (show Chg (fun j => j = wr.heap.size ∨ (Value.slice va pre.length vc).ownBlock = some j) Y Y.drew from (Chg.refl _ Y).drew)
          have hbw := HBW.out
          subst hbw
          generalize at4 x 0 = x0 at *
          generalize at4 x 1 = x1 at *
          generalize at4 x 2 = x2 at *
          generalize at4 x 3 = x3 at *
          generalize hcx : code x = cx at *
          generalize (leas ds 0 : Nat) = n0 at *
          generalize (leas ds 1 : Nat) = n1 at *
          generalize (leas ds 2 : Nat) = n2 at *
          generalize (leas ds 3 : Nat) = n3 at *
          refine wpIn_block ?_
          refine round_region_held (S := (fun w' => Chg (fun j => j = wr.heap.size ∨ (Value.slice va pre.length vc).ownBlock = some j) Y w')) (by kernel_rfl) (noDefer_spec (by kernel_rfl)) (by rintro ⟨a, w, h⟩; cases h.1) ?_ (fun hHeld => ?_)
          · exact HD0.out
          refine tkL 1 44 (v := ?_) rfl ?_ ?_
          rotate_left
          · (intro w9 hSw; obtain ⟨r0, r1, ⟨a0, a1, a2, a3⟩, q0, q1, q2, q3⟩ := HRD.out w9 hSw; clear hSw; go_simp; (try with_reducible rfl))
          (try simp only [tkS])
          refine tkL 2 45 (v := ?_) rfl ?_ ?_
          rotate_left
          · (intro w9 hSw; obtain ⟨r0, r1, ⟨a0, a1, a2, a3⟩, q0, q1, q2, q3⟩ := HRD.out w9 hSw; clear hSw; go_simp; (try with_reducible rfl))
          (try simp only [tkS])
          refine tkL 3 46 (v := ?_) rfl ?_ ?_
          rotate_left
          · (intro w9 hSw; obtain ⟨r0, r1, ⟨a0, a1, a2, a3⟩, q0, q1, q2, q3⟩ := HRD.out w9 hSw; clear hSw; go_simp; (try with_reducible rfl))
          (try simp only [tkS])
          refine tkL 4 47 (v := ?_) rfl ?_ ?_
          rotate_left
          · (intro w9 hSw; obtain ⟨r0, r1, ⟨a0, a1, a2, a3⟩, q0, q1, q2, q3⟩ := HRD.out w9 hSw; clear hSw; go_simp; (try with_reducible rfl))
          (try simp only [tkS])
          refine tkL 5 48 (v := ?_) rfl ?_ ?_
          rotate_left
          · (intro w9 hSw; obtain ⟨r0, r1, ⟨a0, a1, a2, a3⟩, q0, q1, q2, q3⟩ := HRD.out w9 hSw; clear hSw; go_simp; (try with_reducible rfl))
          (try simp only [tkS])
          refine tkL 6 49 (v := ?_) rfl ?_ ?_
          rotate_left
          · (intro w9 hSw; obtain ⟨r0, r1, ⟨a0, a1, a2, a3⟩, q0, q1, q2, q3⟩ := HRD.out w9 hSw; clear hSw; go_simp; (try with_reducible rfl))
          (try simp only [tkS])
          refine tkL 7 50 (v := ?_) rfl ?_ ?_
          rotate_left
          · (intro w9 hSw; obtain ⟨r0, r1, ⟨a0, a1, a2, a3⟩, q0, q1, q2, q3⟩ := HRD.out w9 hSw; clear hSw; go_simp; (try with_reducible rfl))
          (try simp only [tkS])
          refine wpAnyH_ready (rs := [0, 8]) (by kernel_rfl) (by simp) ?_
          refine (AllReadyH.cons (o := ⟨some 43, _, _, _, _, _⟩) rfl (fun K hK => ?_) (AllReadyH.cons (o := ⟨some 51, _, _, _, _, _⟩) rfl (fun K hK => ?_) AllReadyH.nil))
          · have hbx := HBX.out _ ((Kept.refl Y).drew)
            go_simp
            clear hbx
            refine hK.out _ _ ?_ (fun hHeld => ?_)
            · exact hHeld
            clear hK K
            (try simp only [tkS])
            refine wpAnyH_ready (rs := [8]) (by kernel_rfl) (by simp) ?_
            refine (AllReadyH.cons (o := ⟨some 51, _, _, _, _, _⟩) rfl (fun K hK => ?_) AllReadyH.nil)
            go_simp
            refine (HN2.out _).mono ?_
            rintro e wN ⟨rfl, kN⟩
            have HKN0 := hidMk (((Kept.refl Y).drew).trans kN)
            clear kN
            (try go_wp2_with fail)
            refine hK.out _ _ ?_ (fun hHeld => ?_)
            · exact (Chg.of_kept HKN0.out)
            clear hK K
            (try simp only [tkS])
            refine wpAnyH_ready (rs := [9]) (by kernel_rfl) (by simp) ?_
            refine (AllReadyH.cons (o := ⟨some 52, _, _, _, _, _⟩) rfl (fun K hK => ?_) AllReadyH.nil)
            go_simp
            refine hK.out _ _ ?_ (fun hHeld => ?_)
            · exact (Chg.of_kept (HKN0.out.alloc _))
            clear hK K
            (try simp only [tkS])
            refine wpAnyH_ready (rs := [10]) (by kernel_rfl) (by simp) ?_
            refine (AllReadyH.cons (o := ⟨some 53, _, _, _, _, _⟩) rfl (fun K hK => ?_) AllReadyH.nil)
            refine step_pushN _ (by rfl) _ _ (by rfl) (wr.heap.size + 7) (.slice va pre.length vc) (pre.map code) (by rfl) (HO.out.chg (S := fun _ => False) (Chg.of_kept (HKN0.out.alloc _)) (fun _ _ e => e)) (by have h1 := HKN0.out.size; have h2 := HY.out.sz; rw [World.size_alloc]; omega) wN.heap.size cx (by rfl) (new_cell _ _ _ _ 0 _ rfl rfl) (by rw [List.length_map]; have := HPL.out; omega) ?_
            intro g' cap wP hoP cP hatP hltP
            have HOP := hidMk hoP
            have HCP := hidMk cP
            clear hoP cP hatP hltP
            rw [List.length_map]
            refine hK.out _ _ ?_ (fun hHeld => ?_)
            · exact ((Chg.of_kept (HKN0.out.alloc _)).trans (HCP.out.mono (fun j _ e => .inr e)))
            clear hK K
            (try simp only [tkS])
            refine wpAnyH_ready (rs := [11]) (by kernel_rfl) (by simp) ?_
            refine (AllReadyH.cons (o := ⟨none, _, _, _, _, _⟩) rfl (fun K hK => ?_) AllReadyH.nil)
            have n1 : ¬ (Value.slice va pre.length vc).ownBlock = some wr.heap.size := fun e => by have := (HOL.out _ e).1; omega
            have hb3 := HCP.out.cellp (HBX.out _ (HKN0.out.alloc _)) n1
            have hf3 : wP.frozen? ⟨wr.heap.size, 0, none⟩ = false := ((HCP.out.frozen (p := ⟨wr.heap.size, 0, none⟩) (cell_lt (HBX.out _ (HKN0.out.alloc _))) n1).trans ((HKN0.out.alloc _).frozen (p := ⟨wr.heap.size, 0, none⟩) (cell_lt HV.out))).trans HY.out.fz
            go_simp
            clear hb3 hf3
            refine hK.out _ _ ?_ (fun hHeld => ?_)
            · exact ((Chg.of_kept (HKN0.out.alloc _)).trans (HCP.out.mono (fun j _ e => .inr e))).setCell (p := ⟨wr.heap.size, 0, none⟩) (.inl (.inl rfl)) _
            clear hK K
            (try simp only [tkS])
            refine wpAnyH_done (by kernel_rfl) ?_ _
            rw [List.length_map] at HOP
            obtain ⟨u1, u2⟩ := HY.out.next (x := x) (by omega) (HKN0.out.alloc _) HV.out HCP.out (by rw [hcx]; exact HOP.out)
            have hrc : Recs W0.heap.size R' (wP.setCell ⟨wr.heap.size, 0, none⟩ (.slice (some ⟨g', 0, none⟩) (pre.length + 1) cap)) := ⟨(u2.block _ ((Array.getElem?_eq_some_iff.1 HRY.out.1).1) (by have := HS0.out; omega)).trans HRY.out.1, (u2.block _ ((Array.getElem?_eq_some_iff.1 HRY.out.2).1) (by have := HS0.out; omega)).trans HRY.out.2⟩
            exact And.intro rfl (And.intro u1 (And.intro (u2.mono (fun j _ e => by omega)) hrc))
          · go_simp
            refine (HN2.out _).mono ?_
            rintro e wN ⟨rfl, kN⟩
            have HKN0 := hidMk (((Kept.refl Y).drew).trans kN)
            clear kN
            (try go_wp2_with fail)
            refine hK.out _ _ ?_ (fun hHeld => ?_)
            · exact (Chg.of_kept HKN0.out)
            clear hK K
            (try simp only [tkS])
            refine wpAnyH_ready (rs := [0, 9]) (by kernel_rfl) (by simp) ?_
            refine (AllReadyH.cons (o := ⟨some 43, _, _, _, _, _⟩) rfl (fun K hK => ?_) (AllReadyH.cons (o := ⟨some 52, _, _, _, _, _⟩) rfl (fun K hK => ?_) AllReadyH.nil))
            · have hbx := HBX.out _ HKN0.out
              go_simp
              clear hbx
              refine hK.out _ _ ?_ (fun hHeld => ?_)
              · exact hHeld
              clear hK K
              (try simp only [tkS])
              refine wpAnyH_ready (rs := [9]) (by kernel_rfl) (by simp) ?_
              refine (AllReadyH.cons (o := ⟨some 52, _, _, _, _, _⟩) rfl (fun K hK => ?_) AllReadyH.nil)
              go_simp
              refine hK.out _ _ ?_ (fun hHeld => ?_)
              · exact (Chg.of_kept (HKN0.out.alloc _))
              clear hK K
              (try simp only [tkS])
              refine wpAnyH_ready (rs := [10]) (by kernel_rfl) (by simp) ?_
              refine (AllReadyH.cons (o := ⟨some 53, _, _, _, _, _⟩) rfl (fun K hK => ?_) AllReadyH.nil)
              refine step_pushN _ (by rfl) _ _ (by rfl) (wr.heap.size + 7) (.slice va pre.length vc) (pre.map code) (by rfl) (HO.out.chg (S := fun _ => False) (Chg.of_kept (HKN0.out.alloc _)) (fun _ _ e => e)) (by have h1 := HKN0.out.size; have h2 := HY.out.sz; rw [World.size_alloc]; omega) wN.heap.size cx (by rfl) (new_cell _ _ _ _ 0 _ rfl rfl) (by rw [List.length_map]; have := HPL.out; omega) ?_
              intro g' cap wP hoP cP hatP hltP
              have HOP := hidMk hoP
              have HCP := hidMk cP
              clear hoP cP hatP hltP
              rw [List.length_map]
              refine hK.out _ _ ?_ (fun hHeld => ?_)
              · exact ((Chg.of_kept (HKN0.out.alloc _)).trans (HCP.out.mono (fun j _ e => .inr e)))
              clear hK K
              (try simp only [tkS])
              refine wpAnyH_ready (rs := [11]) (by kernel_rfl) (by simp) ?_
              refine (AllReadyH.cons (o := ⟨none, _, _, _, _, _⟩) rfl (fun K hK => ?_) AllReadyH.nil)
              have n1 : ¬ (Value.slice va pre.length vc).ownBlock = some wr.heap.size := fun e => by have := (HOL.out _ e).1; omega
              have hb3 := HCP.out.cellp (HBX.out _ (HKN0.out.alloc _)) n1
              have hf3 : wP.frozen? ⟨wr.heap.size, 0, none⟩ = false := ((HCP.out.frozen (p := ⟨wr.heap.size, 0, none⟩) (cell_lt (HBX.out _ (HKN0.out.alloc _))) n1).trans ((HKN0.out.alloc _).frozen (p := ⟨wr.heap.size, 0, none⟩) (cell_lt HV.out))).trans HY.out.fz
              go_simp
              clear hb3 hf3
              refine hK.out _ _ ?_ (fun hHeld => ?_)
              · exact ((Chg.of_kept (HKN0.out.alloc _)).trans (HCP.out.mono (fun j _ e => .inr e))).setCell (p := ⟨wr.heap.size, 0, none⟩) (.inl (.inl rfl)) _
              clear hK K
              (try simp only [tkS])
              refine wpAnyH_done (by kernel_rfl) ?_ _
              rw [List.length_map] at HOP
              obtain ⟨u1, u2⟩ := HY.out.next (x := x) (by omega) (HKN0.out.alloc _) HV.out HCP.out (by rw [hcx]; exact HOP.out)
              have hrc : Recs W0.heap.size R' (wP.setCell ⟨wr.heap.size, 0, none⟩ (.slice (some ⟨g', 0, none⟩) (pre.length + 1) cap)) := ⟨(u2.block _ ((Array.getElem?_eq_some_iff.1 HRY.out.1).1) (by have := HS0.out; omega)).trans HRY.out.1, (u2.block _ ((Array.getElem?_eq_some_iff.1 HRY.out.2).1) (by have := HS0.out; omega)).trans HRY.out.2⟩
              exact And.intro rfl (And.intro u1 (And.intro (u2.mono (fun j _ e => by omega)) hrc))
            · go_simp
              refine hK.out _ _ ?_ (fun hHeld => ?_)
              · exact (Chg.of_kept (HKN0.out.alloc _))
              clear hK K
              (try simp only [tkS])
              refine wpAnyH_ready (rs := [0]) (by kernel_rfl) (by simp) ?_
              refine (AllReadyH.cons (o := ⟨some 43, _, _, _, _, _⟩) rfl (fun K hK => ?_) AllReadyH.nil)
              have hbx := HBX.out _ (HKN0.out.alloc (.cells #[.int .i64 cx] 3))
              go_simp
              clear hbx
              refine hK.out _ _ ?_ (fun hHeld => ?_)
              · exact hHeld
              clear hK K
              (try simp only [tkS])
              refine wpAnyH_ready (rs := [10]) (by kernel_rfl) (by simp) ?_
              refine (AllReadyH.cons (o := ⟨some 53, _, _, _, _, _⟩) rfl (fun K hK => ?_) AllReadyH.nil)
              refine step_pushN _ (by rfl) _ _ (by rfl) (wr.heap.size + 7) (.slice va pre.length vc) (pre.map code) (by rfl) (HO.out.chg (S := fun _ => False) (Chg.of_kept (HKN0.out.alloc _)) (fun _ _ e => e)) (by have h1 := HKN0.out.size; have h2 := HY.out.sz; rw [World.size_alloc]; omega) wN.heap.size cx (by rfl) (new_cell _ _ _ _ 0 _ rfl rfl) (by rw [List.length_map]; have := HPL.out; omega) ?_
              intro g' cap wP hoP cP hatP hltP
              have HOP := hidMk hoP
              have HCP := hidMk cP
              clear hoP cP hatP hltP
              rw [List.length_map]
              refine hK.out _ _ ?_ (fun hHeld => ?_)
              · exact ((Chg.of_kept (HKN0.out.alloc _)).trans (HCP.out.mono (fun j _ e => .inr e)))
              clear hK K
              (try simp only [tkS])
              refine wpAnyH_ready (rs := [11]) (by kernel_rfl) (by simp) ?_
              refine (AllReadyH.cons (o := ⟨none, _, _, _, _, _⟩) rfl (fun K hK => ?_) AllReadyH.nil)
              have n1 : ¬ (Value.slice va pre.length vc).ownBlock = some wr.heap.size := fun e => by have := (HOL.out _ e).1; omega
              have hb3 := HCP.out.cellp (HBX.out _ (HKN0.out.alloc _)) n1
              have hf3 : wP.frozen? ⟨wr.heap.size, 0, none⟩ = false := ((HCP.out.frozen (p := ⟨wr.heap.size, 0, none⟩) (cell_lt (HBX.out _ (HKN0.out.alloc _))) n1).trans ((HKN0.out.alloc _).frozen (p := ⟨wr.heap.size, 0, none⟩) (cell_lt HV.out))).trans HY.out.fz
              go_simp
              clear hb3 hf3
              refine hK.out _ _ ?_ (fun hHeld => ?_)
              · exact ((Chg.of_kept (HKN0.out.alloc _)).trans (HCP.out.mono (fun j _ e => .inr e))).setCell (p := ⟨wr.heap.size, 0, none⟩) (.inl (.inl rfl)) _
              clear hK K
              (try simp only [tkS])
              refine wpAnyH_done (by kernel_rfl) ?_ _
              rw [List.length_map] at HOP
              obtain ⟨u1, u2⟩ := HY.out.next (x := x) (by omega) (HKN0.out.alloc _) HV.out HCP.out (by rw [hcx]; exact HOP.out)
              have hrc : Recs W0.heap.size R' (wP.setCell ⟨wr.heap.size, 0, none⟩ (.slice (some ⟨g', 0, none⟩) (pre.length + 1) cap)) := ⟨(u2.block _ ((Array.getElem?_eq_some_iff.1 HRY.out.1).1) (by have := HS0.out; omega)).trans HRY.out.1, (u2.block _ ((Array.getElem?_eq_some_iff.1 HRY.out.2).1) (by have := HS0.out; omega)).trans HRY.out.2⟩
              exact And.intro rfl (And.intro u1 (And.intro (u2.mono (fun j _ e => by omega)) hrc))
        · intro R hy
          have hsz := HS0.out
          have hbw := HBW.out
          refine (together_it (C := fun j => j = wr.heap.size ∨ j = wr.heap.size + 3) (lbx := bx + 1) (l := W0.heap.size + 1) (la := ra) (lc := rc) (d := ds.length) (ls := lsK (spanL ds at_) ds.length) (nv := nv) ((W0.alloc (.deferred (some []))).alloc R) (fun pre X => UJ 7 wr code pre X ∧ Recs W0.heap.size R X) ?_ ?_ ?_ ?_ ?_ ?_ ?_ ?_ ?_ ?_ (1 + 1)).mono ?_
          · intro pre X Y hJ hc
            have hs2 : ((W0.alloc (.deferred (some []))).alloc R).heap.size + 1 = wr.heap.size + 5 := by simp; omega
            rw [hs2] at hc
            exact ⟨hJ.1.chg hc (fun j e => by omega), ⟨(hc.block _ ((Array.getElem?_eq_some_iff.1 hJ.2.1).1) (by omega)).trans hJ.2.1, (hc.block _ ((Array.getElem?_eq_some_iff.1 hJ.2.2).1) (by omega)).trans hJ.2.2⟩⟩
          · intro m pre x X hJ hpre
            refine yield_any (m := 1) ((hy pre x X hJ.1 hJ.2 hpre).mono ?_)
            rintro e X' ⟨h1, h2, h3, h4⟩
            have hs2 : ((W0.alloc (.deferred (some []))).alloc R).heap.size = wr.heap.size + 4 := by simp; omega
            rw [hs2]
            exact ⟨h1, ⟨h2, h3⟩, h4.mono (fun j _ e => by omega)⟩
          · exact (((Kept.refl W0).alloc _).alloc _).cellp HBC.out.2.2
          · exact (HS.out.1.kept (HW0.out.trans (((Kept.refl W0).alloc _).alloc _))).lls H4.out
          · intro j e
            simp only [World.size_alloc]
            omega
          · omega
          · intro ad e
            subst e
            have h1 := HS.out.1.lt ad.block (by exact ownB HS.out.1)
            simp only [World.size_alloc]
            omega
          · intro k hk ad e
            have h1 := ((HS.out.1.2 k hk).2 ad e).2.1
            simp only [World.size_alloc]
            omega
          · intro i hi
            rw [lsK_get _ hi]
            have := HLEN.out _ (show spanL ds at_ i ∈ lsK (spanL ds at_) ds.length from by simp only [lsK, List.mem_map, List.mem_range]; exact ⟨i, hi, rfl⟩)
            omega
          · intro Y kY hY
            have hs2 : ((W0.alloc (.deferred (some []))).alloc R).heap.size = wr.heap.size + 4 := by simp; omega
            refine ⟨HU0.out Y ((((Kept.refl W0).alloc _).alloc _).trans kY) (by omega), ?_, ?_⟩
            · have := World.alloc_heap_new (W0.alloc (.deferred (some []))) R
              rw [World.size_alloc] at this
              exact (kY.block _ (by omega)).trans this
            · have h1 := World.alloc_heap_new W0 (.deferred (some []))
              have h2 := ((Kept.refl (W0.alloc (.deferred (some [])))).alloc R).block W0.heap.size (by rw [World.size_alloc]; omega)
              exact (kY.block _ (by omega)).trans (h2.trans h1)
          · rintro e X ⟨h1, h2, h3⟩
            exact ⟨h1, h2, h3⟩
        · intro X hJ hD
          obtain ⟨v, hv, ho⟩ := hJ.bx
          have hpl : ((prods (lsK (spanL ds at_) ds.length)).map code).length ≤ maxLen := by rw [List.length_map]; have h2 := prods_small HLEN.out (by rw [lsK_len]; exact H4.out); unfold maxLen; omega
          obtain ⟨a3, c3, hv3, _⟩ := ho.sl hpl
          subst hv3
          have HO := hidMk ho
          have HKP := hidMk (HK1.out.trans (HS.out.2.trans hJ.kp))
          have HD := hidMk hD
          have hbw := HBW.out
          subst hbw
          clear ho hJ hD hpl
          gi_wp2
          have hsz := HS0.out
          have hk1 := HK1.out.size
          have hk2 := HS.out.2.size
          refine ⟨by simp, .inl ⟨_, _, rfl, run_takeDeferred HD.out, ?_⟩⟩
          refine ⟨_, results_tmp rfl _ _ _, _, rfl, ?_, put_kept HKP.out (by omega)⟩
          have := HO.out.chg (chg_put X W0.heap.size (.deferred none)) (fun k hk e => by have := (HO.out.lt k hk).1; omega)
          have hl : ul = (prods (lsK (spanL ds at_) ds.length)).map code := by
            rw [HUL.out, HCD.out]
            unfold undL
            rw [if_pos hr]
          rw [hl]
          have hb7 : w.heap.size ≤ wr.heap.size + 7 := by omega
          have h9 := OwnI.base this hb7
          rw [List.length_map] at h9
          exact h9
end
end Go.Proofs.YtmedgkccicbieaaGreat
