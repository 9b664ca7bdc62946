/- region: joined. -/
import Derived.Test.YthbogpnkdlbilaaReg4
namespace Go.Proofs.Ythbogpnkdlbilaa
open Go.RowKit Go.Maps
open Go.Sort (SWO PermIn SortedIn HoldsK grow putRowK)
set_option linter.unusedSimpArgs false
set_option linter.unusedVariables false

theorem ownR_holds {w : World} {B g cap : Nat} {l : List Rn} (h : OwnR w B (.slice (some ⟨g, 0, none⟩) l.length cap) l) : HoldsK encR 2 w g 0 l.toArray := by
  intro t ht
  rw [Go.Sort.size_flatK] at ht
  rw [Go.Sort.get_flatK _ _ _ _ ht]
  have hsz : l.toArray.size = l.length := by simp
  rw [hsz] at ht
  refine ⟨?_, World.ownsRow.frozenAt h _⟩
  rw [Nat.zero_add, World.ownsRow.cellAt h t (by omega)]
  have hi : t / 2 < l.length := by omega
  have hg := flatR_get l (t / 2) hi
  have he : l.toArray[t / 2]! = rnA l (t / 2) := by simp [rnA, List.getD, List.getElem?_eq_getElem hi, hi]
  rw [he]
  rcases Nat.mod_two_eq_zero_or_one t with h0 | h1
  · rw [show t = t / 2 * 2 by omega, hg.1, show t / 2 * 2 % 2 = 0 by omega]
    simp [encR, show t / 2 * 2 / 2 = t / 2 by omega]
  · rw [show t = t / 2 * 2 + 1 by omega, hg.2, show (t / 2 * 2 + 1) % 2 = 1 by omega]
    simp [encR, show (t / 2 * 2 + 1) / 2 = t / 2 by omega]
theorem holds_rs {w : World} {g : Nat} {d : Array Rn} (h : HoldsK encR 2 w g 0 d) (hb : g < w.heap.size) : Rs w (some ⟨g, 0, none⟩) d.toList :=
  ⟨fun hp => ⟨g, 0, rfl, hb, fun i hi => by
    have hi' : i < d.size := by simpa using hi
    have h1 := (h.cell hi' (c := 0) (by omega)).1
    have h2 := (h.cell hi' (c := 1) (by omega)).1
    have e : d[i]! = rnA d.toList i := by simp [rnA, List.getD, hi']
    rw [e] at h1 h2
    exact ⟨h1, h2⟩⟩⟩
theorem chg_sort (w : World) (g n : Nat) (d : Array Rn) (os : Array Obj) : Chg (· = g) w (sortWorldK encR 2 w g 0 n d os) := by
  refine ⟨rfl, rfl, rfl, size_sortWorldK_c _ _ _ _ _ _ _ _, fun j hj hne => ?_⟩
  unfold sortWorldK putRowK
  rw [Go.Sort.heap_grow_old _ _ (by rw [show (Go.Sort.putRow id (Go.Sort.ahead w n) g 0 (Go.Sort.flatK encR 2 d)).heap.size = w.heap.size by simp [Go.Sort.putRow, Go.Sort.mapBlock, Go.Sort.ahead]]; exact hj)]
  simp [Go.Sort.putRow, Go.Sort.mapBlock, Go.Sort.ahead, Array.getElem?_modify, Ne.symm hne]
theorem sorted_list {d : Array Rn} (h : SortedIn (ltOf cfR) 0 d.size d) : d.toList.Pairwise fun r s => r.1 ≤ s.1 := by
  rw [List.pairwise_iff_getElem]
  intro i j hi hj hij
  have hi' : i < d.size := by simpa using hi
  have hj' : j < d.size := by simpa using hj
  have := h i j (Nat.zero_le _) hij hj'
  rw [ltR, decide_eq_false_iff_not] at this
  simp [hi', hj'] at this
  simpa using this
theorem perm_list {d d' : Array Rn} (h : PermIn 0 d.size d d') : d'.toList.Perm d.toList := by
  obtain ⟨h1, _, h3⟩ := h
  have e1 : d.extract 0 d.size = d := by simp
  have e2 : d'.extract 0 d.size = d' := by rw [← h1]; simp
  rw [e1, e2] at h3
  exact h3
theorem inR_perm {l m : List Rn} (h : l.Perm m) (x : Int) : inR l x ↔ inR m x := ⟨fun ⟨r, h1, h2⟩ => ⟨r, h.mem_iff.1 h1, h2⟩, fun ⟨r, h1, h2⟩ => ⟨r, h.mem_iff.2 h1, h2⟩⟩
theorem Rs.empty' {w : World} {a : Option Addr} {x : List Rn} (h : x.length = 0) : Rs w a x := ⟨fun hp => absurd hp (by omega)⟩
/-- slices.SortFunc of an own row of runs. -/
theorem slices_Sort_any {w : World} {B : Nat} {a : Option Addr} {c : Nat} {l : List Rn} (h : OwnR w B (.slice a l.length c) l) (hl : l.length ≤ 100000) :
    Calls Try.prog 35 #[.slice a l.length c, .func (.func 36) #[] #[]] w fun e w' => e = .returned (.tuple #[]) ∧ ∃ m, m.length = l.length ∧ m.Perm l ∧ m.Pairwise (fun r s => r.1 ≤ s.1) ∧ Rs w' a m ∧ Chg (fun k => (Value.slice a l.length c).ownBlock = some k) w w' := by
  have h' := h
  obtain ⟨_, ⟨hv, hz⟩ | ⟨g, cap, cur, hv, hb, hheap, hc, hcm, hsz, htk⟩⟩ := h
  · obtain ⟨rfl, _, rfl⟩ := Value.slice.inj hv
    have hl0 : l = [] := List.eq_nil_of_length_eq_zero hz
    subst hl0
    have hI : ∀ (fv : Value) (w : World), Calls Try.prog 41 #[.slice none 0 0, .int .i64 0, .int .i64 0, fv] w fun e w' => e = .returned (.tuple #[]) ∧ w' = w := by
      intro fv w
      go_enter Try.func41, Try.ntmps41
      go_wp2_with fail
      refine wp_loop_rounds 1 ?_
      rw [rounds_succ]
      go_wp2_with fail
      go_end0
      exact ⟨rfl, rfl⟩
    have hP : ∀ (fv : Value) (lim : Int) (w : World), Calls Try.prog 38 #[.slice none 0 0, .int .i64 0, .int .i64 0, .int .i64 lim, fv] w fun e w' => e = .returned (.tuple #[]) ∧ w' = w := by
      intro fv lim w
      go_enter Try.func38, Try.ntmps38
      go_wp2_with fail
      refine wp_loop_rounds 1 ?_
      rw [rounds_succ]
      go_wp2_with (go_at_call 41; refine (hI _ _).mono ?_; rintro e w' ⟨rfl, rfl⟩)
      (try simp only [Exit.inBlock, Exit.then]); refine bodyPost_ret (results_none rfl _ _ _) rfl ?_
      exact ⟨rfl, rfl⟩
    have hL : ∀ w, Calls Try.prog 39 #[.int .u64 0] w fun e w' => e = .returned (.int .i64 (Lib.bitLen (0 : Int).toNat)) ∧ w' = w := fun w => Any.bits_Len (SlLaysF0.n15.bits (P := Try.prog) (ρ := Try.sortR_ren) { Try.sortR with }) 0 w (by omega) (by omega)
    have HL := hidMk hL
    have HP := hidMk hP
    clear hL hP hI h'
    generalize (Lib.bitLen (0 : Int).toNat : Int) = z at *
    go_enter Try.func35, Try.ntmps35
    go_wp2_with fail
    refine (HL.out _).mono ?_
    rintro e w1 ⟨rfl, rfl⟩
    go_wp2_with fail
    refine (HP.out _ _ _).mono ?_
    rintro e w1 ⟨rfl, rfl⟩
    go_wp2_with fail
    go_end0
    exact ⟨rfl, [], rfl, List.Perm.refl _, List.Pairwise.nil, Rs.empty' rfl, Chg.refl _ _⟩
  · obtain ⟨rfl, _, rfl⟩ := Value.slice.inj hv
    have hg : g < w.heap.size := (h'.lt g rfl).2
    have hs := slices_SortR (cap := c) (ownR_holds h') hg (by simpa using hl)
    have e : l.toArray.size = l.length := by simp
    rw [e] at hs
    refine hs.mono fun e w' ⟨he, d', n, os, hp, hsd, hw⟩ => ⟨he, d'.toList, ?_, ?_, ?_, ?_, ?_⟩
    · have := hp.1; simpa using this
    · have := perm_list (d := l.toArray) (by simpa using hp); simpa using this
    · have : d'.size = l.length := by have := hp.1; simpa using this
      exact sorted_list (by rw [this]; exact hsd)
    · have hs' : d'.size = l.toArray.size := hp.1
      have h1 := holdsK_sortWorldK_c encR 2 w g 0 l.toArray d' n os (ownR_holds h') hg hs'
      rw [hw]
      exact holds_rs h1 (Nat.lt_of_lt_of_le hg (size_sortWorldK_c _ _ _ _ _ _ _ _))
    · rw [hw]
      exact (chg_sort w g n d' os).mono fun j _ e => by subst e; rfl
end Go.Proofs.Ythbogpnkdlbilaa
