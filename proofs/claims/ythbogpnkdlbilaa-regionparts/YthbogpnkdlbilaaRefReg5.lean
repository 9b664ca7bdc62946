/- The definition's sets: Join, Meet, Less. -/
import Derived.Test.YthbogpnkdlbilaaRefReg3
import Derived.Deep.RegionLaw
import Derived.Deep.CutRange
namespace Go.Proofs.Ythbogpnkdlbilaa
open Go.RowKit Go.Maps
set_option linter.unusedSimpArgs false
set_option linter.unusedVariables false

theorem step_pushI {ops : Array Oper} {o : Oper} {a : Act} {K : Act → World → Prop} {Q : Exit → Act → World → Prop} {E : Prop} (w : World) (hgd : o.guard = none) (s x : Operand)
    (ho : o.op = .call { callee := .builtin .append, args := #[s, x], argTypes := #[22, 22] })
    (B : Nat) (v : Value) (l : List Int) (hs : a.eval s = v) (hv : OwnI w B v l) (hB : B ≤ w.heap.size) (g : Nat) (y : Int) (hx : a.eval x = .slice (some ⟨g, 0, none⟩) 1 1) (hcell : w.cell? ⟨g, 0, none⟩ = some (.int .i64 y))
    (h47 : (l.length + 1) * 8 ≤ 140737488355328) (H : Nat) (hH : w.heap.size = H)
    (h : ∀ g' cap w', OwnI w' B (.slice (some ⟨g', 0, none⟩) (l.length + 1) cap) (l ++ [y]) → Chg (fun k => v.ownBlock = some k) w w' → (v.ownBlock = some g' ∨ g' = H) → g' < w'.heap.size → K (a.put o.dst (.slice (some ⟨g', 0, none⟩) (l.length + 1) cap)) w') :
    if Region.wanted o (yielded ops a.tmps) = true then Oper.wp Try.prog o a w K Q else E := by
  obtain ⟨i0, hi0, hz0, hz1, hz2⟩ := iinfo
  refine step_append_lies w hgd s x 22 ho B 3 i0 (.int .i64 0) 1 8 Try.underlying22 hi0 hz0 hz1 hz2 rfl (by decide) v _ _ hs hv ⟨g, 0, none⟩ 1 1 [.int .i64 y] hx rfl (cell_news hcell) (by intro u hu; simp at hu; subst hu; rfl) (by omega) (by unfold maxLen; omega) (by omega) hB H hH ?_
  intro g' cap w' h2 h3 h4 h5
  refine h g' cap w' ?_ ((Chg.refl _ w).grown h3 (fun k hk => .inl hk)) h4 h5
  unfold OwnI
  simpa using h2
theorem three_cells {w : World} {A B C : Value} {t1 t2 t3 : TypeId} : (((w.alloc (.cells #[A] t1)).alloc (.cells #[B] t2)).alloc (.cells #[C] t3)).cell? ⟨w.heap.size, 0, none⟩ = some A ∧ (((w.alloc (.cells #[A] t1)).alloc (.cells #[B] t2)).alloc (.cells #[C] t3)).cell? ⟨w.heap.size + 1, 0, none⟩ = some B ∧ (((w.alloc (.cells #[A] t1)).alloc (.cells #[B] t2)).alloc (.cells #[C] t3)).cell? ⟨w.heap.size + 1 + 1, 0, none⟩ = some C :=
  ⟨((Kept.refl _).alloc _).cellp (((Kept.refl _).alloc _).cellp (new_cell rfl _ _)), ((Kept.refl _).alloc _).cellp (new_cell (by simp) _ _), new_cell (by simp) _ _⟩
set_option maxHeartbeats 2000000 in
theorem ref8_Join (v u : Value) (S T : List Int) (w : World) (h : LsIs w v S) (g : LsIs w u T) (hl : S.length + T.length ≤ 20000) : Calls Try.prog 15 #[v, u] w fun e w' => ∃ v', e = .returned v' ∧ LsIs w' v' (joinL S T) ∧ Kept w w' := by
  obtain ⟨a, c, rfl, hs⟩ := h
  obtain ⟨b, d, rfl, ht⟩ := g
  have HT := hidMk ht
  have HS := hidMk hs
  obtain ⟨J, hJ⟩ : ∃ J, joinL S T = J := ⟨_, rfl⟩
  rw [hJ]
  have HJ := hidMk hJ
  have hbs : ∀ ad, 0 < S.length → a = some ad → ad.block < w.heap.size := fun ad hp e => by
    obtain ⟨b1, o1, e1, e2, _⟩ := hs.cells hp
    rw [e] at e1
    cases e1
    exact e2
  have HBS := hidMk hbs
  clear hs ht hJ hbs
  go_enter Try.func15, Try.ntmps15
  go_wp2_with fail
  go_loopg [5] T.length (fun g i wr => ∃ (k : Nat) (sa : Option Addr) (sc : Nat), k + g = T.length ∧ i = .int .i64 k ∧ LB w wr (w.heap.size + 1 + 1) w.heap.size sa sc (joinL S (T.take k)) ∧ wr.cell? ⟨w.heap.size + 1, 0, none⟩ = some (.slice b T.length d))
  case atStart =>
    refine ⟨0, a, c, by omega, rfl, ⟨three_cells.1, ?_, ⟨_, three_cells.2.2⟩, new_frozen (by simp) _ _ 0, HS.out.kept ((((Kept.refl w).alloc _).alloc _).alloc _), fun hp ad e => ?_, by omega, (((Kept.refl w).alloc _).alloc _).alloc _, ⟨by omega, Nat.le_refl _⟩⟩, three_cells.2.1⟩
    · exact ((((Kept.refl _).alloc _).alloc _).frozen (p := ⟨w.heap.size, 0, none⟩) (by simp)).trans (new_frozen rfl _ _ 0)
    · have := HBS.out ad hp e; omega
  case round =>
    obtain ⟨k, sa, sc, hkg, rfl, hB, hT⟩ := hrel
    have HKG := hidMk hkg
    have HB := hidMk hB
    have s0 := hB.c
    have sf := hB.f
    have hjl := joinL_len (T.take k) S
    rw [List.length_take] at hjl
    by_cases hkn : k < T.length
    · obtain ⟨bb, o, rfl, hbb, hcs⟩ := HT.out.cells (by omega)
      have hc := hB.kept.cellp (hcs k hkn)
      have kn' : (k : Int) < (T.length : Int) := by omega
      have HTK := hidMk (joinL_take (s := S) (t := T) (k := k) (by omega))
      have HPU := hidMk (show ∀ y, Kept wr y → _ from fun y hy => ref8_put sa sc (joinL S (T.take k)) (T.getD k 0) y (hB.sl.kept hy) (by omega))
      have HHT := hidMk hT
      clear hcs hkg hB
      generalize T.getD k 0 = x at *
      generalize joinL S (T.take k) = acc at *
      go_wp2_with fail
      go_region_with ((go_at_call 29; refine (HPU.out _ ((Kept.refl wr).drew)).mono ?_; rintro e w5 ⟨b5, d5, rfl, hs5, hf5, k5⟩; have B5 := HB.out.keep (((Kept.refl wr).drew).trans k5); have z0 := B5.c; have z1 := B5.f; have HB5 := hidMk B5; have HS5 := hidMk hs5; have HF5 := hidMk hf5; have HZ2 := hidMk (k5.cellp (((Kept.refl wr).drew).cellp HHT.out)); clear hs5 hf5 k5 B5))
      all_goals (try go_wp2_with fail)
      all_goals
        go_roundg (gk - 1)
        case measure => have := HKG.out; omega
        case rel =>
          refine ⟨k + 1, b5, d5, by have := HKG.out; omega, by go_num, ?_, (chg_set _ _ _ _).cellp HZ2.out (by omega)⟩
          rw [HTK.out]
          refine HB5.out.set HS5.out (fun hp ad e => ?_)
          obtain ⟨ru, hru⟩ := HB.out.rc
          have h1 : w.heap.size + 1 + 1 < wr.heap.size := cell_lt hru
          rcases HF5.out with ⟨e2, e3⟩ | h
          · rw [e3] at hp
            exact HB.out.fr hp ad (e2 ▸ e)
          · have h2 : wr.heap.size ≤ ad.block := h ad e
            omega
    · have htk : T.take k = T := List.take_of_length_le (by omega)
      rw [htk, HJ.out] at HB s0
      have hkk : ¬ ((k : Int) < (T.length : Int)) := by omega
      obtain ⟨ru, hru⟩ := hB.rc
      have hrf := hB.rf
      clear hB hkg hjl htk
      go_wp2_with fail
      obtain ⟨t1, t2, t3⟩ := HB.out.ret
      exact lset_ret rfl (w.heap.size + 1 + 1) _ rfl rfl t1 ⟨_, rfl, t2, t3⟩
end Go.Proofs.Ythbogpnkdlbilaa
