/- The definition's sets: Run, Runs. -/
import Derived.Test.YthbogpnkdlbilaaRefReg2
namespace Go.Proofs.Ythbogpnkdlbilaa
open Go.RowKit Go.Maps
set_option linter.unusedSimpArgs false
set_option linter.unusedVariables false

/-- A set's own block s, that numbers are appended to, and the result's block rs. -/
structure LO (w0 w : World) (rs s B : Nat) (v : Value) (l : List Int) : Prop where
  c : w.cell? ⟨s, 0, none⟩ = some v
  f : w.frozen? ⟨s, 0, none⟩ = false
  rc : ∃ u, w.cell? ⟨rs, 0, none⟩ = some u
  rf : w.frozen? ⟨rs, 0, none⟩ = false
  own : OwnI w B v l
  lt : rs < s ∧ s < B
  hB : B ≤ w.heap.size
  kept : Kept w0 w
  h0 : w0.heap.size ≤ rs
theorem LO.keep {w0 w w' : World} {rs s B : Nat} {v : Value} {l : List Int} (h : LO w0 w rs s B v l) (g : Kept w w') : LO w0 w' rs s B v l := by
  have l1 : s < w.heap.size := cell_lt h.c
  have l2 : rs < w.heap.size := by have := h.lt; omega
  obtain ⟨u, hu⟩ := h.rc
  exact ⟨g.cellp h.c, (g.frozen (p := ⟨s, 0, none⟩) l1).trans h.f, ⟨u, g.cellp hu⟩, (g.frozen (p := ⟨rs, 0, none⟩) l2).trans h.rf, h.own.kept' g, h.lt, Nat.le_trans h.hB g.size, h.kept.trans g, h.h0⟩
theorem LO.push {w0 w W y : World} {rs s B : Nat} {v v' : Value} {l m : List Int} (h : LO w0 w rs s B v l) (hk : Kept w W) (ho : OwnI y B v' m) (hc : Chg (fun k => v.ownBlock = some k) W y) :
    y.cell? ⟨s, 0, none⟩ = some v ∧ y.frozen? ⟨s, 0, none⟩ = false ∧ Kept w0 y ∧ LO w0 (y.setCell ⟨s, 0, none⟩ v') rs s B v' m := by
  have h' := h.keep hk
  have hlt := h.lt
  have hb : ∀ k, v.ownBlock = some k → B ≤ k := fun k hk => (h.own.lt k hk).1
  have n1 : ¬ v.ownBlock = some s := fun e => by have := hb s e; omega
  have n2 : ¬ v.ownBlock = some rs := fun e => by have := hb rs e; omega
  have l1 : s < W.heap.size := cell_lt h'.c
  have l2 : rs < W.heap.size := by omega
  have q := hc.cellp h'.c n1
  have c2 : Chg (· = s) y (y.setCell ⟨s, 0, none⟩ v') := (Chg.refl (· = s) y).setCell (p := ⟨s, 0, none⟩) (.inl rfl) _
  obtain ⟨u, hu⟩ := h'.rc
  have hky : Kept w0 y := Chg.kept h'.kept hc (fun j hj => by have := hb j hj; have := h.h0; omega)
  refine ⟨q, (hc.frozen (p := ⟨s, 0, none⟩) l1 n1).trans h'.f, hky, World.cell?_setCell_same _ _ _ q, by simpa using (hc.frozen (p := ⟨s, 0, none⟩) l1 n1).trans h'.f, ⟨u, c2.cellp (hc.cellp hu n2) (by omega)⟩, by simpa using (hc.frozen (p := ⟨rs, 0, none⟩) l2 n2).trans h'.rf, ho.chg c2 (fun k hk e => ?_), hlt, ?_, ?_, h.h0⟩
  · have := (ho.lt k hk).1; omega
  · have := h'.hB; have := hc.size; simp; omega
  · exact hky.setCell (p := ⟨s, 0, none⟩) (show w0.heap.size ≤ s by have := h.h0; omega) _
theorem LO.ret {w0 w : World} {rs s B : Nat} {v : Value} {l : List Int} (h : LO w0 w rs s B v l) (hm : l.length ≤ 100000) : (w.setCell ⟨rs, 0, none⟩ v).cell? ⟨rs, 0, none⟩ = some v ∧ LsIs (w.setCell ⟨rs, 0, none⟩ v) (.agg #[v]) l ∧ Kept w0 (w.setCell ⟨rs, 0, none⟩ v) := by
  obtain ⟨u, hu⟩ := h.rc
  have c2 : Chg (· = rs) w (w.setCell ⟨rs, 0, none⟩ v) := (Chg.refl (· = rs) w).setCell (p := ⟨rs, 0, none⟩) (.inl rfl) _
  have hlt := h.lt
  have ho : OwnI (w.setCell ⟨rs, 0, none⟩ v) B v l := h.own.chg c2 (fun k hk e => by have := (h.own.lt k hk).1; omega)
  obtain ⟨a, c, rfl, h1⟩ := ho.sl (by unfold maxLen; omega)
  exact ⟨World.cell?_setCell_same _ _ _ hu, ⟨a, c, rfl, h1⟩, h.kept.setCell (p := ⟨rs, 0, none⟩) h.h0 _⟩
theorem lo_start {w W1 : World} {N : Nat} (hN : W1.heap.size = N) (hk : Kept w W1) (t t' : TypeId) : LO w ((W1.alloc (.cells #[.slice none 0 0] t)).alloc (.cells #[.slice none 0 0] t')) N (N + 1) (N + 1 + 1) (.slice none 0 0) [] :=
  ⟨new_cell (by simp [hN]) _ _, new_frozen (by simp [hN]) _ _ 0, ⟨_, ((Kept.refl _).alloc _).cellp (new_cell hN _ _)⟩, (((Kept.refl _).alloc _).frozen (p := ⟨N, 0, none⟩) (by simp [hN])).trans (new_frozen hN _ _ 0), ownI_nil _ _, ⟨by omega, by omega⟩, by simp [hN], (hk.alloc _).alloc _, by have := hk.size; omega⟩
def upsL (f t : Int) : List Int := (List.range (t - max f 0).toNat).map fun i => max f 0 + (i : Nat)
theorem upsL_is (f t : Int) : Rise (upsL f t) ∧ (∀ x, x ∈ upsL f t ↔ f ≤ x ∧ 0 ≤ x ∧ x < t) ∧ (upsL f t).length = (t - max f 0).toNat := by
  refine ⟨?_, fun x => ?_, by simp [upsL]⟩
  · unfold Rise upsL
    rw [List.pairwise_map]
    refine List.Pairwise.imp ?_ List.pairwise_lt_range
    intro a b h
    omega
  · unfold upsL
    rw [List.mem_map]
    constructor
    · rintro ⟨i, hi, rfl⟩
      rw [List.mem_range] at hi
      omega
    · intro h
      exact ⟨(x - max f 0).toNat, by rw [List.mem_range]; omega, by omega⟩
set_option maxHeartbeats 2000000 in
theorem ref8_Run (f t : Int) (w : World) (hf : isI f) (ht : t ≤ 4000) (ht0 : isI t) : Calls Try.prog 13 #[.int .i64 f, .int .i64 t] w fun e w' => ∃ v', e = .returned v' ∧ LsIs w' v' (upsL f t) ∧ Kept w w' := by
  unfold isI at hf ht0
  obtain ⟨F, hF⟩ : ∃ F, max f 0 = F := ⟨_, rfl⟩
  obtain ⟨n, hn⟩ : ∃ n : Nat, (t - F).toNat = n := ⟨_, rfl⟩
  have HU := hidMk (show upsL f t = (List.range n).map (fun i => F + (i : Nat)) by unfold upsL; rw [hF, hn])
  have hnt : n ≤ 4000 := by omega
  have hF0 : 0 ≤ F := by omega
  have HNT := hidMk (show ∀ i : Nat, (F + (i : Int) < t ↔ i < n) from fun i => by omega)
  have hFb : F ≤ 9223372036854775807 := by omega
  by_cases h0 : f < 0
  · obtain rfl : F = 0 := by omega
    clear hF hn
    go_enter Try.func13, Try.ntmps13
    go_wp2_with fail
    go_loopg [6] n (fun g x wr => ∃ (i : Nat) (v : Value), i + g = n ∧ x = .int .i64 ((0 : Int) + (i : Int)) ∧ LO w wr w.heap.size (w.heap.size + 1) (w.heap.size + 1 + 1) v ((List.range i).map (fun i => (0 : Int) + (i : Nat))))
    case atStart => exact ⟨0, .slice none 0 0, by omega, by simp, lo_start rfl (Kept.refl w) _ _⟩
    case round =>
      obtain ⟨i, v, hig, rfl, hL⟩ := hrel
      have HIG := hidMk hig
      have HL := hidMk hL
      have s0 := hL.c
      have sf := hL.f
      have hsz := hL.hB
      have hll : ((List.range i).map (fun i => (0 : Int) + ((i : Nat) : Int))).length = i := by simp
      by_cases hin : i < n
      · have hlt := (HNT.out i).2 hin
        obtain ⟨da, dc, rfl, _⟩ := hL.own.sl (by rw [hll]; unfold maxLen; omega)
        have HUS := hidMk (ups_succ (0 : Int) i)
        have HLL := hidMk hll
        have s0' := fun o => ((Kept.refl wr).alloc o).cellp s0
        have hw1 : IntKind.i64.wrap ((0 : Int) + (i : Int) + 1) = (0 : Int) + ((i + 1 : Nat) : Int) := by rw [IntKind.wrap_i64]; omega
        clear hL hig hll
        generalize (List.range i).map (fun i => (0 : Int) + ((i : Nat) : Int)) = acc at *
        go_wp2_with (at_builtin; refine wpList_pushI _ (by rfl) _ _ (by rfl) (w.heap.size + 1 + 1) (.slice da acc.length dc) acc (by rfl) (HL.out.own.kept' ((Kept.refl _).alloc _)) (by simp; omega) wr.heap.size ((0 : Int) + (i : Int)) (by rfl) (by simp) (by have := HLL.out; omega) (wr.heap.size + 1) (by simp) ?_; intro g4 cap4 w4 o4 k4 a4 l4; obtain ⟨z0, z1, _, z3⟩ := HL.out.push ((Kept.refl wr).alloc _) o4 k4; have H4 := hidMk z3; clear o4 k4 a4 l4 z3)
        go_roundg (gk - 1)
        case measure => have := HIG.out; omega
        case rel => exact ⟨i + 1, _, by have := HIG.out; omega, by first | rfl | go_num, by rw [HUS.out]; exact H4.out⟩
      · obtain rfl : i = n := by omega
        have hlt : ¬ (0 : Int) + (i : Int) < t := fun e => hin ((HNT.out i).1 e)
        have HLEN := hidMk hll
        obtain ⟨ru, hru⟩ := hL.rc
        have hrf := hL.rf
        obtain ⟨da, dc, rfl, _⟩ := hL.own.sl (by rw [hll]; unfold maxLen; omega)
        have hl2 : ((List.range i).map (fun i => (0 : Int) + ((i : Nat) : Int))).length ≤ 100000 := by rw [hll]; omega
        clear hL hig hll hin
        generalize (List.range i).map (fun i => (0 : Int) + ((i : Nat) : Int)) = acc at *
        go_wp2_with fail
        obtain ⟨t1, t2, t3⟩ := HL.out.ret hl2
        exact lset_ret rfl w.heap.size _ rfl rfl t1 ⟨_, rfl, by rw [HU.out]; exact t2, t3⟩
  · obtain rfl : F = f := by omega
    clear hF hn
    go_enter Try.func13, Try.ntmps13
    go_wp2_with fail
    go_loopg [6] n (fun g x wr => ∃ (i : Nat) (v : Value), i + g = n ∧ x = .int .i64 (F + (i : Int)) ∧ LO w wr w.heap.size (w.heap.size + 1) (w.heap.size + 1 + 1) v ((List.range i).map (fun i => F + (i : Nat))))
    case atStart => exact ⟨0, .slice none 0 0, by omega, by simp, lo_start rfl (Kept.refl w) _ _⟩
    case round =>
      obtain ⟨i, v, hig, rfl, hL⟩ := hrel
      have HIG := hidMk hig
      have HL := hidMk hL
      have s0 := hL.c
      have sf := hL.f
      have hsz := hL.hB
      have hll : ((List.range i).map (fun i => F + ((i : Nat) : Int))).length = i := by simp
      by_cases hin : i < n
      · have hlt := (HNT.out i).2 hin
        obtain ⟨da, dc, rfl, _⟩ := hL.own.sl (by rw [hll]; unfold maxLen; omega)
        have HUS := hidMk (ups_succ F i)
        have HLL := hidMk hll
        have s0' := fun o => ((Kept.refl wr).alloc o).cellp s0
        have hw1 : IntKind.i64.wrap (F + (i : Int) + 1) = F + ((i + 1 : Nat) : Int) := by rw [IntKind.wrap_i64]; omega
        clear hL hig hll
        generalize (List.range i).map (fun i => F + ((i : Nat) : Int)) = acc at *
        go_wp2_with (at_builtin; refine wpList_pushI _ (by rfl) _ _ (by rfl) (w.heap.size + 1 + 1) (.slice da acc.length dc) acc (by rfl) (HL.out.own.kept' ((Kept.refl _).alloc _)) (by simp; omega) wr.heap.size (F + (i : Int)) (by rfl) (by simp) (by have := HLL.out; omega) (wr.heap.size + 1) (by simp) ?_; intro g4 cap4 w4 o4 k4 a4 l4; obtain ⟨z0, z1, _, z3⟩ := HL.out.push ((Kept.refl wr).alloc _) o4 k4; have H4 := hidMk z3; clear o4 k4 a4 l4 z3)
        go_roundg (gk - 1)
        case measure => have := HIG.out; omega
        case rel => exact ⟨i + 1, _, by have := HIG.out; omega, by first | rfl | go_num, by rw [HUS.out]; exact H4.out⟩
      · obtain rfl : i = n := by omega
        have hlt : ¬ F + (i : Int) < t := fun e => hin ((HNT.out i).1 e)
        have HLEN := hidMk hll
        obtain ⟨ru, hru⟩ := hL.rc
        have hrf := hL.rf
        obtain ⟨da, dc, rfl, _⟩ := hL.own.sl (by rw [hll]; unfold maxLen; omega)
        have hl2 : ((List.range i).map (fun i => F + ((i : Nat) : Int))).length ≤ 100000 := by rw [hll]; omega
        clear hL hig hll hin
        generalize (List.range i).map (fun i => F + ((i : Nat) : Int)) = acc at *
        go_wp2_with fail
        obtain ⟨t1, t2, t3⟩ := HL.out.ret hl2
        exact lset_ret rfl w.heap.size _ rfl rfl t1 ⟨_, rfl, by rw [HU.out]; exact t2, t3⟩
end Go.Proofs.Ythbogpnkdlbilaa
