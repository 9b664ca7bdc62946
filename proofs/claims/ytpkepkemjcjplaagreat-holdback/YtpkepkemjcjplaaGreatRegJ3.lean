/- Regions beside coord: Join. -/
import Derived.Test.YtpkepkemjcjplaaGreatRegJ2
import Derived.Deep.RegionHeld3
namespace Go.Proofs.YtpkepkemjcjplaaGreat
open Go.RowKit Go.Maps
set_option linter.unusedSimpArgs false
set_option linter.unusedVariables false

theorem run_rs (w : World) (x y : Int) (A : Obj) (t : TypeId) : Rs ((w.alloc A).alloc (.cells #[.int .i64 x, .int .i64 y] t)) (some ⟨w.heap.size + 1, 0, none⟩) [(x, y)] := by
  obtain ⟨h1, h2⟩ := two_new (W := w.alloc A) (N := w.heap.size + 1) (by simp) (.int .i64 x) (.int .i64 y) t
  refine ⟨fun _ => ⟨w.heap.size + 1, 0, rfl, by simp, fun i hi => ?_⟩⟩
  have hi0 : i = 0 := by simp at hi; omega
  subst hi0
  exact ⟨h1, h2⟩
theorem run_in (f t x : Int) : inRg [(max f 0, t - 1)] x ↔ f ≤ x ∧ 0 ≤ x ∧ x < t := by
  rw [inR_cons]
  simp only
  constructor
  · rintro (h | h)
    · omega
    · exact absurd h (inR_nil x)
  · intro h
    exact .inl (by omega)
/-- Some sets in a row. -/
structure Sts (w : World) (a : Option Addr) (ls : List (List Rn)) : Prop where
  cells : 0 < ls.length → ∃ b o, a = some ⟨b, o, none⟩ ∧ b < w.heap.size ∧ ∀ i, i < ls.length → ∃ v, w.cell? ⟨b, o + i, none⟩ = some v ∧ SetIs w (.agg #[v]) (ls.getD i [])
theorem Sts.kept {w w' : World} {a : Option Addr} {ls : List (List Rn)} (h : Sts w a ls) (g : Kept w w') : Sts w' a ls :=
  ⟨fun hp => by
    obtain ⟨b, o, h1, h2, h3⟩ := h.cells hp
    exact ⟨b, o, h1, Nat.lt_of_lt_of_le h2 g.size, fun i hi => by
      obtain ⟨v, h4, h5⟩ := h3 i hi
      exact ⟨v, g.cellp h4, h5.kept g⟩⟩⟩
def catL (l : List Rn) (ls : List (List Rn)) : List Rn := ls.foldl (· ++ ·) l
theorem catL_take {l : List Rn} {ls : List (List Rn)} {k : Nat} (h : k < ls.length) : catL l (ls.take (k + 1)) = catL l (ls.take k) ++ ls.getD k [] := by
  unfold catL
  rw [List.take_succ_eq_append_getElem h, List.foldl_append]
  simp [List.getD, List.getElem?_eq_getElem h]
theorem catL_mem : ∀ {ls : List (List Rn)} {l : List Rn} {r : Rn}, r ∈ catL l ls ↔ r ∈ l ∨ ∃ t, t ∈ ls ∧ r ∈ t := by
  intro ls
  induction ls with
  | nil => intro l r; simp [catL]
  | cons t u ih =>
    intro l r
    rw [show catL l (t :: u) = catL (l ++ t) u from rfl, ih, List.mem_append]
    simp only [List.mem_cons, exists_eq_or_imp]
    exact or_assoc
theorem catL_in {ls : List (List Rn)} {l : List Rn} {x : Int} : inRg (catL l ls) x ↔ inRg l x ∨ ∃ t, t ∈ ls ∧ inRg t x := by
  constructor
  · rintro ⟨r, h, h1⟩
    rcases catL_mem.1 h with h | ⟨t, ht, h⟩
    · exact .inl ⟨r, h, h1⟩
    · exact .inr ⟨t, ht, r, h, h1⟩
  · rintro (⟨r, h, h1⟩ | ⟨t, ht, r, h, h1⟩)
    · exact ⟨r, catL_mem.2 (.inl h), h1⟩
    · exact ⟨r, catL_mem.2 (.inr ⟨t, ht, h⟩), h1⟩
theorem catL_len {l : List Rn} : ∀ {ls : List (List Rn)} {k : Nat}, (catL l (ls.take k)).length ≤ (catL l ls).length := by
  intro ls k
  have : ∀ (ls : List (List Rn)) (l : List Rn), l.length ≤ (catL l ls).length := by
    intro ls
    induction ls with
    | nil => intro l; exact Nat.le_refl _
    | cons t u ih => intro l; have := ih (l ++ t); rw [List.length_append] at this; exact Nat.le_trans (Nat.le_add_right _ _) this
  have e : catL l ls = catL (catL l (ls.take k)) (ls.drop k) := by
    unfold catL
    rw [← List.foldl_append, List.take_append_drop]
  rw [e]
  exact this _ _
set_option maxHeartbeats 2000000 in
theorem region_Join (v : Value) (l : List Rn) (b : Option Addr) (c : Nat) (ls : List (List Rn)) (w : World) (h : SetIs w v l) (hs : Sts w b ls) (hok : ∀ r, r ∈ catL l ls → okR r) (hl : (catL l ls).length ≤ 80000) (hk : ls.length ≤ 1000) :
    Calls Tryz.prog 48 #[v, .slice b ls.length c] w (SetPost w (fun x => inRg l x ∨ ∃ t, t ∈ ls ∧ inRg t x) (catL l ls).length) := by
  obtain ⟨a, d, rfl, h1, h2, h3⟩ := h
  have HS := hidMk hs
  have HOK := hidMk hok
  have hll : l.length ≤ 80000 := by have := catL_len (l := l) (ls := ls) (k := 0); simp [catL] at this; unfold catL at hl; omega
  have HCL := hidMk (show ∀ y, Kept w y → _ from fun y hy => slices_CloneR a d l y (h1.kept hy) h3 (by omega))
  clear h1 h3 hs hok
  have HW := hidMk (show Kept w ((w.alloc (.cells #[.slice a l.length d] 55)).alloc (.cells #[.slice none 0 0] 55)) from ((Kept.refl w).alloc _).alloc _)
  have hc0 := HCL.out _ HW.out
  have HC0 := hidMk hc0
  clear hc0 HCL
  go_enter Tryz.func48, Tryz.ntmps48
  go_wp2_with fail
  refine HC0.out.mono ?_
  rintro e w1 ⟨v1, rfl, ho1, k1⟩
  have HO1 := hidMk (show OwnR w1 (w.heap.size + 1 + 1) v1 l by have := ho1; simpa using this)
  have K1 := hidMk k1
  clear ho1 k1
  go_wp2_with fail
  go_loopg [5, 13] ls.length (fun g vv x wr => ∃ k : Nat, k + g = ls.length ∧ x = .int .i64 k ∧ OwnR wr (w.heap.size + 1 + 1) vv (catL l (ls.take k)) ∧ Kept ((w.alloc (.cells #[.slice a l.length d] 55)).alloc (.cells #[.slice none 0 0] 55)) wr)
  case atStart => exact ⟨0, by omega, rfl, HO1.out, K1.out⟩
  case round =>
    obtain ⟨k, hkg, rfl, hO, hkp⟩ := hrel
    have HKG := hidMk hkg
    have HK := hidMk hkp
    have hsz : w.heap.size + 1 + 1 ≤ wr.heap.size := by have := hkp.size; simpa using this
    have hcl := catL_len (l := l) (ls := ls) (k := k)
    by_cases hkn : k < ls.length
    · obtain ⟨bb, oo, rfl, hbb, hcs⟩ := (HS.out.kept (HW.out.trans hkp)).cells (by omega)
      obtain ⟨u, hu, ta, tc, htv, htr, htc, htn⟩ := hcs k hkn
      obtain rfl : u = .slice ta (ls.getD k []).length tc := by simpa using htv
      have HT := hidMk (catL_take (l := l) hkn)
      have hcl2 := catL_len (l := l) (ls := ls) (k := k + 1)
      rw [HT.out, List.length_append] at hcl2
      have HTR := hidMk htr
      have HTN := hidMk htn
      have HO := hidMk hO
      clear hcs hkp hO hkg htv htr htn
      generalize ls.getD k [] = t at *
      generalize catL l (ls.take k) = acc at *
      go_wp2_with (at_builtin; refine wpList_catR _ (by rfl) _ _ (by rfl) (w.heap.size + 1 + 1) _ acc t (by rfl) (HO.out.kept ((Kept.refl _).alloc _)) (by simp; omega) ta tc (by rfl) (HTR.out.kept ((Kept.refl _).alloc _)) HTN.out (by omega) ?_; intro v4 w4 o4 k4; have H4 := hidMk o4; have K4 := hidMk (Chg.kept (HK.out.alloc _) k4 (fun j hj => by have := (HO.out.lt j hj).1; simp; omega)); clear o4 k4)
      go_roundg (gk - 1)
      case measure => have := HKG.out; omega
      case rel => exact ⟨k + 1, by have := HKG.out; omega, by go_num, by rw [HT.out]; exact H4.out, K4.out⟩
    · have htk : ls.take k = ls := List.take_of_length_le (by omega)
      rw [htk] at hO
      obtain ⟨da, dc, rfl, _⟩ := hO.rs
      have HO := hidMk hO
      have hkk : ¬ ((k : Int) < (ls.length : Int)) := by omega
      have HJ := hidMk (region_joined hO HOK.out (by omega))
      have rc := hkp.cellp (b := w.heap.size + 1) (o := 0) (v := .slice none 0 0) (new_cellR (by simp) _ _)
      have rf := (hkp.frozen (p := ⟨w.heap.size + 1, 0, none⟩) (by simp)).trans (new_frozenR (by simp) _ _ 0)
      have HIN := hidMk (fun x => catL_in (l := l) (ls := ls) (x := x))
      clear hO hkp hkg hcl htk
      generalize hacc : catL l ls = acc at *
      have HACC := hidMk hacc
      clear hacc
      go_wp2_with fail
      refine HJ.out.mono ?_
      rintro e w5 ⟨a5, c5, m5, rfl, hs5, hc5, hn5, hb5, hN5, hm5, hl5, hc⟩
      have r1 := hc.cellp rc (fun e => by have := (HO.out.lt _ e).1; omega)
      have r2 := (hc.frozen (p := ⟨w.heap.size + 1, 0, none⟩) (cell_lt rc) (fun (e : (Value.slice da acc.length dc).ownBlock = some (w.heap.size + 1)) => by have := (HO.out.lt _ e).1; omega)).trans rf
      have HK5 := hidMk (show Kept w w5 from Chg.kept (HW.out.trans HK.out) hc (fun j hj => by have := (HO.out.lt j hj).1; omega))
      have H5 := hidMk hs5
      have HB5 := hidMk hb5
      have HNN := hidMk hn5
      have HN5 := hidMk hN5
      have HM5 := hidMk hm5
      clear hs5 hN5 hm5 hc rc rf hb5 hn5
      go_wp2_with fail
      have c2 : Chg (· = w.heap.size + 1) w5 (w5.setCell ⟨w.heap.size + 1, 0, none⟩ (.slice a5 m5.length c5)) := chg_set _ _ _ _
      exact set_ret1 rfl (w.heap.size + 1) (.slice a5 m5.length c5) _ rfl rfl r1 ⟨_, m5, rfl, ⟨a5, c5, rfl, H5.out.chg c2 (fun _ ad e => by have := HB5.out ad e; omega), hc5, HNN.out⟩, HN5.out, fun x => (HM5.out x).trans (HIN.out x), by rw [HACC.out]; exact hl5, HK5.out.setCell (p := ⟨w.heap.size + 1, 0, none⟩) (Nat.le_add_right _ _) _, fun ad n c e => by simp at e; have := HB5.out ad e.1; omega⟩
end Go.Proofs.YtpkepkemjcjplaaGreat
