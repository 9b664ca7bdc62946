/- region: Of, Run, Clone, Join. -/
import Derived.Test.YthbogpnkdlbilaaReg6
import Derived.Laws.AppendOwnNone
namespace Go.Proofs.Ythbogpnkdlbilaa
open Go.RowKit Go.Maps
set_option linter.unusedSimpArgs false
set_option linter.unusedVariables false

theorem chg_set (w : World) (g j : Nat) (v : Value) : Chg (· = g) w (w.setCell ⟨g, j, none⟩ v) := (Chg.refl (· = g) w).setCell (p := ⟨g, j, none⟩) (.inl rfl) _
theorem rs_news {w : World} {ad : Addr} {l : List Rn} (h : Rs w (some ad) l) : ∀ (j : Nat) u, (flatR l)[j]? = some u → w.cell? (ad.add j) = some u := by
  intro j u hj
  have hjn : j < l.length * 2 := by
    have := (List.getElem?_eq_some_iff.1 hj).1
    rw [flatR_len] at this
    exact this
  obtain ⟨bb, oo, e, _, hcs⟩ := h.cells (by omega)
  cases e
  obtain ⟨c1, c2⟩ := hcs (j / 2) (by omega)
  obtain ⟨g1, g2⟩ := flatR_get l (j / 2) (by omega)
  rw [Addr.add_lit]
  rcases Nat.mod_two_eq_zero_or_one j with h0 | h0
  · have e : j / 2 * 2 = j := by omega
    rw [e] at c1 g1
    rw [c1, ← hj, g1]
  · have e : j / 2 * 2 + 1 = j := by omega
    rw [Nat.add_assoc, e] at c2
    rw [e] at g2
    rw [c2, ← hj, g2]
/-- All runs of a set behind an own row. -/
theorem wpList_catR {ops : Array Oper} {rest : List Oper} {o : Oper} {a : Act} {Q : Exit → Act → World → Prop} (w : World) (hgd : o.guard = none) (s x : Operand)
    (ho : o.op = .call { callee := .builtin .append, args := #[s, x], argTypes := #[26, 26] })
    (B : Nat) (v : Value) (l t : List Rn) (hs : a.eval s = v) (hv : OwnR w B v l) (hB : B ≤ w.heap.size) (b : Option Addr) (c : Nat) (hx : a.eval x = .slice b t.length c) (hR : Rs w b t) (hbn : b = none → t = [] ∧ c = 0)
    (h47 : l.length + t.length ≤ 200000)
    (h : ∀ v' w', OwnR w' B v' (l ++ t) → Chg (fun k => v.ownBlock = some k) w w' → wpList Try.prog ops Q rest (a.put o.dst v') w') : wpList Try.prog ops Q (o :: rest) a w := by
  obtain ⟨i0, hi0, hz0, hz1, hz2⟩ := rinfo
  cases b with
  | none =>
    obtain ⟨rfl, rfl⟩ := hbn rfl
    refine wpList_append_own_none hgd s x 26 ho B 47 i0 2 Try.underlying26 hi0 v _ _ hs hv hx (h v w (by simpa using hv) (Chg.refl _ _))
  | some ad =>
    refine wpList_append_own_wide w hgd s x 26 ho B 47 i0 _ 2 16 Try.underlying26 hi0 hz0 hz1 hz2 rfl (by decide) v _ _ hs hv ad t.length c (flatR t) hx (flatR_len t) (rs_news hR) (flatR_one t) (by unfold maxLen; omega) (by omega) hB ?_
    intro v' w' h2 h3 _
    refine h v' w' ?_ ((Chg.refl _ w).grown h3 (fun k hk => .inl hk))
    unfold OwnR
    rw [flatR_app, List.length_append]
    exact h2
theorem slices_CloneR (a : Option Addr) (c : Nat) (l : List Rn) (w : World) (hs : Rs w a l) (hn : a = none → l = [] ∧ c = 0) (hl : l.length ≤ 100000) :
    Calls Try.prog 30 #[.slice a l.length c] w fun e w' => ∃ v, e = .returned v ∧ OwnR w' w.heap.size v l ∧ Kept w w' := by
  have q : ∀ (w : World) (a : Option Addr) (n c n' c' : Nat), (binOp .eql 26 (.slice a n c) (.slice none n' c')).run Try.prog w = .ok (.bool a.isNone) w := fun w a n c n' c' => Lib.run_eql_slice_nil w _ _ a n c n' c' Try.underlying26
  cases a with
  | none =>
    obtain ⟨rfl, rfl⟩ := hn rfl
    clear hs
    go_enter Try.func30, Try.ntmps30
    go_wp2
    go_ret
    exact ⟨_, rfl, ownR_nil _ _, Kept.refl _⟩
  | some ad =>
    have H := hidMk hs
    clear hs hn
    go_enter Try.func30, Try.ntmps30
    go_wp2_with (at_builtin; refine wpList_catR _ (by rfl) _ _ (by rfl) w.heap.size (.slice (some ⟨w.heap.size, 0, none⟩) 0 0) [] l (by rfl) (World.ownsRow_made w #[] 0 (Nat.le_refl _) (Nat.zero_le _) (by simp)) (by simp) (some ad) c (by rfl) (H.out.kept ((Kept.refl w).alloc _)) (fun e => by cases e) (by simp; omega) ?_; intro v' w1 o4 k4; have H4 := hidMk o4; have K4 := hidMk (show Kept w w1 from Chg.kept ((Kept.refl w).alloc _) k4 (fun j hj => by simp [Value.ownBlock] at hj; omega)); clear o4 k4)
    go_wp2
    go_ret
    exact ⟨_, rfl, by simpa using H4.out, K4.out⟩
def ofR (l : List Int) : List Rn := (l.filter fun x => decide (0 ≤ x)).map fun x => (x, x)
theorem ofR_take {l : List Int} {k : Nat} (h : k < l.length) : ofR (l.take (k + 1)) = if 0 ≤ l.getD k 0 then ofR (l.take k) ++ [(l.getD k 0, l.getD k 0)] else ofR (l.take k) := by
  unfold ofR
  rw [List.take_succ_eq_append_getElem h, List.filter_append, List.map_append]
  have e : l.getD k 0 = l[k] := by simp [List.getD, List.getElem?_eq_getElem h]
  rw [e]
  by_cases c : 0 ≤ l[k]
  · simp [c]
  · simp [c]
theorem ofR_len (l : List Int) : (ofR l).length ≤ l.length := by unfold ofR; rw [List.length_map]; exact List.length_filter_le _ _
theorem inR_ofR (l : List Int) (x : Int) : inR (ofR l) x ↔ x ∈ l ∧ 0 ≤ x := by
  unfold inR ofR
  constructor
  · rintro ⟨r, hr, h1, h2⟩
    rw [List.mem_map] at hr
    obtain ⟨y, hy, rfl⟩ := hr
    rw [List.mem_filter] at hy
    simp only at h1 h2
    have : x = y := by omega
    subst this
    simpa using hy
  · rintro ⟨h1, h2⟩
    exact ⟨(x, x), List.mem_map.2 ⟨x, List.mem_filter.2 ⟨h1, by simpa using h2⟩, rfl⟩, Int.le_refl _, Int.le_refl _⟩
theorem ofR_ok {l : List Int} (h : ∀ x, x ∈ l → isI x) : ∀ r, r ∈ ofR l → okR r := by
  intro r hr
  unfold ofR at hr
  rw [List.mem_map] at hr
  obtain ⟨y, hy, rfl⟩ := hr
  rw [List.mem_filter] at hy
  have := h y hy.1
  have h2 := hy.2
  simp at h2
  unfold isI at this
  unfold okR top
  simp only
  omega
/-- A set by which numbers are in it. -/
def SetPost (w : World) (P : Int → Prop) (n : Nat) (e : Ending) (w' : World) : Prop := ∃ v' m, e = .returned v' ∧ SetIs w' v' m ∧ Norm m ∧ (∀ x, inR m x ↔ P x) ∧ m.length ≤ n ∧ Kept w w'
theorem set_ret1 {R : Ending → World → Prop} {fn : Func} {p : Tmp} (hfn : fn.results = #[.cell p 28]) {a : Act} {w : World} (g : Nat) (v u : Value) (hp : a.tmps.getD p undef = .pointer (some ⟨g, 0, none⟩)) (hd : a.defers = [])
    (c0 : w.cell? ⟨g, 0, none⟩ = some u) (h : R (.returned (.agg #[v])) (w.setCell ⟨g, 0, none⟩ v)) : bodyPost Try.prog fn R .ret a (w.setCell ⟨g, 0, none⟩ v) :=
  set_ret hfn g v hp hd (World.cell?_setCell_same _ _ _ c0) h
set_option maxHeartbeats 2000000 in
theorem region_Of (a : Option Addr) (n c : Nat) (l : List Int) (w : World) (hs : Sl .i64 w a n l) (hI : ∀ x, x ∈ l → isI x) (hn : n ≤ 1000) :
    Calls Try.prog 10 #[.slice a n c] w (SetPost w (fun x => x ∈ l ∧ 0 ≤ x) n) := by
  have HS := hidMk hs
  have HI := hidMk hI
  have hlen := hs.len
  clear hs hI
  go_enter Try.func10, Try.ntmps10
  go_wp2_with fail
  go_loopg [3, 8] n (fun g v x wr => ∃ k : Nat, k + g = n ∧ x = .int .i64 k ∧ OwnR wr (w.heap.size + 1) v (ofR (l.take k)) ∧ Kept (w.alloc (.cells #[.slice none 0 0] 28)) wr)
  case atStart => exact ⟨0, by omega, rfl, ownR_nil _ _, Kept.refl _⟩
  case round =>
    obtain ⟨k, hkg, rfl, hO, hk⟩ := hrel
    have HKG := hidMk hkg
    have HK := hidMk hk
    have HO := hidMk hO
    have hsz : w.heap.size + 1 ≤ wr.heap.size := by have := hk.size; simpa using this
    have hol := ofR_len (l.take k)
    rw [List.length_take] at hol
    by_cases hkn : k < n
    · obtain ⟨b, o, rfl, hb, hcs⟩ := HS.out.cells (by omega)
      have hc := hk.cellp (((Kept.refl w).alloc _).cellp (hcs k hkn))
      have HT := hidMk (ofR_take (l := l) (k := k) (by omega))
      obtain ⟨da, dc, rfl, _⟩ := hO.rs
      clear hcs hk hO hkg
      generalize l.getD k 0 = x at *
      generalize ofR (l.take k) = acc at *
      by_cases hx : 0 ≤ x
      · rw [if_pos hx] at HT
        go_wp2_with (at_builtin; refine wpList_pushR _ (by rfl) _ _ (by rfl) (w.heap.size + 1) (.slice da acc.length dc) acc (by rfl) (HO.out.kept ((Kept.refl _).alloc _)) (by simp; omega) wr.heap.size (x, x) (by rfl) (by simp) (by simp) (by omega) (wr.heap.size + 1) (by simp) ?_; intro g4 cap4 w4 o4 k4 a4 l4; have H4 := hidMk o4; have K4 := hidMk (Chg.kept (HK.out.alloc _) k4 (fun j hj => by have := (HO.out.lt j hj).1; simp; omega)); clear o4 k4 a4 l4)
        go_roundg (gk - 1)
        case measure => have := HKG.out; omega
        case rel => exact ⟨k + 1, by have := HKG.out; omega, by go_num, by rw [HT.out]; exact H4.out, K4.out⟩
      · rw [if_neg hx] at HT
        go_wp2_with fail
        go_roundg (gk - 1)
        case measure => have := HKG.out; omega
        case rel => exact ⟨k + 1, by have := HKG.out; omega, by go_num, by rw [HT.out]; exact HO.out, HK.out⟩
    · have htk : l.take k = l := List.take_of_length_le (by omega)
      rw [htk] at HO hO
      obtain ⟨da, dc, rfl, _⟩ := hO.rs
      have hkk : ¬ ((k : Int) < (n : Int)) := by omega
      have hJ := region_joined hO (ofR_ok HI.out) (by have := ofR_len l; omega)
      have HJ := hidMk hJ
      have rc := hk.cellp (b := w.heap.size) (o := 0) (v := .slice none 0 0) (by simp)
      have rf := (hk.frozen (p := ⟨w.heap.size, 0, none⟩) (by simp)).trans (show (w.alloc (.cells #[.slice none 0 0] 28)).frozen? ⟨w.heap.size, 0, none⟩ = false by simp)
      have HIN := hidMk (inR_ofR l)
      have HOL := hidMk (ofR_len l)
      clear hO hJ hk hkg hol htk
      generalize ofR l = acc at *
      go_wp2_with fail
      refine HJ.out.mono ?_
      rintro e w5 ⟨a5, c5, m5, rfl, hs5, hc5, hn5, hb5, hN5, hm5, hl5, hc⟩
      have r1 := hc.cellp rc (fun e => by have := (HO.out.lt _ e).1; omega)
      have r2 := (hc.frozen (p := ⟨w.heap.size, 0, none⟩) (cell_lt rc) (fun (e : (Value.slice da acc.length dc).ownBlock = some w.heap.size) => by have := (HO.out.lt _ e).1; omega)).trans rf
      have HK5 := hidMk (show Kept w w5 from Chg.kept (((Kept.refl w).alloc _).trans HK.out) hc (fun j hj => by have := (HO.out.lt j hj).1; omega))
      have H5 := hidMk hs5
      have HB5 := hidMk hb5
      have HNN := hidMk hn5
      have HN5 := hidMk hN5
      have HM5 := hidMk hm5
      clear hs5 hN5 hm5 hc rc rf hb5 hn5
      go_wp2_with fail
      have c2 : Chg (· = w.heap.size) w5 (w5.setCell ⟨w.heap.size, 0, none⟩ (.slice a5 m5.length c5)) := chg_set _ _ _ _
      exact set_ret1 rfl w.heap.size (.slice a5 m5.length c5) _ rfl rfl r1 ⟨_, m5, rfl, ⟨a5, c5, rfl, H5.out.chg c2 (fun _ ad e => by have := HB5.out ad e; omega), hc5, HNN.out⟩, HN5.out, fun x => (HM5.out x).trans (HIN.out x), by have := HOL.out; omega, HK5.out.setCell (p := ⟨w.heap.size, 0, none⟩) (Nat.le_refl _) _⟩
end Go.Proofs.Ythbogpnkdlbilaa
