/- log: rows of bytes in memory; noughts, ask, none. -/
import Derived.Test.YtapcmkhpbdphoaaBk4
import Derived.Deep.AppendLies
namespace Go.Proofs.Ytapcmkhpbdphoaa
open Go.RowKit Go.Maps
set_option linter.unusedSimpArgs false
set_option linter.unusedVariables false

theorem ownsRow_chgZ {S : Nat → Prop} {w w' : World} {B : Nat} {e : TypeId} {size : Nat} {v : Value} {n : Nat} {xs : List Value} (h : w.ownsRow B e size v n xs) (g : Chg S w w') (hb : ∀ k, v.ownBlock = some k → ¬ S k) : w'.ownsRow B e size v n xs := by
  obtain ⟨h0, h1 | ⟨k, cap, cur, hv, hb', hh, r⟩⟩ := h
  · exact ⟨h0, .inl h1⟩
  · subst hv
    refine ⟨h0, .inr ⟨k, cap, cur, rfl, hb', ?_, r⟩⟩
    have hlt : k < w.heap.size := by
      by_cases hlt : k < w.heap.size
      · exact hlt
      · rw [Array.getElem?_eq_none (by omega)] at hh; cases hh
    rw [g.block k hlt (hb k rfl)]
    exact hh
/-- Where bytes lie. -/
abbrev Sv := Option Addr × Nat × Nat
def q0 : Sv := (none, 0, 0)
/-- Rows of bytes: a row of one's own of where they lie, and these. -/
structure Rz (w : World) (B : Nat) (v : Value) (qs : List Sv) (rs : List (List Int)) : Prop where
  own : w.ownsRow B 33 1 v qs.length (qs.map slv3)
  len : rs.length = qs.length
  row : ∀ i, i < qs.length → Sl .u8 w (qs.getD i q0).1 (qs.getD i q0).2.1 (rs.getD i [])
  ap : ∀ q ∈ qs, ∀ ad, q.1 = some ad → v.ownBlock ≠ some ad.block ∧ ad.block < w.heap.size
section
variable {w y : World} {B : Nat} {v : Value} {qs : List Sv} {rs : List (List Int)}
theorem Rz.nil (w : World) (B : Nat) : Rz w B (.slice none 0 0) [] [] := ⟨World.ownsRow_nil _ _ _ _, rfl, fun i hi => absurd hi (by simp), by simp⟩
theorem Rz.olt (h : Rz w B v qs rs) : ∀ g, v.ownBlock = some g → B ≤ g ∧ g < w.heap.size := World.ownsRow.lt h.own
theorem qs_mem {i : Nat} (hi : i < qs.length) : qs.getD i q0 ∈ qs := by
  rw [List.getD_eq_getElem?_getD, List.getElem?_eq_getElem hi]
  exact List.getElem_mem hi
theorem Rz.chg {S : Nat → Prop} (h : Rz w B v qs rs) (k : Chg S w y) (h1 : ∀ g, v.ownBlock = some g → ¬ S g) (h2 : ∀ q ∈ qs, ∀ ad, q.1 = some ad → ¬ S ad.block) : Rz y B v qs rs :=
  ⟨ownsRow_chgZ h.own k h1, h.len, fun i hi => (h.row i hi).chgB k (fun ad e => h2 _ (qs_mem hi) ad e), fun q hq ad e => ⟨(h.ap q hq ad e).1, Nat.lt_of_lt_of_le (h.ap q hq ad e).2 k.size⟩⟩
theorem Rz.kept (h : Rz w B v qs rs) (k : Kept w y) : Rz y B v qs rs := h.chg (S := fun _ => False) (Chg.of_kept k) (fun _ _ e => e) (fun _ _ _ _ e => e)
theorem Rz.base {B' : Nat} (h : Rz w B v qs rs) (hB : B' ≤ B) : Rz w B' v qs rs := ⟨ownsRow_base h.own hB, h.len, h.row, h.ap⟩
theorem Rz.shape (h : Rz w B v qs rs) : ∃ a c, v = .slice a qs.length c ∧ qs.length ≤ c ∧ c ≤ 9223372036854775807 ∧ (∀ ad, a = some ad → B ≤ ad.block) := by
  obtain ⟨_, ⟨e, hz⟩ | ⟨g, cap, cur, hv, hb, hheap, hc, hcm, r⟩⟩ := h.own
  · exact ⟨none, 0, by rw [e, hz], by omega, by omega, by simp⟩
  · refine ⟨_, cap, hv, by have := hc; omega, by have : cap ≤ 2 ^ 63 - 1 := hcm; omega, fun ad e => ?_⟩
    cases e
    exact hb
theorem Rz.cell (h : Rz w B v qs rs) (hn : 0 < qs.length) : ∃ g cap, v = .slice (some ⟨g, 0, none⟩) qs.length cap ∧ B ≤ g ∧ g < w.heap.size ∧ ∀ k, k < qs.length → w.cell? ⟨g, k, none⟩ = some (slv3 (qs.getD k q0)) := by
  have ho := h.own
  obtain ⟨_, ⟨_, e⟩ | ⟨g, cap, cur, hv, hb', hh, r⟩⟩ := h.own
  · omega
  · subst hv
    have hl := h.olt g rfl
    refine ⟨g, cap, rfl, hl.1, hl.2, fun k hk => ?_⟩
    rw [ho.cellAt k (by omega)]
    simp [List.getD, hk]
theorem Rz.next (h : Rz w B v qs rs) {q : Sv} {r : List Int} (hr : Sl .u8 w q.1 q.2.1 r) (hq : ∀ ad, q.1 = some ad → v.ownBlock ≠ some ad.block ∧ ad.block < w.heap.size) {g' cap : Nat}
    (h2 : y.ownsRow B 33 1 (.slice (some ⟨g', 0, none⟩) (qs.length + 1) cap) (qs.length + 1) (qs.map slv3 ++ [slv3 q])) (h3 : Chg (fun k => v.ownBlock = some k) w y) (h4 : v.ownBlock = some g' ∨ g' = w.heap.size) :
    Rz y B (.slice (some ⟨g', 0, none⟩) (qs.length + 1) cap) (qs ++ [q]) (rs ++ [r]) := by
  have hl := h.len
  refine ⟨by simpa using h2, by simp [hl], fun i hi => ?_, fun p hp ad e => ?_⟩
  · rw [List.length_append, List.length_singleton] at hi
    by_cases e : i < qs.length
    · have e1 : (qs ++ [q]).getD i q0 = qs.getD i q0 := by rw [List.getD_eq_getElem?_getD, List.getD_eq_getElem?_getD, List.getElem?_append_left e]
      have e2 : (rs ++ [r]).getD i [] = rs.getD i [] := by rw [List.getD_eq_getElem?_getD, List.getD_eq_getElem?_getD, List.getElem?_append_left (by omega)]
      rw [e1, e2]
      exact (h.row i e).chgB h3 (fun ad e => (h.ap _ (qs_mem (by assumption)) ad e).1)
    · obtain rfl : i = qs.length := by omega
      have e1 : (qs ++ [q]).getD qs.length q0 = q := by simp [List.getD]
      have e2 : (rs ++ [r]).getD qs.length [] = r := by rw [← hl]; simp [List.getD]
      rw [e1, e2]
      exact hr.chgB h3 (fun ad e => (hq ad e).1)
  · have hh : v.ownBlock ≠ some ad.block ∧ ad.block < w.heap.size := by
      rcases List.mem_append.1 hp with hp | hp
      · exact h.ap p hp ad e
      · simp at hp; subst hp; exact hq ad e
    refine ⟨fun e2 => ?_, Nat.lt_of_lt_of_le hh.2 h3.size⟩
    simp only [Value.ownBlock, Option.some.injEq] at e2
    rcases h4 with h4 | h4
    · exact hh.1 (by rw [h4, e2])
    · omega
end
theorem zsinfo : ∃ i0, Try.prog.info? 33 = some i0 ∧ i0.zero = some (.slice none 0 0) ∧ i0.size = 1 ∧ i0.bytes = 24 := by
  have h : (Try.prog.info? 33).map (fun i => (i.zero, i.size, i.bytes)) = some (some (.slice none 0 0), 1, 24) := by kernel_rfl
  exact info_parts h
theorem one_newsZ {w : World} {g : Nat} {y : Value} (h : w.cell? ⟨g, 0, none⟩ = some y) : ∀ (j : Nat) u, [y][j]? = some u → w.cell? ((⟨g, 0, none⟩ : Addr).add j) = some u := by
  intro j u hj
  have : j = 0 ∨ 1 ≤ j := by omega
  rcases this with rfl | h1
  · simp at hj; subst hj; simpa [Addr.add] using h
  · rw [List.getElem?_eq_none (by simpa using h1)] at hj; cases hj
/-- One more row behind the others. -/
theorem wpList_pushZ {ops : Array Oper} {rest : List Oper} {o : Oper} {a : Act} {Q : Exit → Act → World → Prop} (w : World) (hgd : o.guard = none) (s x : Operand)
    (ho : o.op = .call { callee := .builtin .append, args := #[s, x], argTypes := #[22, 22] })
    (B : Nat) (v : Value) (qs : List Sv) (rs : List (List Int)) (hs : a.eval s = v) (hv : Rz w B v qs rs) (hB : B ≤ w.heap.size) (g : Nat) (q : Sv) (r : List Int) (hx : a.eval x = .slice (some ⟨g, 0, none⟩) 1 1) (hcell : w.cell? ⟨g, 0, none⟩ = some (slv3 q))
    (hr : Sl .u8 w q.1 q.2.1 r) (hq : ∀ ad, q.1 = some ad → v.ownBlock ≠ some ad.block ∧ ad.block < w.heap.size) (hn : qs.length ≤ 100000)
    (h : ∀ g' cap w', Rz w' B (.slice (some ⟨g', 0, none⟩) (qs.length + 1) cap) (qs ++ [q]) (rs ++ [r]) → Chg (fun k => v.ownBlock = some k) w w' → (v.ownBlock = some g' ∨ g' = w.heap.size) → wpList Try.prog ops Q rest (a.put o.dst (.slice (some ⟨g', 0, none⟩) (qs.length + 1) cap)) w') : wpList Try.prog ops Q (o :: rest) a w := by
  obtain ⟨i0, hi1, hz0, hz1, hz2⟩ := zsinfo
  refine wpList_append_lies w hgd s x 22 ho B 33 i0 (.slice none 0 0) 1 24 Try.underlying22 hi1 hz0 hz1 hz2 rfl (by decide) v _ _ hs hv.own ⟨g, 0, none⟩ 1 1 [slv3 q] hx rfl (one_newsZ hcell) (by intro u hu; simp at hu; subst hu; rfl) (by omega) (by unfold maxLen; omega) (by omega) hB w.heap.size rfl ?_
  intro g' cap w' h2 h3 h4 h5
  have hc : Chg (fun k => v.ownBlock = some k) w w' := (Chg.refl _ w).grown h3 (fun k hk => .inl hk)
  exact h g' cap w' (hv.next hr hq h2 hc h4) hc h4
theorem step_pushZ {ops : Array Oper} {o : Oper} {a : Act} {K : Act → World → Prop} {Q : Exit → Act → World → Prop} {E : Prop} (w : World) (hgd : o.guard = none) (s x : Operand)
    (ho : o.op = .call { callee := .builtin .append, args := #[s, x], argTypes := #[22, 22] })
    (B : Nat) (v : Value) (qs : List Sv) (rs : List (List Int)) (hs : a.eval s = v) (hv : Rz w B v qs rs) (hB : B ≤ w.heap.size) (g : Nat) (q : Sv) (r : List Int) (hx : a.eval x = .slice (some ⟨g, 0, none⟩) 1 1) (hcell : w.cell? ⟨g, 0, none⟩ = some (slv3 q))
    (hr : Sl .u8 w q.1 q.2.1 r) (hq : ∀ ad, q.1 = some ad → v.ownBlock ≠ some ad.block ∧ ad.block < w.heap.size) (hn : qs.length ≤ 100000)
    (h : ∀ g' cap w', Rz w' B (.slice (some ⟨g', 0, none⟩) (qs.length + 1) cap) (qs ++ [q]) (rs ++ [r]) → Chg (fun k => v.ownBlock = some k) w w' → (v.ownBlock = some g' ∨ g' = w.heap.size) → K (a.put o.dst (.slice (some ⟨g', 0, none⟩) (qs.length + 1) cap)) w') :
    if Region.wanted o (yielded ops a.tmps) = true then Oper.wp Try.prog o a w K Q else E := by
  obtain ⟨i0, hi1, hz0, hz1, hz2⟩ := zsinfo
  refine step_append_lies w hgd s x 22 ho B 33 i0 (.slice none 0 0) 1 24 Try.underlying22 hi1 hz0 hz1 hz2 rfl (by decide) v _ _ hs hv.own ⟨g, 0, none⟩ 1 1 [slv3 q] hx rfl (one_newsZ hcell) (by intro u hu; simp at hu; subst hu; rfl) (by omega) (by unfold maxLen; omega) (by omega) hB w.heap.size rfl ?_
  intro g' cap w' h2 h3 h4 h5
  have hc : Chg (fun k => v.ownBlock = some k) w w' := (Chg.refl _ w).grown h3 (fun k hk => .inl hk)
  exact h g' cap w' (hv.next hr hq h2 hc h4) hc h4

/-- All 0. -/
def nilB (l : List Int) : Prop := ∀ j, j < l.length → l.getD j 0 = 0
theorem nought_fn (c : Int) (w : World) : Calls Try.prog 49 #[.int .u8 c] w fun e w' => e = .returned (.bool (c != 0)) ∧ w' = w := by
  go_enter Try.func49, Try.ntmps49
  go_wp2
  go_ret
  exact ⟨rfl, rfl⟩
set_option maxHeartbeats 400000 in
theorem ix_noughts (a : Option Addr) (n c : Nat) (l : List Int) (w : World) (hs : Sl .u8 w a n l) :
    Calls Try.prog 59 #[.slice a n c, .func (.func 49) #[] #[]] w fun e w' => (∃ x : Int, e = .returned (.int .i64 x) ∧ (0 ≤ x ↔ ¬ nilB l)) ∧ w' = w := by
  have H := hidMk hs
  have hbig := hs.big
  have hlen := hs.len
  unfold maxLen at hbig
  clear hs
  go_enter Try.func59, Try.ntmps59
  go_wp2
  go_loopw [5, 8] (fun _ i wr => ∃ k : Nat, k ≤ n ∧ i = .int .i64 k ∧ wr = w ∧ Hid (∀ j, j < k → l.getD j 0 = 0)) (fun _ i _ => n - (intOf i).toNat)
  case atStart => exact ⟨0, Nat.zero_le _, rfl, rfl, hidMk fun j hj => absurd hj (by omega)⟩
  case round =>
    obtain ⟨k, hk, rfl, rfl, HJ⟩ := hrel
    by_cases hkn : k < n
    · obtain ⟨b, o, rfl, hb, hcs⟩ := H.out.cells (by omega)
      have hcell := hcs k hkn
      clear hcs
      generalize hx : l.getD k 0 = x at hcell
      have H1 := hidMk hx
      clear hx
      by_cases h0 : x = 0
      · subst h0
        have hc := nought_fn 0
        have hkn' : (k : Int) < (n : Int) := by omega
        go_wp2_with (go_at_call 49; refine (hc _).mono ?_; rintro e w1 ⟨rfl, rfl⟩)
        go_round
        case measure => simp [intOf]; omega
        case rel => exact ⟨k + 1, by omega, by go_num, trivial, hidMk fun j hj => by
          by_cases e : j = k
          · subst e; exact H1.out
          · exact HJ.out j (by omega)⟩
      · have hd : (x != 0) = true := by simpa using h0
        have hc := nought_fn x
        rw [hd] at hc
        have hkn' : (k : Int) < (n : Int) := by omega
        go_wp2_with (go_at_call 49; refine (hc _).mono ?_; rintro e w1 ⟨rfl, rfl⟩)
        go_ret
        exact ⟨⟨k, rfl, by constructor
                           · intro _ hn; exact h0 (by rw [← H1.out]; exact hn k (by omega))
                           · intro _; omega⟩, rfl⟩
    · have hkk : ¬ ((k : Int) < (n : Int)) := by omega
      go_wp2
      go_ret
      exact ⟨⟨-1, rfl, by constructor
                          · intro h; omega
                          · intro h; exact absurd (fun j hj => HJ.out j (by omega)) h⟩, rfl⟩
theorem log_noughts (a : Option Addr) (n c : Nat) (l : List Int) (w : World) (hs : Sl .u8 w a n l) (h0 : nilB l) : Calls Try.prog 37 #[.slice a n c] w fun e w' => e = .returned (.bool true) ∧ w' = w := by
  have HC : Hid (Calls Try.prog 48 #[.slice a n c, .func (.func 49) #[] #[]] w fun e w' => e = .returned (.bool false) ∧ w' = w) := hidMk (by
    have HI := hidMk (ix_noughts a n c l w hs)
    have H0 := hidMk h0
    clear hs h0
    go_enter Try.func48, Try.ntmps48
    go_wp2_with (go_at_call 59; refine HI.out.mono ?_; rintro e w1 ⟨⟨x, rfl, hx⟩, rfl⟩; have hx2 : x < 0 := Int.not_le.1 (fun h => hx.1 h H0.out); clear hx)
    go_ret
    refine ⟨?_, rfl⟩
    congr 2
    simp
    omega)
  clear hs h0
  go_enter Try.func37, Try.ntmps37
  go_wp2_with (go_at_call 48; refine HC.out.mono ?_; rintro e w1 ⟨rfl, rfl⟩)
  go_ret
  exact ⟨rfl, rfl⟩
/-- What is wrong with blocks of a file. -/
def askE (N : Nat) (fr to : Int) : Int := if fr < 0 ∨ to ≤ fr ∨ (N : Int) < to then 2 else 0
theorem ask_nil (fr to : Int) (w : World) : Calls Try.prog 31 #[.pointer none, .int .i64 fr, .int .i64 to] w fun e w' => e = .returned (.int .i64 1) ∧ w' = w := by
  go_enter Try.func31, Try.ntmps31
  go_wp2_with fail
  go_ret
  exact ⟨rfl, rfl⟩
theorem ask_ok {w : World} {f d N : Nat} {s : Bf} (h : Fl w f d N s) (fr to : Nat) (h1 : fr < to) (h2 : to ≤ N) : Calls Try.prog 31 #[.pointer (some ⟨f, 0, none⟩), .int .i64 fr, .int .i64 to] w fun e w' => e = .returned (.int .i64 0) ∧ w' = w := by
  have HS := hidMk (bk_Size h)
  have e1 : ¬ ((fr : Int) < 0) := by omega
  have e2 : ¬ ((to : Int) ≤ (fr : Int)) := by omega
  have e3 : ¬ ((N : Int) < (to : Int)) := by omega
  clear h
  go_enter Try.func31, Try.ntmps31
  go_wp2_with (go_at_call 44; refine HS.out.mono ?_; rintro e w1 ⟨rfl, rfl⟩)
  go_ret
  exact ⟨rfl, rfl⟩
theorem none_nil (w : World) : Calls Try.prog 23 #[.pointer none] w fun e w' => e = .returned (.bool true) ∧ w' = w := by
  go_enter Try.func23, Try.ntmps23
  go_wp2_with fail
  go_ret
  exact ⟨rfl, rfl⟩
theorem none_ok (p f : Nat) (w : World) (h : w.cell? ⟨p, 0, none⟩ = some (.pointer (some ⟨f, 0, none⟩))) : Calls Try.prog 23 #[.pointer (some ⟨p, 0, none⟩)] w fun e w' => e = .returned (.bool false) ∧ w' = w := by
  go_enter Try.func23, Try.ntmps23
  go_wp2_with fail
  go_ret
  exact ⟨rfl, rfl⟩
end Go.Proofs.Ytapcmkhpbdphoaa
