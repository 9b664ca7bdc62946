/- WirePuts: numbers and texts behind bytes. -/
import Derived.Test.YtolihnipoggokaaRefWire3
namespace Go.Proofs.Ytolihnipoggokaa
open Go.RowKit
set_option linter.unusedSimpArgs false
set_option linter.unusedVariables false

theorem Lentd.kept {w w' : World} {g n c : Nat} {l : List Int} (h : Lentd w g n c l) (k : Kept w w') : Lentd w' g n c l := ⟨h.sl.kept k, h.cap, h.len, Nat.lt_of_lt_of_le h.lt k.size⟩
theorem Lentd.but {w w' : World} {g n c b : Nat} {l : List Int} (h : Lentd w g n c l) (k : But b w w') (hne : g ≠ b) : Lentd w' g n c l :=
  ⟨h.sl.but k (fun _ ad ha => by cases ha; exact hne), h.cap, h.len, Nat.lt_of_lt_of_le h.lt k.size⟩
theorem Lentd.own {w : World} {g n c : Nat} {l : List Int} (h : Lentd w g n c l) : Sl .u8 w (some ⟨g, 0, none⟩) n l := by
  have := sl_take h.sl n (by omega)
  rwa [show (l ++ twelve).take n = l by rw [← h.len, List.take_left]] at this
theorem Owned.kept {w0 w w' : World} {v : Value} {l : List Int} (h : Owned w0 w v l) (k : Kept w w') : Owned w0 w' v l := by
  obtain ⟨h0, h1 | ⟨g, cap, cur, hv, hb, hheap, r⟩⟩ := h
  · exact ⟨h0, .inl h1⟩
  · refine ⟨h0, .inr ⟨g, cap, cur, hv, hb, ?_, r⟩⟩
    rw [k.block g (by
      by_cases hlt : g < w.heap.size
      · exact hlt
      · rw [Array.getElem?_eq_none (by omega)] at hheap; cases hheap)]
    exact hheap
theorem Owned.but {w0 w w' : World} {b : Nat} {g n c : Nat} {l : List Int} (h : Owned w0 w (.slice (some ⟨g, 0, none⟩) n c) l) (k : But b w w') (hne : g ≠ b) : Owned w0 w' (.slice (some ⟨g, 0, none⟩) n c) l := by
  obtain ⟨h0, ⟨e, _⟩ | ⟨g', cap, cur, hv, hb, hheap, r⟩⟩ := h
  · cases e
  · cases hv
    refine ⟨h0, .inr ⟨g, c, cur, rfl, hb, ?_, r⟩⟩
    rw [k.block g (by
      by_cases hlt : g < w.heap.size
      · exact hlt
      · rw [Array.getElem?_eq_none (by omega)] at hheap; cases hheap) hne]
    exact hheap
/-- An own row that is not empty. -/
theorem owned_at {w0 w : World} {v : Value} {l : List Int} (h : Owned w0 w v l) (hp : 0 < l.length) : ∃ g c, v = .slice (some ⟨g, 0, none⟩) l.length c ∧ w0.heap.size ≤ g ∧ g < w.heap.size := by
  have h' := h
  obtain ⟨h0, ⟨e, hz⟩ | ⟨g, cap, cur, hv, hb, hheap, r⟩⟩ := h
  · omega
  · refine ⟨g, cap, hv, hb, ?_⟩
    by_cases hlt : g < w.heap.size
    · exact hlt
    · rw [Array.getElem?_eq_none (by omega)] at hheap; cases hheap
theorem owned_slx {w0 w : World} {a : Option Addr} {n c : Nat} {l : List Int} (h : Owned w0 w (.slice a n c) l) (hn : l.length = n) (hm : n ≤ maxLen) : Sl .u8 w a n l := by
  obtain ⟨a', c', e, hs, _⟩ := owned_sl h (by omega)
  cases e
  rw [hn] at hs
  exact hs
theorem app_isB {l m : List Int} (h1 : ∀ x ∈ l, isB x) (h2 : ∀ x ∈ m, isB x) : ∀ x ∈ l ++ m, isB x := by
  intro x hx
  rcases List.mem_append.1 hx with hx | hx
  · exact h1 x hx
  · exact h2 x hx
theorem txt_isB (s : ByteArray) : ∀ x ∈ txt s, isB x := app_isB (enc_isB _) (byt_isB s)
theorem allB_isB (l : List Int) : ∀ x ∈ allB l, isB x := by
  intro x hx
  obtain ⟨s, _, h⟩ := List.mem_flatMap.1 hx
  exact enc_isB _ x h

set_option maxHeartbeats 4000000 in
set_option maxRecDepth 100000 in
theorem law_WirePuts (a0 : Option Addr) (n0 c0 : Nat) (lb : List Int) (x : Int) (s : ByteArray) (a3 : Option Addr) (n3 c3 : Nat) (l : List Int) (w : World)
    (h0 : Sl .u8 w a0 n0 lb) (hb : ∀ x ∈ lb, isB x) (e0 : a0 = none → c0 = 0) (k0 : n0 ≤ c0) (hx : isI x) (hs : s.size ≤ maxLen) (h3 : Sl .i64 w a3 n3 l) (hl : ∀ x ∈ l, isI x) :
    Calls Try.prog 3 #[.slice a0 n0 c0, .int .i64 x, .string s, .slice a3 n3 c3] w fun e w' => e = .returned (.bool true) ∧ Kept w w' := by
  have H0 := hidMk h0
  have HB := hidMk hb
  have E0 := hidMk e0
  have HX := hidMk hx
  have H3 := hidMk h3
  have HL := hidMk hl
  have b0 : n0 ≤ 9223372036854775807 := h0.big
  have b3 : n3 ≤ 9223372036854775807 := h3.big
  have l0 := h0.len
  have l3 := h3.len
  have hs' : s.size ≤ 9223372036854775807 := hs
  clear h0 hb e0 hx h3 hl hs
  by_cases q0 : 5000 < n0
  · have q0' : (5000 : Int) < (n0 : Int) := by omega
    go_enter Try.func3, Try.ntmps3
    go_wp2_with (go_at_call 5; refine (law_known _).mono ?_; rintro e w3 ⟨rfl, k3⟩)
    go_ret
    exact ⟨rfl, k3⟩
  have q0' : (n0 : Int) ≤ (5000 : Int) := by omega
  by_cases q1 : 9000 < s.size
  · have q1' : (9000 : Int) < (s.size : Int) := by omega
    go_enter Try.func3, Try.ntmps3
    go_wp2_with (go_at_call 5; refine (law_known _).mono ?_; rintro e w3 ⟨rfl, k3⟩)
    go_ret
    exact ⟨rfl, k3⟩
  have q1' : (s.size : Int) ≤ (9000 : Int) := by omega
  by_cases q2 : 1000 < n3
  · have q2' : (1000 : Int) < (n3 : Int) := by omega
    go_enter Try.func3, Try.ntmps3
    go_wp2_with (go_at_call 5; refine (law_known _).mono ?_; rintro e w3 ⟨rfl, k3⟩)
    go_ret
    exact ⟨rfl, k3⟩
  have q2' : (n3 : Int) ≤ (1000 : Int) := by omega
  go_enter Try.func3, Try.ntmps3
  go_wp2_with fail
  refine (ref_Lent a0 n0 c0 lb _ H0.out E0.out (by omega)).mono ?_
  rintro e w1 ⟨g, d, rfl, hg, r1, k1⟩
  have R1 := hidMk r1
  have K1 := hidMk k1
  have hg1 := r1.lt
  have hd1 := r1.cap
  clear r1 k1
  go_wp2_with fail
  refine (wire_Put (some ⟨g, 0, none⟩) n0 d lb x _ R1.out.own (by omega) HX.out (by omega)).mono ?_
  rintro e w2 ⟨v2, rfl, o2, k2⟩
  have hlx : 0 < (lb ++ encI x).length := by rw [List.length_append]; have := enc_pos (zig x); show 0 < lb.length + (enc (zig x)).length; omega
  have hlx2 := encI_len x HX.out
  have hlx3 : (lb ++ encI x).length ≤ 10000 := by rw [List.length_append]; omega
  obtain ⟨gx, cx, rfl, hx1, hx2⟩ := owned_at o2 hlx
  have O2 := hidMk o2
  have K2 := hidMk k2
  clear o2 k2 hlx
  generalize hnx : (lb ++ encI x).length = nx at *
  have HNX := hidMk hnx
  clear hnx
  go_wp2_with fail
  refine (wire_Text (some ⟨g, 0, none⟩) n0 d lb s _ (R1.out.kept K2.out).own (by omega) (by omega)).mono ?_
  rintro e w3 ⟨v3, rfl, o3, k3⟩
  have hsz : isI (s.size : Int) := by unfold isI; omega
  have hly2 := encI_len (s.size : Int) hsz
  have hlyt : (lb ++ txt s).length = lb.length + ((encI (s.size : Int)).length + s.size) := by unfold txt; rw [List.length_append, List.length_append, byt_len]
  have hly : 0 < (lb ++ txt s).length := by rw [hlyt]; have := enc_pos (zig (s.size : Int)); have h : 0 < (encI (s.size : Int)).length := this; omega
  obtain ⟨gy, cy, rfl, hy1, hy2⟩ := owned_at o3 hly
  have O3 := hidMk o3
  have K3 := hidMk k3
  have hly3 : (lb ++ txt s).length ≤ 20000 := by omega
  clear o3 k3 hly hlyt hly2 hsz
  generalize hny : (lb ++ txt s).length = ny at *
  have HNY := hidMk hny
  clear hny
  go_wp2_with fail
  refine (ref_Put a0 n0 c0 lb x _ (H0.out.kept ((K1.out.trans K2.out).trans K3.out)) E0.out HX.out (by omega)).mono ?_
  rintro e w4 ⟨v4, rfl, o4, k4⟩
  have O4 := hidMk o4
  have K4 := hidMk k4
  clear o4 k4
  obtain ⟨a4, c4, rfl, s4, _, _⟩ := owned_sl O4.out (by rw [HNX.out]; unfold maxLen; omega)
  have S4 := hidMk s4
  clear s4
  rw [HNX.out] at S4
  rw [HNX.out]
  go_wp2_with fail
  refine (ref_Same _ _ _ _ _ _ _ _ _ (owned_slx (O2.out.kept (K3.out.trans K4.out)) HNX.out (by unfold maxLen; omega)) S4.out (app_isB HB.out (enc_isB _)) (app_isB HB.out (enc_isB _)) rfl).mono ?_
  rintro e w5 ⟨rfl, rfl⟩
  clear S4
  go_wp2_with fail
  refine (ref_Text a0 n0 c0 lb s _ (H0.out.kept (((K1.out.trans K2.out).trans K3.out).trans K4.out)) E0.out (by omega) (by omega)).mono ?_
  rintro e w6 ⟨v6, rfl, o6, k6⟩
  have K6 := hidMk k6
  obtain ⟨a6, c6, rfl, s6, _, _⟩ := owned_sl o6 (by rw [HNY.out]; unfold maxLen; omega)
  have S6 := hidMk s6
  clear s6 o6 k6
  rw [HNY.out] at S6
  rw [HNY.out]
  go_wp2_with fail
  refine (ref_Same _ _ _ _ _ _ _ _ _ (owned_slx (O3.out.kept (K4.out.trans K6.out)) HNY.out (by unfold maxLen; omega)) S6.out (app_isB HB.out (txt_isB _)) (app_isB HB.out (txt_isB _)) rfl).mono ?_
  rintro e w7 ⟨rfl, rfl⟩
  clear S6
  have K07 := hidMk ((((K1.out.trans K2.out).trans K3.out).trans K4.out).trans K6.out)
  go_wp2_with fail
  refine (wire_All a3 n3 c3 l _ (H3.out.kept K07.out) HL.out (by omega)).mono ?_
  rintro e w8 ⟨v8, rfl, o8, k8⟩
  have hal := allB_len l HL.out
  have hal2 : (allB l).length ≤ 10000 := by omega
  obtain ⟨a8, c8, rfl, s8, _, _⟩ := owned_sl o8 (by unfold maxLen; omega)
  have S8 := hidMk s8
  have K8 := hidMk k8
  clear s8 o8 k8 hal
  generalize hna : (allB l).length = na at *
  have HNA := hidMk hna
  clear hna
  go_wp2_with fail
  refine (ref_All a3 n3 c3 l _ (H3.out.kept (K07.out.trans K8.out)) HL.out (by omega)).mono ?_
  rintro e w9 ⟨v9, rfl, o9, k9⟩
  obtain ⟨a9, c9, rfl, s9, _, _⟩ := owned_sl o9 (by rw [HNA.out]; unfold maxLen; omega)
  have S9 := hidMk s9
  have K9 := hidMk k9
  clear s9 o9 k9
  rw [HNA.out] at S9
  rw [HNA.out]
  go_wp2_with fail
  refine (ref_Same _ _ _ _ _ _ _ _ _ (S8.out.kept K9.out) S9.out (allB_isB _) (allB_isB _) rfl).mono ?_
  rintro e w10 ⟨rfl, rfl⟩
  have K39 := hidMk (((K4.out.trans K6.out).trans K8.out).trans K9.out)
  clear S8 S9
  go_wp2_with fail
  refine (ref_Spoil gx nx cx _ _ _ HNX.out (by omega) (O2.out.kept (K3.out.trans K39.out))).mono ?_
  rintro e w11 ⟨rfl, b11⟩
  have B11 := hidMk b11
  clear b11
  go_wp2_with fail
  refine (ref_Spoil gy ny cy _ _ _ HNY.out (by omega) ((O3.out.kept K39.out).but B11.out (by omega))).mono ?_
  rintro e w12 ⟨rfl, b12⟩
  have B12 := hidMk b12
  clear b12
  have KA := hidMk (But.kept (But.kept (((K1.out.trans K2.out).trans K3.out).trans K39.out) (by have := K1.out.size; omega) B11.out) (by have := (K1.out.trans K2.out).size; omega) B12.out)
  have LA := hidMk (((R1.out.kept ((K2.out.trans K3.out).trans K39.out)).but B11.out (by omega)).but B12.out (by have := K2.out.size; omega))
  go_wp2_with fail
  refine (ref_Kept g n0 d a0 c0 lb _ LA.out (H0.out.kept KA.out) HB.out (by omega)).mono ?_
  rintro e w13 ⟨rfl, rfl⟩
  go_wp2_with (go_at_call 5; refine (law_known _).mono ?_; rintro e w14 ⟨rfl, k14⟩)
  go_ret
  exact ⟨rfl, KA.out.trans k14⟩
end Go.Proofs.Ytolihnipoggokaa
