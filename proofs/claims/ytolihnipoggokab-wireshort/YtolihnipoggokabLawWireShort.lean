/- WireShort: bytes without the last one end too early. -/
import Derived.Test.YtolihnipoggokabWireKnown
namespace Go.Proofs.Ytolihnipoggokab
open Go.RowKit
set_option linter.unusedSimpArgs false
set_option linter.unusedVariables false

/-- A text's bytes without the last one: its number is whole, and its bytes are not; or its number is not. -/
theorem text_short (s : ByteArray) (hs : s.size ≤ 8000) : textE (txt s).dropLast 0 = 7 ∧ textV (txt s).dropLast 0 = [] := by
  have hi : isI (s.size : Int) := by unfold isI; omega
  by_cases h0 : s.size = 0
  · have e : txt s = enc (zig (s.size : Int)) := by
      unfold txt encI
      have : byt s = [] := List.eq_nil_of_length_eq_zero (by rw [byt_len]; exact h0)
      rw [this, List.append_nil]
    rw [e]
    obtain ⟨h1, h2, h3⟩ := num_short (zig (s.size : Int))
    have hE : outE (enc (zig (s.size : Int))).dropLast 0 0 8000 = 7 := by unfold outE; rw [h3]; rfl
    have hT : textE (enc (zig (s.size : Int))).dropLast 0 = 7 := by unfold textE; rw [hE]; rfl
    refine ⟨hT, ?_⟩
    unfold textV
    rw [hT]; rfl
  · have hne : byt s ≠ [] := by intro e; have := byt_len s; rw [e] at this; simp at this; omega
    have e : (txt s).dropLast = enc (zig (s.size : Int)) ++ (byt s).dropLast := by
      unfold txt encI
      rw [List.dropLast_append_of_ne_nil hne]
    rw [e]
    obtain ⟨h1, h2, h3⟩ := num_enc (zig (s.size : Int)) (zig_lt hi) (byt s).dropLast
    rw [zag_zig] at h1
    have hE : outE (enc (zig (s.size : Int)) ++ (byt s).dropLast) 0 0 8000 = 0 := by
      unfold outE
      rw [h3, h1, if_neg (by simp), if_neg (by simp), if_neg (by omega)]
    have hT : textE (enc (zig (s.size : Int)) ++ (byt s).dropLast) 0 = 7 := by
      unfold textE
      rw [hE, h2, h1, if_neg (by simp), if_pos]
      rw [List.length_append, List.length_dropLast, byt_len]
      omega
    refine ⟨hT, ?_⟩
    unfold textV
    rw [hT]; rfl
theorem str_nil : str [] = ⟨#[]⟩ := rfl
theorem sl_last {w : World} {a : Option Addr} {n : Nat} {l : List Int} (h : Sl .u8 w a n l) (hp : 0 < n) : Sl .u8 w a (n - 1) l.dropLast := by
  obtain ⟨b, o, rfl, _⟩ := h.cells hp
  have h1 := sl_take h (n - 1) (by omega)
  have h2 := h.len
  rw [List.dropLast_eq_take, h2]
  exact h1
theorem isB_last {l : List Int} (h : ∀ x ∈ l, isB x) : ∀ x ∈ l.dropLast, isB x := fun x hx => h x (List.dropLast_subset l hx)
theorem txt_isB (s : ByteArray) : ∀ x ∈ txt s, isB x := by
  intro x hx
  unfold txt at hx
  rcases List.mem_append.1 hx with hx | hx
  · exact enc_isB _ x hx
  · exact byt_isB s x hx

set_option maxHeartbeats 2000000 in
set_option maxRecDepth 100000 in
theorem law_WireShort (n : Int) (s : ByteArray) (w : World) (hn : isI n) (hs : s.size + 10 ≤ 140737488355328) :
    Calls Try.prog 4 #[.int .i64 n, .string s] w fun e w' => e = .returned (.bool true) ∧ Kept w w' := by
  have HN := hidMk hn
  clear hn
  have ha := enc_pos (zig n)
  have hal := encI_len n HN.out
  have hx : isI (s.size : Int) := by unfold isI; omega
  have hbl := encI_len (s.size : Int) hx
  have hbp := enc_pos (zig (s.size : Int))
  clear hx
  go_enter Try.func4, Try.ntmps4
  go_wp2_with fail
  refine (wire_Put none 0 0 [] n _ (sl_none rfl) (Nat.le_refl _) HN.out (by decide)).mono ?_
  rintro e w1 ⟨v1, rfl, o1, k1⟩
  rw [List.nil_append] at o1
  obtain ⟨a1, c1, rfl, s1, n1, g1⟩ := owned_sl o1 (by unfold maxLen; omega)
  have S1 := hidMk s1
  have K1 := hidMk k1
  clear o1 s1 k1 g1
  go_wp2_with fail
  refine (wire_Text none 0 0 [] s _ (sl_none rfl) (Nat.le_refl _) (by simp; omega)).mono ?_
  rintro e w2 ⟨v2, rfl, o2, k2⟩
  rw [List.nil_append] at o2
  have htl : (txt s).length = (encI (s.size : Int)).length + s.size := by unfold txt; rw [List.length_append, byt_len]
  obtain ⟨a2, c2, rfl, s2, n2, g2⟩ := owned_sl o2 (by unfold maxLen; rw [htl]; omega)
  have S2 := hidMk s2
  have K2 := hidMk k2
  clear o2 s2 k2 g2
  have H1 := hidMk (show encI n = enc (zig n) from rfl)
  have h1p : 0 < (encI n).length := by rw [H1.out]; exact ha
  have h2q : 0 < (encI (s.size : Int)).length := hbp
  have h2p : 0 < (txt s).length := by omega
  have h2b : (txt s).length ≤ s.size + 10 := by omega
  generalize hla : (encI n).length = la at *
  generalize hlb : (txt s).length = lb at *
  have HLA := hidMk hla
  have HLB := hidMk hlb
  clear hla hlb htl ha hbp hbl h2q
  have f1 : ¬ ((la : Int) < 1) := by omega
  have f2 : ¬ ((lb : Int) < 1) := by omega
  by_cases hbig : 8000 < s.size
  · have f3 : (8000 : Int) < (s.size : Int) := by omega
    go_wp2_with (go_at_call 6; refine (law_known _).mono ?_; rintro e w3 ⟨rfl, k3⟩)
    go_ret
    exact ⟨rfl, (K1.out.trans K2.out).trans k3⟩
  · have f3 : (s.size : Int) ≤ 8000 := by omega
    go_wp2_with fail
    refine (wire_New a1 (la - 1) c1 (encI n).dropLast _ (sl_last (S1.out.kept K2.out) h1p) (isB_last (enc_isB _)) (by omega)).mono ?_
    rintro e w3 ⟨p1, rfl, hp1, r3, k3⟩
    have R3 := hidMk r3
    have K3 := hidMk k3
    clear r3 k3
    go_wp2_with fail
    refine (wire_New a2 (lb - 1) c2 (txt s).dropLast _ (sl_last (S2.out.kept K3.out) h2p) (isB_last (txt_isB s)) (by omega)).mono ?_
    rintro e w4 ⟨p2, rfl, hp2, r4, k4⟩
    have R4 := hidMk r4
    have R3' := hidMk (R3.out.kept k4)
    have HP1 := hidMk R3.out.lt
    have K4 := hidMk k4
    clear r4 k4
    go_wp2_with fail
    have q5 := num_at R3'.out
    have hE : numOE (encI n).dropLast 0 = 7 := (num_short (zig n)).2.2
    have hV : numOV (encI n).dropLast 0 = 0 := by unfold numOV; rw [hE]; rfl
    rw [hE, hV] at q5
    refine q5.mono ?_
    rintro e w5 ⟨rfl, r5, b5⟩
    have R5 := hidMk r5
    have B5 := hidMk b5
    clear r5 b5 q5 hE hV
    have hp12 := HP1.out
    have K5 := hidMk (But.kept (((K1.out.trans K2.out).trans K3.out).trans K4.out) (by have := (K1.out.trans K2.out).size; omega) B5.out)
    have q6 := text_at (R4.out.but B5.out (.inl hp12) (by omega))
    rw [(text_short s (by omega)).1, (text_short s (by omega)).2, str_nil] at q6
    have Q6 := hidMk q6
    have KP2 := hidMk (show w.heap.size ≤ p2 by have := ((K1.out.trans K2.out).trans K3.out).size; omega)
    clear q6
    go_wp2_with (first | (go_at_call 12; refine (why_at R5.out).mono ?_; rintro e w6 ⟨rfl, rfl⟩))
    refine Q6.out.mono ?_
    rintro e w7 ⟨rfl, r7, b7⟩
    have R7 := hidMk r7
    have K7 := hidMk (But.kept K5.out KP2.out b7)
    clear r7 b7
    go_wp2_with (first | (go_at_call 12; refine (why_at R7.out).mono ?_; rintro e w6 ⟨rfl, rfl⟩) | (go_at_call 6; refine (law_known _).mono ?_; rintro e w8 ⟨rfl, k8⟩))
    go_ret
    exact ⟨rfl, K7.out.trans k8⟩
end Go.Proofs.Ytolihnipoggokab
