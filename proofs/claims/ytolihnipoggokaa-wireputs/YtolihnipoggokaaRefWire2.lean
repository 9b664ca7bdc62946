/- The definition's Text, All, Same, Lent, Spoil, Kept (layer 4). -/
import Derived.Test.YtolihnipoggokaaRefWire1
namespace Go.Proofs.Ytolihnipoggokaa
open Go.RowKit
set_option linter.unusedSimpArgs false
set_option linter.unusedVariables false

set_option maxHeartbeats 400000 in
theorem ref_Text (a : Option Addr) (n c : Nat) (l : List Int) (s : ByteArray) (w : World) (hs : Sl .u8 w a n l) (hnil : a = none → c = 0) (hl : n ≤ 1000000) (hss : s.size ≤ 1000000) :
    Calls Try.prog 11 #[.slice a n c, .string s] w fun e w' => ∃ v, e = .returned v ∧ Owned w w' v (l ++ txt s) ∧ Kept w w' := by
  obtain ⟨i0, hi0, hz0, hz1, hz2⟩ := u8info
  have H := hidMk hs
  have hlen := hs.len
  have hx : isI (s.size : Int) := by unfold isI; omega
  have HX := hidMk hx
  have HL := hidMk (encI_len _ hx)
  have HT := hidMk (show l ++ txt s = (l ++ encI (s.size : Int)) ++ byt s by unfold txt; simp)
  have HA := hidMk hi0
  have HZ := hidMk hz0
  have HN := hidMk hnil
  clear hs hx hi0 hz0 hnil
  go_enter Try.func11, Try.ntmps11
  go_wp2_with (first | (go_at_call 10; refine (ref_Put a n c l (s.size : Int) _ H.out HN.out HX.out hl).mono ?_; rintro e w1 ⟨v1, rfl, ho, hk⟩) | (at_builtin; refine Lib.wpList_append_own_string _ rfl _ _ 22 9 rfl w.heap.size 5 i0 Try.underlying22 Try.underlying9 HA.out HZ.out hz1 hz2 _ _ _ rfl ho s rfl ?c1 ?c2 ?c3 ?_))
  case c1 => have := HL.out; unfold maxLen; simp; omega
  case c2 => have := HL.out; simp; omega
  case c3 => exact hk.size
  intro v' w' h2 h3 _
  have H4 := hidMk h2
  have H5 := hidMk (kept_grown hk ho h3)
  clear ho hk h2 h3
  go_wp2
  go_ret
  refine ⟨_, rfl, ?_, H5.out⟩
  rw [HT.out]
  have h := H4.out
  show Owned w w' v' _
  unfold Owned
  simp only [strCells_byt, List.length_append, List.map_append, byt_len, List.append_assoc, Nat.add_assoc, hlen] at h ⊢
  exact h

theorem owned_nil {w0 w : World} {a : Option Addr} {n c : Nat} {l : List Int} (h : Owned w0 w (.slice a n c) l) (ha : a = none) : c = 0 := by
  subst ha
  obtain ⟨_, ⟨e, hz⟩ | ⟨g, cap, cur, hv, r⟩⟩ := h
  · cases e; rfl
  · cases hv

set_option maxHeartbeats 400000 in
theorem ref_All (a : Option Addr) (n c : Nat) (l : List Int) (w : World) (hs : Sl .i64 w a n l) (hx : ∀ x ∈ l, isI x) (hl : n ≤ 1000) :
    Calls Try.prog 13 #[.slice a n c] w fun e w' => ∃ v, e = .returned v ∧ Owned w w' v (allB l) ∧ Kept w w' := by
  have H := hidMk hs
  have HX := hidMk hx
  have hlen := hs.len
  clear hs hx
  go_enter Try.func13, Try.ntmps13
  go_wp2
  go_loopw [3, 4] (fun v i wr => ∃ k : Nat, k ≤ n ∧ i = .int .i64 k ∧ Hid (Owned w wr v (allB (l.take k))) ∧ Hid (Kept w wr)) (fun _ i _ => n - (intOf i).toNat)
  case atStart => exact ⟨0, Nat.zero_le _, rfl, hidMk (World.ownsRow_nil _ _ _ _), hidMk (Kept.refl _)⟩
  case round =>
    obtain ⟨k, hk, rfl, H2, H3⟩ := hrel
    by_cases hkn : k < n
    · obtain ⟨b, o, rfl, hb, hcs⟩ := H.out.cells (by omega)
      have hcell := (H3.out.cell (p := ⟨b, o + k, none⟩) hb).trans (hcs k hkn)
      have hxi := HX.out _ (getD_in (l := l) (k := k) (by omega))
      have H1 := hidMk (allB_take (l := l) (k := k) (by omega))
      have hll : (allB (l.take k)).length ≤ 1000000 := by
        have := allB_len (l.take k) fun x hx => HX.out x (List.mem_of_mem_take hx)
        rw [List.length_take] at this
        omega
      have H4 := hidMk hxi
      clear hcs hxi
      generalize l.getD k 0 = x at *
      obtain ⟨a3, c3, rfl, s3, n3, q3⟩ := owned_sl H2.out (by unfold maxLen; omega)
      have S3 := hidMk s3
      have N3 := hidMk (owned_nil H2.out)
      clear s3 q3
      generalize hL : (allB (l.take k)).length = ll at *
      have HLL := hidMk hL
      clear hL
      go_wp2_with fail
      refine (ref_Put a3 ll c3 _ x _ S3.out N3.out H4.out hll).mono ?_
      rintro e w2 ⟨v2, rfl, ho2, hk2⟩
      have O2 := hidMk ho2
      have K2 := hidMk hk2
      clear ho2 hk2
      go_wp2_with fail
      refine ⟨⟨k + 1, by omega, by go_num, hidMk ?_, hidMk (H3.out.trans K2.out)⟩, by simp [intOf]; omega⟩
      rw [H1.out]
      exact ownsRow_base O2.out H3.out.size
    · have e : l.take k = l := List.take_of_length_le (by omega)
      rw [e] at H2
      go_wp2
      go_ret
      exact ⟨_, rfl, H2.out, H3.out⟩

theorem str_toList (l : List Int) : (str l).toList = l.map (fun x => UInt8.ofNat x.toNat) := by
  unfold str
  rw [ByteArray.toList_mk]
set_option maxHeartbeats 400000 in
theorem ref_Same (a b : Option Addr) (n m c d : Nat) (l k : List Int) (w : World) (h1 : Sl .u8 w a n l) (h2 : Sl .u8 w b m k) (hb : ∀ x ∈ l, isB x) (hk : ∀ x ∈ k, isB x) (he : l = k) :
    Calls Try.prog 9 #[.slice a n c, .slice b m d] w fun e w' => e = .returned (.bool true) ∧ w' = w := by
  subst he
  have g1 := run_string_sl (c := c) h1 hb
  have g2 := run_string_sl (c := d) h2 hb
  clear h1 h2 hb hk
  go_enter Try.func9, Try.ntmps9
  go_wp2
  go_ret
  exact ⟨rfl, rfl⟩

def twelve : List Int := [1, 2, 3, 4, 5, 6, 7, 8, 9, 10, 11, 12]
/-- Bytes with twelve others behind them. -/
structure Lentd (w : World) (g n c : Nat) (l : List Int) : Prop where
  sl : Sl .u8 w (some ⟨g, 0, none⟩) (n + 12) (l ++ twelve)
  cap : n + 12 ≤ c
  len : l.length = n
  lt : g < w.heap.size

set_option maxHeartbeats 400000 in
theorem ref_Lent (a : Option Addr) (n c : Nat) (l : List Int) (w : World) (hs : Sl .u8 w a n l) (hnil : a = none → c = 0) (hl : n ≤ 1000000) :
    Calls Try.prog 6 #[.slice a n c] w fun e w' => ∃ g d, e = .returned (.slice (some ⟨g, 0, none⟩) n d) ∧ w.heap.size ≤ g ∧ Lentd w' g n d l ∧ Kept w w' := by
  have hlen := hs.len
  have H := hidMk hs
  have HN := hidMk hnil
  clear hs hnil
  go_enter Try.func6, Try.ntmps6
  go_wp2_with (at_builtin; refine wpList_app _ rfl _ _ rfl w _ [] rfl (World.ownsRow_nil _ _ _ _) (Kept.refl _) a n c l rfl H.out HN.out ?c1 ?_)
  case c1 => simp; omega
  intro v1 w1 o1 k1
  have O1 := hidMk o1
  have K1 := hidMk k1
  clear o1 k1
  go_wp2_with (at_builtin; refine wpList_app _ rfl _ _ rfl w _ l rfl (O1.out.alloc _) (K1.out.alloc _) (some ⟨w1.heap.size, 0, none⟩) 12 12 twelve rfl (sl_new .u8 w1 twelve 5 (by unfold twelve maxLen; decide)) (fun h => by cases h) ?c1 ?_)
  case c1 => omega
  intro v2 w2 o2 k2
  have hl2 : (l ++ twelve).length = n + 12 := by rw [List.length_append, hlen]; rfl
  obtain ⟨a2, c2, rfl, s2, n2, q2⟩ := owned_sl o2 (by unfold maxLen; omega)
  rw [hl2] at s2 n2
  have hne : ∃ g, a2 = some ⟨g, 0, none⟩ := by
    obtain ⟨_, ⟨e, hz⟩ | ⟨g, cap, cur, hv, r⟩⟩ := o2
    · omega
    · cases hv; exact ⟨g, rfl⟩
  obtain ⟨g, rfl⟩ := hne
  have HG := hidMk (q2 _ rfl)
  have S2 := hidMk s2
  have K2 := hidMk k2
  clear o2 k2 q2 s2
  rw [hl2]
  clear hl2
  go_wp2_with fail
  go_ret
  exact ⟨g, c2, rfl, HG.out.1, ⟨S2.out, n2, hlen, HG.out.2⟩, K2.out⟩
end Go.Proofs.Ytolihnipoggokaa
