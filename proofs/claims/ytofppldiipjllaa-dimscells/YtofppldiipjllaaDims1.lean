/- Small things of dims: limits, places, texts in a row. -/
import Derived.Test.YtofppldiipjllaaTree10
import Derived.Test.YtofppldiipjllaaStrs
namespace Go.Proofs.Ytofppldiipjllaa
open Go.RowKit Go.Maps
set_option linter.unusedSimpArgs false
set_option linter.unusedVariables false

def fromB (n most : Int) : Bool := decide (1 ≤ n ∧ n ≤ most)
theorem dims_from1 (n most : Int) (w : World) : Calls Try.prog 29 #[.int .i64 n, .int .i64 most] w fun e w' => e = .returned (.bool (fromB n most)) ∧ w' = w := by
  by_cases h1 : 1 ≤ n
  · by_cases h2 : n ≤ most
    · rw [show fromB n most = true from decide_eq_true ⟨h1, h2⟩]
      go_enter Try.func29, Try.ntmps29
      go_wp2_with fail
      go_ret
      exact ⟨rfl, rfl⟩
    · rw [show fromB n most = false from decide_eq_false (fun h => h2 h.2)]
      have h2' : most < n := by omega
      go_enter Try.func29, Try.ntmps29
      go_wp2_with fail
      go_ret
      first | exact ⟨rfl, rfl⟩ | exact ⟨by simp, rfl⟩ | exact ⟨by simp; omega, rfl⟩
  · rw [show fromB n most = false from decide_eq_false (fun h => h1 h.1)]
    have h1' : n < 1 := by omega
    go_enter Try.func29, Try.ntmps29
    go_wp2_with fail
    go_ret
    exact ⟨rfl, rfl⟩
theorem ss_news {w : World} {ad : Addr} {n : Nat} {l : List ByteArray} (h : Ss w (some ad) n l) : ∀ (j : Nat) u, (l.map Value.string)[j]? = some u → w.cell? (ad.add j) = some u := by
  intro j u hj
  have hl := h.len
  have hjn : j < n := by
    have := (List.getElem?_eq_some_iff.1 hj).1
    simp at this; omega
  obtain ⟨bb, oo, e, _, hcs⟩ := h.cells (by omega)
  cases e
  rw [Addr.add_lit, hcs j hjn, ← hj, List.getElem?_map, List.getElem?_eq_getElem (by omega)]
  simp [List.getD, List.getElem?_eq_getElem (show j < l.length by omega)]
theorem strs_one (l : List ByteArray) : ∀ u ∈ l.map Value.string, u.oneCell' = true := by
  intro u hu
  obtain ⟨x, _, rfl⟩ := List.mem_map.1 hu
  rfl
theorem sinfo : ∃ i0, Try.prog.info? 9 = some i0 ∧ i0.zero = some (.string ⟨#[]⟩) ∧ i0.size = 1 ∧ i0.bytes = 16 := by
  have h : (Try.prog.info? 9).map (fun i => (i.zero, i.size, i.bytes)) = some (some (.string ⟨#[]⟩), 1, 16) := by kernel_rfl
  exact info_parts h
theorem own_ss {w : World} {B : Nat} {v : Value} {l : List ByteArray} (hm : l.length ≤ maxLen) (h : w.ownsRow B 9 1 v l.length (l.map Value.string)) : ∃ a c, v = .slice a l.length c ∧ Ss w a l.length l ∧ ∀ ad, a = some ad → B ≤ ad.block := by
  have h' := h
  have hlt := World.ownsRow.lt h
  obtain ⟨_, ⟨rfl, hz⟩ | ⟨g, cap, cur, rfl, hb, hheap, hc, hcm, hsz, htk⟩⟩ := h
  · exact ⟨none, 0, by rw [hz], ⟨rfl, hm, fun hp => absurd hp (by omega)⟩, fun ad had => by cases had⟩
  · refine ⟨_, _, rfl, ⟨rfl, hm, fun hp => ⟨g, 0, rfl, (hlt g rfl).2, fun i hi => ?_⟩⟩, fun ad had => by cases had; exact hb⟩
    rw [Nat.zero_add, h'.cellAt i (by omega)]
    simp [List.getElem?_map, List.getElem?_eq_getElem hi, List.getD]
set_option maxHeartbeats 400000 in
theorem slices_CloneS (a : Option Addr) (n c : Nat) (l : List ByteArray) (w : World) (hs : Ss w a n l) (hl : n ≤ 1000) :
    Calls Try.prog 30 #[.slice a n c] w fun e w' => ∃ a' c', e = .returned (.slice a' n c') ∧ Ss w' a' n l ∧ (∀ ad, a' = some ad → w.heap.size ≤ ad.block) ∧ Kept w w' := by
  obtain ⟨i0, hi0, hz0, hz1, hz2⟩ := sinfo
  have q : ∀ (w : World) (a : Option Addr) (n c n' c' : Nat), (binOp .eql 23 (.slice a n c) (.slice none n' c')).run Try.prog w = .ok (.bool a.isNone) w := fun w a n c n' c' => Lib.run_eql_slice_nil w _ _ a n c n' c' Try.underlying23
  have H := hidMk hs
  have HA := hidMk hi0
  have HZ := hidMk hz0
  have hlen := hs.len
  have hbig := hs.big
  clear hs hi0 hz0
  cases a with
  | none =>
    have hn : n = 0 := by
      by_cases hn : 0 < n
      · obtain ⟨b, o, e, _⟩ := H.out.cells hn
        cases e
      · omega
    subst hn
    go_enter Try.func30, Try.ntmps30
    go_wp2
    go_ret
    exact ⟨none, 0, rfl, H.out, fun ad had => (by cases had), Kept.refl _⟩
  | some ad =>
    go_enter Try.func30, Try.ntmps30
    go_wp2_with (at_builtin; refine wpList_append_own_wide _ rfl _ _ 23 rfl w.heap.size 9 i0 (.string ⟨#[]⟩) 1 16 Try.underlying23 HA.out HZ.out hz1 hz2 rfl (by decide) _ _ _ rfl (World.ownsRow_made w #[] 0 (Nat.le_refl _) (Nat.zero_le _) (by simp)) ad n c (l.map Value.string) rfl ?c1 ?c2 ?c3 ?c4 ?c5 ?c6 ?_)
    case c1 => simpa using hlen
    case c2 => exact ss_news (H.out.kept ((Kept.refl w).alloc _))
    case c3 => exact strs_one l
    case c4 => rw [Nat.zero_add]; exact hbig
    case c5 => rw [Nat.zero_add]; omega
    case c6 => simp
    intro v' w1 hown hgrow hnil
    have H4 := hidMk hown
    have H5 := hidMk (show Kept w w1 from ((Below.refl _ w).alloc (Nat.le_refl _) _).grown hgrow (by simp) (by intro k hk; simp [Value.ownBlock] at hk; omega))
    clear hown hgrow hnil
    go_wp2
    go_ret
    have h2 : w1.ownsRow w.heap.size 9 1 v' l.length (l.map Value.string) := by rw [hlen]; simpa using H4.out
    obtain ⟨a', c', rfl, g1, g2⟩ := own_ss (by omega) h2
    rw [hlen] at g1
    exact ⟨a', c', by rw [hlen]; rfl, g1, g2, H5.out⟩
/-- The first place of a text. -/
def idxS (l : List ByteArray) (s : ByteArray) : Nat := l.findIdx fun x => decide (x = s)
def idxI (l : List ByteArray) (s : ByteArray) : Int := if idxS l s < l.length then idxS l s else -1
theorem idxS_at {l : List ByteArray} {s : ByteArray} {k : Nat} (hk : k < l.length) (he : l.getD k ByteArray.empty = s) (h : ∀ j, j < k → l.getD j ByteArray.empty ≠ s) : idxI l s = k := by
  have e : idxS l s = k := by
    unfold idxS
    rw [List.findIdx_eq hk]
    have e0 : l.getD k ByteArray.empty = l[k] := by simp [List.getD, List.getElem?_eq_getElem hk]
    refine ⟨decide_eq_true (e0.symm.trans he), fun j hj => ?_⟩
    have := h j hj
    have hjl : j < l.length := by omega
    simp [List.getD, List.getElem?_eq_getElem hjl] at this
    simpa using this
  unfold idxI
  rw [e, if_pos hk]
theorem idxS_no {l : List ByteArray} {s : ByteArray} (h : ∀ j, j < l.length → l.getD j ByteArray.empty ≠ s) : idxI l s = -1 := by
  have e : idxS l s = l.length := by
    unfold idxS
    rw [List.findIdx_eq_length]
    intro x hx
    obtain ⟨j, hj, rfl⟩ := List.getElem_of_mem hx
    have := h j hj
    simp [List.getD, List.getElem?_eq_getElem hj] at this
    simpa using this
  unfold idxI
  rw [e, if_neg (by omega)]
theorem bytes_neD {a b : ByteArray} (h : a ≠ b) : (a.toList == b.toList) = false := by
  rw [beq_eq_false_iff_ne]
  intro e
  apply h
  apply ByteArray.ext
  rw [ByteArray.toList_eq, ByteArray.toList_eq] at e
  exact Array.toList_inj.1 e
theorem slices_IndexS (a : Option Addr) (n c : Nat) (l : List ByteArray) (s : ByteArray) (w : World) (hs : Ss w a n l) : Calls Try.prog 38 #[.slice a n c, .string s] w fun e w' => e = .returned (.int .i64 (idxI l s)) ∧ w' = w := by
  obtain ⟨r, hr⟩ : ∃ r, idxI l s = r := ⟨_, rfl⟩
  rw [hr]
  have HR := hidMk hr
  have HS := hidMk hs
  have hlen := hs.len
  have hbig := hs.big
  unfold maxLen at hbig
  clear hr hs
  go_enter Try.func38, Try.ntmps38
  go_wp2_with fail
  go_loopw [5, 8] (fun _ i wr => ∃ k : Nat, k ≤ n ∧ i = .int .i64 k ∧ wr = w ∧ Hid (∀ j, j < k → l.getD j ByteArray.empty ≠ s)) (fun _ i _ => n - (intOf i).toNat)
  case atStart => exact ⟨0, Nat.zero_le _, rfl, rfl, hidMk fun j hj => absurd hj (by omega)⟩
  case round =>
    obtain ⟨k, hk, rfl, rfl, HJ⟩ := hrel
    by_cases hkn : k < n
    · obtain ⟨b, o, rfl, hb, hcs⟩ := HS.out.cells (by omega)
      have hc := hcs k hkn
      clear hcs
      by_cases he : l.getD k ByteArray.empty = s
      · have HF := hidMk (show r = k from by rw [← HR.out]; exact idxS_at (by omega) he HJ.out)
        rw [he] at hc
        clear he
        go_wp2_with fail
        go_ret
        exact ⟨by rw [HF.out]; rfl, rfl⟩
      · have HS2 := hidMk (show ∀ j, j < k + 1 → l.getD j ByteArray.empty ≠ s from fun j hj => by
          by_cases e : j = k
          · subst e; exact he
          · exact HJ.out j (by omega))
        have he' := bytes_neD (fun x => he x.symm : s ≠ _)
        clear he
        generalize l.getD k ByteArray.empty = x at *
        go_wp2_with fail
        exact ⟨⟨k + 1, by omega, by go_num, trivial, HS2⟩, by simp [intOf]; omega⟩
    · have HF := hidMk (show r = -1 from by rw [← HR.out]; exact idxS_no (fun j hj => HJ.out j (by omega)))
      have hkk : ¬ ((k : Int) < (n : Int)) := by omega
      go_wp2_with fail
      go_ret
      exact ⟨by rw [HF.out]; rfl, rfl⟩
end Go.Proofs.Ytofppldiipjllaa
