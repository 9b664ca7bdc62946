/- rec: what was put is got; what was torn is not; what must come of fixed calls. -/
import Derived.Test.YtapcmkhpbdphoaaRec4
import Derived.Lib.SmallJoins
namespace Go.Proofs.Ytapcmkhpbdphoaa
open Go.RowKit Go.Maps
set_option linter.unusedSimpArgs false
set_option linter.unusedVariables false

theorem enc_head (u : Nat) (h : 1 ≤ u) (r : List Int) : (enc u ++ r).getD 0 0 ≠ 0 := by
  by_cases h1 : u < 128
  · rw [enc_lt h1]; simp; omega
  · rw [enc_ge (by omega)]; simp; omega
theorem zig_pos (n : Nat) : zig ((n : Int) + 1) = 2 * n + 2 := by unfold zig; rw [if_pos (by omega)]; omega
theorem sb_len (s : Nat) : (sb s).length = 4 := rfl
theorem recB_form (l : List Int) : recB l = enc (2 * l.length + 2) ++ (l ++ (sb (sumN l) ++ [165])) := by
  unfold recB encI
  rw [zig_pos]
  simp
theorem recB_len (l : List Int) : (recB l).length = (enc (2 * l.length + 2)).length + l.length + 5 := by
  rw [recB_form]; simp [sb_len]; omega
theorem enc_two {u : Nat} (h : u < 16384) : (enc u).length ≤ 2 := enc_len u 2 (by omega) (by omega)
/-- What Get reads ahead of a record. -/
theorem num_put (l r : List Int) (h2 : l.length ≤ 250) : numV (enc (2 * l.length + 2) ++ r) = (l.length : Int) + 1 ∧ numS (enc (2 * l.length + 2) ++ r) = (enc (2 * l.length + 2)).length ∧ numE (enc (2 * l.length + 2) ++ r) = 0 := by
  obtain ⟨h1, h3, h4⟩ := num_enc (2 * l.length + 2) (by omega) r
  refine ⟨?_, h3, h4⟩
  rw [h1, ← zig_pos, zag_zig]
theorem get_put (l more : List Int) (h1 : 1 ≤ l.length) (h2 : l.length ≤ 250) : getE (recB l ++ more) = 0 ∧ mkN (recB l ++ more) + 1 = (recB l).length ∧ body (recB l ++ more) = l := by
  obtain ⟨e, he⟩ : ∃ e, e = (enc (2 * l.length + 2)).length := ⟨_, rfl⟩
  have hL : recB l ++ more = enc (2 * l.length + 2) ++ (l ++ (sb (sumN l) ++ (165 :: more))) := by rw [recB_form]; simp
  obtain ⟨n1, n2, n3⟩ := num_put l (l ++ (sb (sumN l) ++ (165 :: more))) h2
  rw [← hL] at n1 n2 n3
  rw [← he] at n2
  have ho : ownN (recB l ++ more) = l.length := by unfold ownN; rw [n1]; omega
  have hm : mkN (recB l ++ more) = e + l.length + 4 := by unfold mkN; rw [n2, ho]
  have d1 : (recB l ++ more).drop e = l ++ (sb (sumN l) ++ (165 :: more)) := by rw [hL, List.drop_left' he.symm]
  have d2 : (recB l ++ more).drop (e + l.length) = sb (sumN l) ++ (165 :: more) := by rw [← List.drop_drop, d1, List.drop_left' rfl]
  have hb : body (recB l ++ more) = l := by unfold body; rw [n2, ho, d1, List.take_left' rfl]
  have hlen : (recB l ++ more).length = e + l.length + 5 + more.length := by rw [List.length_append, recB_len, ← he]
  have hg : (recB l ++ more).getD (e + l.length + 4) 0 = 165 := by
    rw [List.getD_eq_getElem?_getD, ← List.getElem?_drop, d2, List.getElem?_append_right (by rw [sb_len]; omega), sb_len]
    rfl
  have hle : lenE (recB l ++ more) = 0 := by unfold lenE; rw [if_neg (by simp [n3]), if_neg (by rw [n1]; omega)]
  refine ⟨?_, by rw [hm, recB_len, ← he], hb⟩
  unfold getE
  rw [if_neg, if_neg (by simp [hle]), if_neg, if_neg]
  · rw [hm, hg, hb, n2, ho, d2, List.take_left' (sb_len _)]
    simp
  · rw [hm, hg, hlen]; omega
  · rw [hL]
    have := enc_head (2 * l.length + 2) (by omega) (l ++ (sb (sumN l) ++ (165 :: more)))
    simp only [not_or]
    refine ⟨?_, this⟩
    rw [← hL, hlen]; omega
theorem getD_rep (k i : Nat) : (List.replicate k (0 : Int)).getD i 0 = 0 := by
  rw [List.getD_eq_getElem?_getD, List.getElem?_replicate]; split <;> rfl
theorem torn_get (l : List Int) (cut k : Nat) (h1 : 1 ≤ l.length) (h2 : l.length ≤ 250) (hc : cut < (recB l).length) : getE ((recB l).take cut ++ List.replicate k 0) ≠ 0 := by
  obtain ⟨e, he⟩ : ∃ e, e = (enc (2 * l.length + 2)).length := ⟨_, rfl⟩
  have he1 : 1 ≤ e := by rw [he]; exact enc_pos _
  have he2 : e ≤ 2 := by rw [he]; exact enc_two (by omega)
  have hrl := recB_len l
  rw [← he] at hrl
  have hy : ∀ i, cut ≤ i → ((recB l).take cut ++ List.replicate k 0).getD i 0 = 0 := by
    intro i hi
    rw [List.getD_eq_getElem?_getD, List.getElem?_append_right (by rw [List.length_take]; omega), ← List.getD_eq_getElem?_getD, getD_rep]
  have hx : ∀ i, i < cut → ((recB l).take cut ++ List.replicate k 0).getD i 0 = (recB l).getD i 0 := by
    intro i hi
    rw [List.getD_eq_getElem?_getD, List.getElem?_append_left (by rw [List.length_take]; omega), List.getElem?_take_of_lt hi, ← List.getD_eq_getElem?_getD]
  generalize hY : (recB l).take cut ++ List.replicate k 0 = Y at *
  have hlY : Y.length = cut + k := by rw [← hY, List.length_append, List.length_take, List.length_replicate]; omega
  unfold getE
  by_cases hc0 : cut = 0
  · rw [if_pos (.inr (hy 0 (by omega)))]; decide
  by_cases hce : cut < e
  · have hcut : cut = 1 := by omega
    have he22 : e = 2 := by omega
    have hu : 128 ≤ 2 * l.length + 2 := by
      by_cases q : 2 * l.length + 2 < 128
      · rw [enc_lt q] at he; simp at he; omega
      · omega
    have h0 : 128 ≤ Y.getD 0 0 := by
      rw [hx 0 (by omega), recB_form, enc_ge hu]
      simp
      omega
    rw [if_neg (by omega)]
    have hE : numE Y ≠ 0 := by
      by_cases hk : k = 0
      · have : lastIx Y = none := lastIx_no (fun j hj => by
          obtain rfl : j = 0 := by omega
          exact h0)
        unfold numE
        rw [this]
        show (7 : Int) ≠ 0
        decide
      · have h1' : Y.getD 1 0 = 0 := hy 1 (by omega)
        have : lastIx Y = some 1 := lastIx_at (by omega) (by omega) (fun j hj => by
          obtain rfl : j = 0 := by omega
          exact h0)
        unfold numE
        rw [this]
        dsimp
        rw [if_pos (.inl ⟨by omega, h1'⟩)]
        decide
    have hle : lenE Y = numE Y := by unfold lenE; rw [if_pos hE]
    rw [hle, if_pos hE]
    exact hE
  · have hf : Y = enc (2 * l.length + 2) ++ Y.drop e := by
      have h3 : Y.take e = enc (2 * l.length + 2) := by
        rw [← hY, List.take_append_of_le_length (by rw [List.length_take]; omega), List.take_take, Nat.min_eq_left (by omega), recB_form, List.take_left' he.symm]
      rw [← h3, List.take_append_drop]
    obtain ⟨n1, n2, n3⟩ := num_put l (Y.drop e) h2
    rw [← hf] at n1 n2 n3
    rw [← he] at n2
    have ho : ownN Y = l.length := by unfold ownN; rw [n1]; omega
    have hm : mkN Y = e + l.length + 4 := by unfold mkN; rw [n2, ho]
    have hle : lenE Y = 0 := by unfold lenE; rw [if_neg (by simp [n3]), if_neg (by rw [n1]; omega)]
    have h0 : Y.getD 0 0 ≠ 0 := by rw [hf]; exact enc_head _ (by omega) _
    rw [if_neg (by omega), if_neg (by simp [hle]), if_pos]
    · decide
    · exact .inr (hy _ (by rw [hm]; omega))

theorem bvv (l : List Int) : (l.map (Value.int .u8)).toArray = (l.map (Value.int .u8)).toArray := rfl
/-- Bytes that stand in the program's own text. -/
theorem sl_litR (w : World) (l : List Int) (t : TypeId) (fr : Nat × Nat) (h : l.length ≤ 100) : Sl .u8 (w.alloc (.cells (l.map (Value.int .u8)).toArray t fr)) (some ⟨w.heap.size, 0, none⟩) l.length l := by
  refine ⟨rfl, by unfold maxLen; omega, fun _ => ⟨_, _, rfl, by simp, fun i hi => ?_⟩⟩
  rw [Nat.zero_add, World.cell?_alloc_mark w _ t fr i]
  simp [List.getElem?_eq_getElem hi, List.getD]
theorem known_rec : recB [97] = [4, 97, 67, 190, 183, 232, 165] := by
  rw [recB_form, show 2 * [(97 : Int)].length + 2 = 4 from rfl, enc_lt (by decide), show sb (sumN [97]) = [67, 190, 183, 232] by decide +kernel]
  rfl
theorem known_sum : sumN [49, 50, 51, 52, 53, 54, 55, 56, 57] = 3421780262 := by decide +kernel
theorem own_cap {w0 w : World} {a : Option Addr} {n c : Nat} {l : List Int} (h : Owned w0 w (.slice a n c) l) : n ≤ c ∧ c ≤ 9223372036854775807 := by
  obtain ⟨_, ⟨e, _⟩ | ⟨g, cap, cur, hv, hb, hheap, hc, hcm, r⟩⟩ := h
  · cases e; omega
  · cases hv; exact ⟨by first | exact hc | (have := hc; omega), by have : c ≤ 2 ^ 63 - 1 := hcm; omega⟩
end Go.Proofs.Ytapcmkhpbdphoaa
