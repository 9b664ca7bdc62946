/- Commands as lines: what is known of a command that was read; lines' words in memory. -/
import Derived.Test.YtpehinmckppjoaaGreatDoorQPsMB
namespace Go.Proofs.YtpehinmckppjoaaGreatDoor
open Go.RowKit Go.Maps
set_option linter.unusedSimpArgs false
set_option linter.unusedVariables false

section
variable {ms : List ByteArray} {ds : List Dm} {L : List ByteArray}
theorem XOk.put {x : Cm} (h : XOk x) {b : Int} {t : ByteArray} (ht : t.size ≤ 12) : XOk (putT b t x) := by
  have h1 := h.u
  have h2 := h.s
  have h3 := h.o
  have h4 := h.n
  unfold putT
  split
  · exact ⟨by simp only; omega, h2, h3, h4⟩
  · split
    · exact ⟨h1, by simp only; omega, h3, h4⟩
    · exact ⟨h1, h2, by simp only; omega, h4⟩
theorem oneP_xok {b : Int} {s s1 : Nat × Cm} (hx : XOk s.2) (h : oneP ms ds L b s = .ok s1) : XOk s1.2 := by
  have hix : ∀ ws (s s1 : Nat × Cm), XOk s.2 → indexP L ws s = .ok s1 → XOk s1.2 := fun ws s s1 hx h => by
    unfold indexP at h; split at h
    · cases h
    · split at h
      · cases h
      · cases h; exact ⟨hx.u, hx.s, hx.o, hx.n⟩
  have hch : ∀ ws (s s1 : Nat × Cm), XOk s.2 → choiceP L ws s = .ok s1 → XOk s1.2 := fun ws s s1 hx h => by
    unfold choiceP at h; split at h
    · cases h; exact hx
    · split at h
      · cases h
      · split at h
        · cases h
        · cases h; exact ⟨hx.u, hx.s, hx.o, hx.n⟩
  unfold oneP at h
  split at h
  · unfold nameP at h; split at h
    · cases h
    · rename_i t ht
      cases h
      exact hx.put (name_12 (rdK_1 (nx_of ht).2.2))
  · split at h
    · unfold cellP at h; split at h
      · cases h
      · split at h
        · cases h
        · cases h; exact ⟨hx.u, hx.s, hx.o, hx.n⟩
    · split at h
      · unfold numP at h; split at h
        · cases h
        · rename_i t ht
          cases h
          exact ⟨hx.u, hx.s, hx.o, (num_rdN (nx_of ht).2.2).2⟩
      · split at h
        · unfold howP at h
          split at h
          · cases h
          · rename_i s' hc
            split at h
            · exact hix _ _ _ (hch _ _ _ hx hc) h
            · cases h; exact hch _ _ _ hx hc
        · split at h
          · exact hch _ _ _ hx h
          · exact hix _ _ _ hx h
theorem foldP_xok : ∀ (bs : List Int) (s s1 : Nat × Cm), XOk s.2 → foldP ms ds L bs s = .ok s1 → XOk s1.2
  | [], s, s1, hx, h => by unfold foldP at h; cases h; exact hx
  | b :: bs, s, s1, hx, h => by
    rw [foldP_cons] at h
    cases ho : oneP ms ds L b s with
    | error e => rw [ho] at h; cases h
    | ok z => rw [ho] at h; exact foldP_xok bs z s1 (oneP_xok hx ho) h
theorem xok0 (k : Int) : XOk { cm0 with k := k } := ⟨(by decide : (0 : Nat) ≤ 1000000), (by decide : (0 : Nat) ≤ 1000000), (by decide : (0 : Nat) ≤ 1000000), (by unfold isI; decide : isI 0)⟩
theorem parse_xok {x : Cm} {a y : Int} (h : parseP ms ds L = (x, a, y)) : XOk x := by
  have h0 : XOk cm0 := xok0 0
  unfold parseP at h
  split at h
  · cases h; exact h0
  · split at h
    · cases h; exact h0
    · split at h
      · cases h; exact h0
      · rename_i s hs
        split at h
        · cases h; exact h0
        · cases h; exact foldP_xok _ _ _ (xok0 _) hs
/-- How many words there are where the first choice is not written. -/
theorem words_1 {x : Cm} {l : List ByteArray} (h : writeP ms ds x = some l) (hk : x.k = 1) (hh : x.h = 0) : l.length = 5 := by
  obtain ⟨_, m, hm, rfl⟩ := write_some h
  rw [hk] at hm
  have e : foldW ms ds (shapeL 1) x = catW (oneW ms ds 117 x) (catW (oneW ms ds 115 x) (catW (oneW ms ds 99 x) (catW (oneW ms ds 110 x) (catW (oneW ms ds 104 x) (some []))))) := rfl
  rw [e] at hm
  obtain ⟨a1, r1, h1, g1, rfl⟩ := cat_some hm
  obtain ⟨a2, r2, h2, g2, rfl⟩ := cat_some g1
  obtain ⟨a3, r3, h3, g3, rfl⟩ := cat_some g2
  obtain ⟨a4, r4, h4, g4, rfl⟩ := cat_some g3
  obtain ⟨a5, r5, h5, g5, rfl⟩ := cat_some g4
  cases g5
  have n1 : ∀ b a, isNm b → oneW ms ds b x = some a → a.length = 1 := fun b a hb ha => by
    rw [oneW_name hb] at ha
    split at ha
    · cases ha; rfl
    · cases ha
  have l1 := n1 _ _ (.inl rfl) h1
  have l2 := n1 _ _ (.inr (.inl rfl)) h2
  have l3 : a3.length = 1 := by
    rw [oneW_cell] at h3
    split at h3
    · cases h3; rfl
    · cases h3
  have l4 : a4.length = 1 := by rw [oneW_num] at h4; cases h4; rfl
  have l5 : a5.length = 0 := by
    rw [oneW_how, hh] at h5
    have : some [] = some a5 := h5
    cases this; rfl
  simp only [List.length_cons, List.length_append, List.length_nil]
  omega
theorem words_10 {x : Cm} {l : List ByteArray} (h : writeP ms ds x = some l) (hk : x.k = 10) (hh : x.h = 0) : l.length = 4 := by
  obtain ⟨_, m, hm, rfl⟩ := write_some h
  rw [hk] at hm
  have e : foldW ms ds (shapeL 10) x = catW (oneW ms ds 117 x) (catW (oneW ms ds 115 x) (catW (oneW ms ds 111 x) (catW (oneW ms ds 109 x) (some [])))) := rfl
  rw [e] at hm
  obtain ⟨a1, r1, h1, g1, rfl⟩ := cat_some hm
  obtain ⟨a2, r2, h2, g2, rfl⟩ := cat_some g1
  obtain ⟨a3, r3, h3, g3, rfl⟩ := cat_some g2
  obtain ⟨a4, r4, h4, g4, rfl⟩ := cat_some g3
  cases g4
  have n1 : ∀ b a, isNm b → oneW ms ds b x = some a → a.length = 1 := fun b a hb ha => by
    rw [oneW_name hb] at ha
    split at ha
    · cases ha; rfl
    · cases ha
  have l1 := n1 _ _ (.inl rfl) h1
  have l2 := n1 _ _ (.inr (.inl rfl)) h2
  have l3 := n1 _ _ (.inr (.inr rfl)) h3
  have l4 : a4.length = 0 := by
    rw [oneW_mt, hh] at h4
    have : some [] = some a4 := h4
    cases this; rfl
  simp only [List.length_cons, List.length_append, List.length_nil]
  omega
end
theorem txs_lineW {s : ByteArray} {l : List Wd} (h : l.map cor = (tks s.data.toList).map mkc) : txs l = lineW s := by
  have e : txs l = (l.map cor).map (·.2.1) := by unfold txs; rw [List.map_map]; rfl
  rw [e, h, List.map_map]
  rfl
theorem Wq.take {w : World} {a : Option Addr} {l : List Wd} (h : Wq w a l) (k : Nat) (hk : k ≤ l.length) : Wq w a (l.take k) := by
  have hl : (l.take k).length = k := by rw [List.length_take]; omega
  refine ⟨fun hp => ?_, fun x hx => h.ps x (List.mem_of_mem_take hx)⟩
  obtain ⟨b, o, e, hb, hc⟩ := h.cells (by omega)
  refine ⟨b, o, e, hb, fun i hi t ht u hu => hc i (by omega) t ht u ?_⟩
  have : wdA (l.take k) i = wdA l i := by
    rw [wdA_get hi, wdA_get (show i < l.length by omega)]
    simp
  rw [this] at hu
  exact hu
end Go.Proofs.YtpehinmckppjoaaGreatDoor
