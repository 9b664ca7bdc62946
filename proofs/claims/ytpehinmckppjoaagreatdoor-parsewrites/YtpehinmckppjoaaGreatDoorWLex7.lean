/- lex: each, its iterator, Words. -/
import Derived.Test.YtpehinmckppjoaaGreatDoorWRfStB
import Derived.Test.YtpehinmckppjoaaGreatDoorWRfStB
namespace Go.Proofs.YtpehinmckppjoaaGreatDoor
open Go Go.RowKit Go.Maps
set_option linter.unusedSimpArgs false
set_option linter.unusedVariables false
attribute [local go_sem] Oper.semAt_some

theorem chg_put (X : World) (b : Nat) (o : Obj) : Chg (fun j => j = b) X (X.putObj b o) := ⟨rfl, rfl, rfl, by simp [World.putObj], fun j hj hb => World.putObj_heap_other hb⟩
theorem put_kept {w X : World} {b : Nat} {o : Obj} (h : Kept w X) (hb : w.heap.size ≤ b) : Kept w (X.putObj b o) := Chg.kept h (chg_put X b o) (fun j e => by omega)
/-- What is a row of texts in X, but for some blocks, is one in Y. -/
def SU (S : Nat → Prop) (X Y : World) : Prop := ∀ j cs, ¬ S j → X.heap[j]? = some (.cells cs 9 (0, 0)) → Y.heap[j]? = some (.cells cs 9 (0, 0))
theorem SU.trans {S : Nat → Prop} {X Y Z : World} (h : SU S X Y) (k : SU S Y Z) : SU S X Z := fun j cs hj e => k j cs hj (h j cs hj e)
theorem SU.refl (S : Nat → Prop) (X : World) : SU S X X := fun _ _ _ e => e
theorem SU.of_kept {S : Nat → Prop} {X Y : World} (h : Kept X Y) : SU S X Y := fun j cs _ e => by
  have hlt : j < X.heap.size := (Array.getElem?_eq_some_iff.1 e).1
  rw [h.block _ hlt]; exact e
theorem SU.of_chg {S T : Nat → Prop} {X Y : World} (h : Chg T X Y) (hT : ∀ j, T j → S j ∨ ∃ cs e, e ≠ 9 ∧ X.heap[j]? = some (.cells cs e (0, 0))) : SU S X Y := fun j cs hj e => by
  have hlt : j < X.heap.size := (Array.getElem?_eq_some_iff.1 e).1
  rw [h.block _ hlt (fun ht => ?_)]
  · exact e
  · rcases hT j ht with h1 | ⟨cs', e', h1, h2⟩
    · exact hj h1
    · rw [h2] at e; simp at e; exact h1 e.2
theorem own_type {w : World} {B : Nat} {e : TypeId} {size n : Nat} {v : Value} {xs : List Value} (h : w.ownsRow B e size v n xs) {k : Nat} (hk : v.ownBlock = some k) : ∃ cs, w.heap[k]? = some (.cells cs e (0, 0)) := by
  obtain ⟨h0, ⟨rfl, _⟩ | ⟨g, cap, cur, rfl, hb, hh, r⟩⟩ := h
  · simp [Value.ownBlock] at hk
  · simp [Value.ownBlock] at hk; subst hk; exact ⟨cur, hh⟩
theorem own_su {S : Nat → Prop} {w y : World} {B n : Nat} {v : Value} {xs : List Value} (h : w.ownsRow B 9 1 v n xs) (k : SU S w y) (hb : ∀ g, v.ownBlock = some g → ¬ S g) : y.ownsRow B 9 1 v n xs := by
  obtain ⟨h0, h1 | ⟨g, cap, cur, hv, hb', hh, r⟩⟩ := h
  · exact ⟨h0, .inl h1⟩
  · subst hv
    exact ⟨h0, .inr ⟨g, cap, cur, rfl, hb', k g cur (hb g rfl) hh, r⟩⟩
theorem blk_cell {w : World} {b : Nat} {s : ByteArray} (h : w.heap[b]? = some (.cells #[.string s] 9 (0, 0))) : w.cell? ⟨b, 0, none⟩ = some (.string s) := by simp [World.cell?, h]
theorem text_WordsO (s : ByteArray) (hs : s.size ≤ 1000000) (w : World) (hlen : (wordsB s).length ≤ 1000001) : Calls Tryz.prog 74 #[.string s] w fun e w' => ∃ A, e = .returned (.slice (some ⟨A, 0, none⟩) (wordsB s).length (wordsB s).length) ∧ w.heap.size ≤ A ∧ w'.ownsRow w.heap.size 9 1 (.slice (some ⟨A, 0, none⟩) (wordsB s).length (wordsB s).length) (wordsB s).length ((wordsB s).map Value.string) ∧ Kept w w' := by
  have HC := hidMk (Tryz.strings_FieldsFunc 102 #[] words_enters isBlank s w (by omega) (words_pred w))
  have HW := hidMk (show Lib.goFieldsP isBlank s = wordsB s from rfl)
  rw [HW.out] at HC
  generalize wordsB s = l at *
  go_enter Tryz.func74, Tryz.ntmps74
  go_wp2_with fail
  refine HC.out.mono ?_
  rintro e w1 ⟨A, rfl, hA, ho, k1⟩
  have HO := hidMk ho
  have HK : Hid (Kept w w1) := hidMk k1
  clear ho k1
  go_wp2_with fail
  go_ret
  exact ⟨_, rfl, hA, HO.out, HK.out⟩
theorem lex_each (s : ByteArray) (w : World) : Calls Tryz.prog 45 #[.string s] w fun e w' => e = .returned (.func (.func 73) #[] #[.pointer (some ⟨w.heap.size, 0, none⟩)]) ∧ w' = w.alloc (.cells #[.string s] 9) := by
  go_enter Tryz.func45, Tryz.ntmps45
  go_wp2_with fail
  go_ret
  exact ⟨rfl, rfl⟩
/-- The words of a line, as texts. -/
theorem wordsB_tks (s : ByteArray) : wordsB s = (tks s.data.toList).map fun y => bstr y.2 := by
  refine datas_inj ?_
  rw [words_tie, ← tks_snd, List.map_map]
  exact List.map_congr_left fun y _ => (bstr_data y.2).symm
theorem end_next {ts : List (Nat × List UInt8)} {k : Nat} (hk : k < ts.length) : endOf ts (k + 1) = ts[k].1 + ts[k].2.length := by
  unfold endOf
  rw [if_neg (by omega), show k + 1 - 1 = k by omega, List.getD_eq_getElem?_getD, List.getElem?_eq_getElem hk]
  rfl
set_option maxHeartbeats 4000000 in
set_option maxRecDepth 100000 in
theorem each_it {S : Nat → Prop} {l vb : Nat} (W : World) (J : Nat → World → Prop) (Jx : World → Prop) (s : ByteArray) (hs : s.size ≤ 10000)
    (hv : W.heap[vb]? = some (.cells #[.string s] 9 (0, 0))) (hvr : ¬ S vb) (hr : ∀ j, S j → j < W.heap.size) (hJV : ∀ k X, J k X → Vars X) (h0 : ∀ Y, Kept W Y → J 0 Y)
    (n : Nat) (hY : ∀ k X, J k X → (hk : k < (tks s.data.toList).length) → YieldAt Fence.wide (n - 1) Tryz.prog l #[.int .i64 ((tks s.data.toList)[k].1 : Nat), .string (bstr (tks s.data.toList)[k].2)] X fun e X' => (e = .returned (.bool true) ∧ J (k + 1) X' ∧ SU S X X') ∨ (e = .returned (.bool false) ∧ Jx X')) :
    CallsIn Fence.wide n Tryz.prog 73 #[.func (.yield l) #[] #[], .pointer (some ⟨vb, 0, none⟩)] W fun e X' => (∃ v, e = .returned v) ∧ (J (tks s.data.toList).length X' ∨ Jx X') := by
  have HY := hidMk hY
  have HJV := hidMk hJV
  have HJ0 := hidMk h0
  have HS := hidMk hr
  have HVR := hidMk hvr
  have HV := hidMk hv
  have hlen : (wordsB s).length = (tks s.data.toList).length := by rw [wordsB_tks, List.length_map]
  have hlb : (tks s.data.toList).length ≤ 10001 := by have h1 := tks_len s.data.toList; have h2 := data_len s; omega
  have HTW := hidMk (callsIn_wide (n := n - 1).2 (text_WordsO s (by omega) W (by omega)))
  rw [hlen] at HTW
  have HMP := hidMk (show (wordsB s).map Value.string = (tks s.data.toList).map (fun y => Value.string (bstr y.2)) from by rw [wordsB_tks, List.map_map]; rfl)
  rw [HMP.out] at HTW
  have c0 := blk_cell hv
  have HLG := hidMk (fun k hk => lay_get s.data.toList (k := k) hk)
  have HEN := hidMk (fun k hk => end_next (ts := tks s.data.toList) (k := k) hk)
  have HDL := hidMk (data_len s)
  have HE0 := hidMk (show endOf (tks s.data.toList) 0 = 0 by simp [endOf])
  clear hY hJV h0 hr hvr hv hlen HMP
  obtain ⟨L, hL⟩ : ∃ L, s.data.toList = L := ⟨_, rfl⟩
  have HL := hidMk hL
  rw [hL] at HY HTW HLG HEN HDL HE0 hlb ⊢
  clear hL
  refine callsIn_of_wp Tryz.func73 rfl trivial ?_ rfl
  simp only [Tryz.ntmps73, List.size_toArray, List.length_cons, List.length_nil, Nat.reduceAdd, Nat.reduceSub, Array.replicate_succ, Array.replicate_zero, List.push_toArray, List.append_toArray, List.nil_append, List.cons_append]
  gi_wp2
  refine ⟨trivial, ?_⟩
  refine ⟨fun e => (by cases e), ?_⟩
  refine HTW.out.mono ?_
  rintro e w1 ⟨A, rfl, hA, ho, k1⟩
  have HO := hidMk ho
  have K1 := hidMk k1
  have HJ1 := hidMk (HJ0.out w1 k1)
  have HV1 := hidMk (show w1.heap[vb]? = some (.cells #[.string s] 9 (0, 0)) from (k1.block _ ((Array.getElem?_eq_some_iff.1 HV.out).1)).trans HV.out)
  have HAS := hidMk (show ¬ S A from fun e => by have := HS.out A e; omega)
  clear ho k1 c0 hA
  gi_wp2
  gi_loopw [3, 5, 9] (fun a _ i wr => ∃ k : Nat, k ≤ (tks L).length ∧ i = .int .i64 k ∧ a = .int .i64 (endOf (tks L) k : Nat) ∧ Hid (J k wr) ∧ Hid (wr.ownsRow W.heap.size 9 1 (.slice (some ⟨A, 0, none⟩) (tks L).length (tks L).length) (tks L).length ((tks L).map (fun y => Value.string (bstr y.2)))) ∧ Hid (wr.heap[vb]? = some (.cells #[.string s] 9 (0, 0)))) (fun _ _ i _ => (tks L).length - (intOf i).toNat)
  case atStart => exact ⟨0, Nat.zero_le _, rfl, by rw [HE0.out]; rfl, HJ1, HO, HV1⟩
  case round =>
    clear HJ0 HJ1 HO HV1 HTW
    obtain ⟨k, hkm, rfl, rfl, HJ, HO, HVW⟩ := hrel
    by_cases hk : k < (tks L).length
    · obtain ⟨g1, ⟨rest, g2⟩, g3, g4, g5⟩ := HLG.out k hk
      have HYK := hidMk (HY.out k wr HJ.out hk)
      have HNX := hidMk (HEN.out k hk)
      have hcell := World.ownsRow.cellAt HO.out k (by omega)
      rw [List.getElem?_map, List.getElem?_eq_getElem hk, Option.map_some] at hcell
      have c0 := blk_cell HVW.out
      have hk' : (k : Int) < ((tks L).length : Int) := by omega
      have HM := hidMk (HJV.out k wr HJ.out)
      generalize (tks L)[k] = y at *
      obtain ⟨p, wd⟩ := y
      dsimp only at *
      obtain ⟨at_, hat⟩ : ∃ a, endOf (tks L) k = a := ⟨_, rfl⟩
      rw [hat] at g1 g2 ⊢
      have HAT := hidMk hat
      have hsd := HDL.out
      have hsl : ∀ w, (Instr.slice 9 (.string s) (some (.int .i64 (at_ : Int))) none none).run Tryz.prog w = .ok (.string (s.extract at_ s.size)) w := fun w => by
        rw [run_slice_string_from_if w 9 s .i64 (at_ : Int) Tryz.underlying9, if_pos ⟨by omega, by omega⟩]
        rfl
      have hxd : (s.extract at_ s.size).data.toList = L.drop at_ := by
        rw [extract_bstr s at_ s.size (Nat.le_refl _), bstr_data, HL.out, List.take_of_length_le (by omega)]
      have hix : Lib.index (s.extract at_ s.size).data.toList (bstr wd).data.toList = ((p - at_ : Nat) : Int) := by
        rw [hxd, bstr_data, g2]; exact index_skip _ _ _ g3 g4
      obtain ⟨_, _, m, hm⟩ := HM.out
      have HIX := hidMk (callsIn_wide (n := n - 1).2 (Tryz.strings_Index (s.extract at_ s.size) (bstr wd) m wr (by
        have h1 : (s.extract at_ s.size).size = (s.extract at_ s.size).data.toList.length := (data_len _).symm
        rw [h1, hxd, List.length_drop]
        omega) hm))
      rw [hix] at HIX
      have hwl : ((bstr wd).size : Int) = (wd.length : Int) := by rw [bstr_size]
      have hadd : (at_ : Int) + ((p - at_ : Nat) : Int) = (p : Int) := by omega
      have hpb : p + wd.length ≤ 10000 := by omega
      have HG1 := hidMk g1
      have HADD := hidMk hadd
      have hpp : ((p - at_ : Nat) : Int) ≤ 10000 := by omega
      have hatb : (at_ : Int) ≤ 10000 := by omega
      obtain ⟨d, hd⟩ : ∃ d, p - at_ = d := ⟨_, rfl⟩
      rw [hd] at HIX HADD hpp
      clear g1 g2 g3 g4 g5 hxd hix hm hat hadd hsd hd HM
      have HWL := hidMk hwl
      generalize bstr wd = wdb at *
      gi_wp2
      refine ⟨trivial, ?_⟩
      refine ⟨fun e => (by cases e), ?_⟩
      generalize s.extract at_ s.size = sx at *
      refine HIX.out.mono ?_
      rintro e w2 ⟨rfl, hw2⟩
      rw [hw2]
      clear hw2 w2 hsl HIX c0 hcell hwl
      obtain ⟨fn, tmps, assign, body, hy, hR⟩ := HYK.out
      have HR := hidMk hR
      clear hR HYK
      rw [← HADD.out] at hy
      gi_wp2
      refine ⟨fun e => (by cases e), ?_⟩
      refine HR.out.mono ?_
      rintro e X' (⟨rfl, hJ', hsu⟩ | ⟨rfl, hJ'⟩)
      · have HF := hidMk hJ'
        have HO2 := hidMk (own_su HO.out hsu (fun g e => by simp [Value.ownBlock] at e; subst e; exact HAS.out))
        have HV2 := hidMk (hsu vb _ HVR.out HVW.out)
        clear hJ' hsu HR hy HO HVW HJ
        have hwb : (wdb.size : Int) ≤ 10000 := by have := HWL.out; omega
        have hdd : (at_ : Int) + (d : Int) ≤ 10000 := by have := HADD.out; omega
        gi_wp2
        go_roundw
        case rel => exact ⟨k + 1, by omega, by go_num, by rw [HNX.out]; congr 1; have h1 := HADD.out; have h2 := HWL.out; omega, HF, HO2, HV2⟩
        case measure => simp [intOf]; omega
      · have HF := hidMk hJ'
        clear hJ' HR hy
        gi_wp2
        refine bodyPost_ret (v := .tuple #[]) (results_none rfl _ _ _) rfl ?_
        exact ⟨⟨_, rfl⟩, .inr HF.out⟩
    · have hke : k = (tks L).length := by omega
      have HJE := hidMk (show J (tks L).length wr by rw [← hke]; exact HJ.out)
      have hk' : ¬ ((k : Int) < ((tks L).length : Int)) := by omega
      gi_wp2
      go_end0
      exact ⟨⟨_, rfl⟩, .inl HJE.out⟩
end Go.Proofs.YtpehinmckppjoaaGreatDoor
