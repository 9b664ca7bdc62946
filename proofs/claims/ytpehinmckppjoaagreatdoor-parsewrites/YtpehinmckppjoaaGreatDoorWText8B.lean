/- text.Read and the definition's. · The definition's Read. · text.Words, text.Lines; two lists that are held against each other. · Two lists of texts held against each other; what must come of fixed calls (layer 3). -/
import Derived.Test.YtpehinmckppjoaaGreatDoorWReadMathB
import Derived.Test.YtpehinmckppjoaaGreatDoorWDoorShelf
import Derived.Test.YtpehinmckppjoaaGreatDoorWStrsB
import Derived.Lib.SplitLaws
namespace Go.Proofs.YtpehinmckppjoaaGreatDoor
open Go.RowKit
set_option linter.unusedSimpArgs false
set_option linter.unusedVariables false

/-- The library's variables that are read: two errors, and a number. -/
def Vars (w : World) : Prop := (∃ e, w.cell? ⟨2, 0, none⟩ = some e ∧ (e = .nilIface ∨ ∃ te pe, e = .iface te pe)) ∧ (∃ e, w.cell? ⟨3, 0, none⟩ = some e ∧ (e = .nilIface ∨ ∃ te pe, e = .iface te pe)) ∧ ∃ m, w.cell? ⟨1, 0, none⟩ = some (.int .i64 m)
theorem Vars.kept {w w' : World} (h : Vars w) (k : Kept w w') : Vars w' := by
  obtain ⟨⟨e, h1, h2⟩, ⟨f, h3, h4⟩, m, h5⟩ := h
  exact ⟨⟨e, (k.cell (p := ⟨2, 0, none⟩) (cell_lt h1)).trans h1, h2⟩, ⟨f, (k.cell (p := ⟨3, 0, none⟩) (cell_lt h3)).trans h3, h4⟩, m, (k.cell (p := ⟨1, 0, none⟩) (cell_lt h5)).trans h5⟩
theorem kept_bytes (w : World) (e : TypeId) (t : ByteArray) : Kept w (Lib.bytesWorld w e t) := by
  exact Lib.bytesWorld_below _ _ _

theorem neq_nil (w : World) : (binOp .neq 159 .nilIface .nilIface).run Tryz.prog w = .ok (.bool false) w := by kernel_rfl
theorem neq_ptr (T : TypeId) (a : Addr) (w : World) : (binOp .neq 159 (.iface 207 (.pointer (some a))) .nilIface).run Tryz.prog w = .ok (.bool true) w := by kernel_rfl

set_option maxHeartbeats 400000 in
theorem text_Read_ok (v : Int) (hv : isI v) (w : World) : Calls Tryz.prog 76 #[.string (numS v)] w fun e w' => e = .returned (.tuple #[.int .i64 v, .int .i64 0]) ∧ Kept w w' := by
  have hsz := numS_size v hv
  have HP := hidMk (Tryz.strconv_ParseInt_10_at64_ok (numS v) (by omega) v (parse_num v hv))
  have HN := hidMk (text_Num v hv)
  have hq := neq_nil
  generalize numS v = s at *
  go_enter Tryz.func76, Tryz.ntmps76
  go_wp2_with fail
  refine (HP.out _).mono ?_
  rintro e w1 ⟨rfl, h1⟩
  have K1 : Hid (Kept w w1) := hidMk (by rcases h1 with rfl | ⟨t, rfl⟩
                                         · exact Kept.refl _
                                         · exact kept_bytes _ _ _)
  clear h1
  go_wp2_with (go_at_call 105; refine (HN.out _).mono ?_; rintro e w2 ⟨rfl, k2⟩)
  go_ret2
  exact ⟨rfl, K1.out.trans k2⟩

set_option maxHeartbeats 400000 in
theorem text_Read_no (s : ByteArray) (hs : s.size ≤ 140737488355328) (hno : ∀ v, isI v → numS v ≠ s) (w : World) (hV : Vars w) : Calls Tryz.prog 76 #[.string s] w fun e w' => e = .returned (.tuple #[.int .i64 0, .int .i64 6]) ∧ Kept w w' := by
  have HNO := hidMk hno
  have HV := hidMk hV
  clear hno hV
  cases hp : Lib.parseIntB 64 s.data.toList with
  | ok v =>
    have hv := parse_is hp
    have HP := hidMk (Tryz.strconv_ParseInt_10_at64_ok s (by omega) v hp)
    have HN := hidMk (text_Num v hv)
    have hne := HNO.out v hv
    have hne2 : ((numS v).toList == s.toList) = false := by
      rw [beq_eq_false_iff_ne]
      intro e
      apply hne
      apply ByteArray.ext
      rw [ByteArray.toList_eq, ByteArray.toList_eq] at e
      exact Array.ext' e
    have hq := neq_nil
    clear hp hv hne
    generalize numS v = x at *
    go_enter Tryz.func76, Tryz.ntmps76
    go_wp2_with fail
    refine (HP.out _).mono ?_
    rintro e w1 ⟨rfl, h1⟩
    have K1 : Hid (Kept w w1) := hidMk (by rcases h1 with rfl | ⟨t, rfl⟩
                                           · exact Kept.refl _
                                           · exact kept_bytes _ _ _)
    clear h1
    go_wp2_with (go_at_call 105; refine (HN.out _).mono ?_; rintro e w2 ⟨rfl, k2⟩)
    go_ret2
    exact ⟨rfl, K1.out.trans k2⟩
  | «syntax» =>
    obtain ⟨⟨ev, h1, h2⟩, _⟩ := HV.out
    have HP := hidMk (Tryz.strconv_ParseInt_10_at64_syntax s (by omega) hp ev w h1 h2)
    have hq := neq_ptr
    clear hp h1 h2
    go_enter Tryz.func76, Tryz.ntmps76
    go_wp2_with fail
    refine HP.out.mono ?_
    rintro e w1 ⟨N, rfl, _, _, k1⟩
    have K1 : Hid (Kept w w1) := hidMk k1
    clear k1
    go_wp2_with fail
    go_ret2
    exact ⟨rfl, K1.out⟩
  | range =>
    obtain ⟨_, ⟨ev, h1, h2⟩, _⟩ := HV.out
    have HP := hidMk (Tryz.strconv_ParseInt_10_at64_range s (by omega) hp ev w h1 h2)
    have hq := neq_ptr
    clear hp h1 h2
    go_enter Tryz.func76, Tryz.ntmps76
    go_wp2_with fail
    refine HP.out.mono ?_
    rintro e w1 ⟨N, rfl, _, _, k1⟩
    have K1 : Hid (Kept w w1) := hidMk k1
    clear k1
    go_wp2_with fail
    go_ret2
    exact ⟨rfl, K1.out⟩
end Go.Proofs.YtpehinmckppjoaaGreatDoor
namespace Go.Proofs.YtpehinmckppjoaaGreatDoor
open Go.RowKit
set_option linter.unusedSimpArgs false
set_option linter.unusedVariables false

theorem bytes_ne {a b : ByteArray} (h : a ≠ b) : (a.toList == b.toList) = false := by
  rw [beq_eq_false_iff_ne]
  intro e
  apply h
  apply ByteArray.ext
  rw [ByteArray.toList_eq, ByteArray.toList_eq] at e
  exact Array.ext' e
theorem valR_take (s : ByteArray) (k : Nat) (h : k < s.size) : valR 0 ((byt s).take (k + 1)) = if digB (bat s k) then (valR 0 ((byt s).take k) * 10 + (bat s k - 48)) % 18446744073709551616 else valR 0 ((byt s).take k) := by
  have h' : k < (byt s).length := by rw [byt_len]; exact h
  rw [List.take_succ_eq_append_getElem h', valR_app]
  have e : bat s k = (byt s)[k] := by unfold bat; rw [List.getD_eq_getElem?_getD, List.getElem?_eq_getElem h']; rfl
  rw [e]
  rfl
/-- What the definition's Read comes to. -/
def refV (s : ByteArray) : Int := if 0 < s.size ∧ bat s 0 = 45 then wrap64 (IntKind.u64.wrap (-valR 0 (byt s))) else wrap64 (valR 0 (byt s))
theorem refV_is (s : ByteArray) : isI (refV s) := by
  unfold refV; split <;> exact wrap64_is _
theorem refV_num (v : Int) (hv : isI v) : refV (numS v) = v := by
  have h1 := numL_head v
  have e : bat (numS v) 0 = (numL v).getD 0 0 := by unfold bat; rw [numS_byt]
  have hs : 0 < (numS v).size := by unfold numS; rw [str_size]; exact h1.1
  unfold refV
  rw [numS_byt, valR_num v hv, e]
  unfold isI at hv
  by_cases h : v < 0
  · rw [if_pos ⟨hs, h1.2.2 h⟩, if_pos h, IntKind.wrap_u64]
    unfold wrap64; omega
  · rw [if_neg (fun hh => h (h1.2.1 hh.2)), if_neg h]
    unfold wrap64; omega

set_option maxHeartbeats 1000000 in
set_option maxRecDepth 100000 in
theorem ref_Read (s : ByteArray) (hs : s.size ≤ 9223372036854775806) (w : World) :
    Calls Tryz.prog 60 #[.string s] w fun e w' => e = .returned (.tuple #[.int .i64 (if numS (refV s) = s ∧ s.size ≤ 20 then refV s else 0), .int .i64 (if numS (refV s) = s ∧ s.size ≤ 20 then 0 else 6)]) ∧ w' = w := by
  by_cases g0 : 20 < s.size
  · rw [if_neg (by omega), if_neg (by omega)]
    have g0' : (20 : Int) < (s.size : Int) := by omega
    go_enter Tryz.func60, Tryz.ntmps60
    go_wp2
    go_ret2
    exact ⟨rfl, rfl⟩
  have g0' : (s.size : Int) ≤ 20 := by omega
  obtain ⟨A, hA⟩ : ∃ A, (if numS (refV s) = s ∧ s.size ≤ 20 then refV s else 0) = A := ⟨_, rfl⟩
  obtain ⟨E, hE⟩ : ∃ E : Int, (if numS (refV s) = s ∧ s.size ≤ 20 then 0 else 6) = E := ⟨_, rfl⟩
  rw [hA, hE]
  have HA := hidMk hA
  have HE := hidMk hE
  clear hA hE
  go_enter Tryz.func60, Tryz.ntmps60
  go_wp2
  go_loopw [4, 5] (fun n i wr => ∃ k : Nat, k ≤ s.size ∧ i = .int .i64 k ∧ wr = w ∧ n = .int .u64 (valR 0 ((byt s).take k))) (fun _ i _ => s.size - (intOf i).toNat)
  case atStart => exact ⟨0, Nat.zero_le _, rfl, rfl, rfl⟩
  case round =>
    obtain ⟨k, hk, rfl, rfl, rfl⟩ := hrel
    by_cases hks : k < s.size
    · have i1 := run_at (P := Tryz.prog) Tryz.underlying9 s .i64 k hks
      have HT := hidMk (valR_take s k hks)
      have hu := valR_isU ((byt s).take k) 0 (by unfold isU; omega)
      unfold isU at hu
      have hb := bat_is s k
      have HD := hidMk (ref_digit (bat s k))
      generalize valR 0 ((byt s).take k) = acc at *
      generalize bat s k = c at *
      cases hd : digB c with
      | true =>
        rw [hd] at HD
        have hc : 48 ≤ c ∧ c ≤ 57 := by unfold digB at hd; simpa using hd
        have HT2 := hidMk (show valR 0 ((byt s).take (k + 1)) = (acc * 10 + (c - 48)) % 18446744073709551616 by rw [HT.out, if_pos hd])
        have hst : IntKind.u64.wrap (IntKind.u64.wrap (acc * 10) + (c - 48)) = (acc * 10 + (c - 48)) % 18446744073709551616 := by rw [IntKind.wrap_u64, IntKind.wrap_u64]; omega
        clear HT hd
        obtain ⟨c1, c2⟩ := hc
        go_wp2_with (go_at_call 86; refine (HD.out _).mono ?_; rintro e w1 ⟨rfl, rfl⟩)
        exact ⟨⟨k + 1, by omega, by go_num, trivial, by rw [HT2.out]⟩, by simp [intOf]; omega⟩
      | false =>
        rw [hd] at HD
        have HT2 := hidMk (show valR 0 ((byt s).take (k + 1)) = acc by rw [HT.out, if_neg (by rw [hd]; simp)])
        clear HT hd
        go_wp2_with (go_at_call 86; refine (HD.out _).mono ?_; rintro e w1 ⟨rfl, rfl⟩)
        exact ⟨⟨k + 1, by omega, by go_num, trivial, by rw [HT2.out]⟩, by simp [intOf]; omega⟩
    · have ht : (byt s).take k = byt s := List.take_of_length_le (by rw [byt_len]; omega)
      rw [ht]
      have hks' : ¬ ((k : Int) < (s.size : Int)) := by omega
      have hu := valR_isU (byt s) 0 (by unfold isU; omega)
      unfold isU at hu
      have HN := hidMk (ref_Num (refV s) (refV_is s))
      by_cases hneg : 0 < s.size ∧ bat s 0 = 45
      · have hr : wrap64 (IntKind.u64.wrap (-valR 0 (byt s))) = refV s := by unfold refV; rw [if_pos hneg]
        have i0 : ∀ w, (Instr.index 9 (.string s) (.int .i64 0)).run Tryz.prog w = .ok (.int .u8 45) w := fun w => by
          have := run_at (P := Tryz.prog) Tryz.underlying9 s .i64 0 hneg.1 w
          rw [hneg.2] at this
          exact this
        have hp : (0 : Int) < (s.size : Int) := by omega
        clear ht
        generalize refV s = v at *
        generalize valR 0 (byt s) = n at *
        clear hneg
        by_cases hn : numS v = s
        · have HAA := hidMk (show A = v by rw [← HA.out, if_pos ⟨hn, by omega⟩])
          have HEE := hidMk (show E = 0 by rw [← HE.out, if_pos ⟨hn, by omega⟩])
          rw [hn] at HN
          clear hn
          go_wp2_with (go_at_call 59; refine (HN.out _).mono ?_; rintro e w1 ⟨rfl, rfl⟩)
          go_ret2
          rw [HAA.out, HEE.out]
          exact ⟨rfl, rfl⟩
        · have HAA := hidMk (show A = 0 by rw [← HA.out, if_neg (fun h => hn h.1)])
          have HEE := hidMk (show E = 6 by rw [← HE.out, if_neg (fun h => hn h.1)])
          have hb := bytes_ne hn
          clear hn
          generalize numS v = x at *
          go_wp2_with (go_at_call 59; refine (HN.out _).mono ?_; rintro e w1 ⟨rfl, rfl⟩)
          go_ret2
          rw [HAA.out, HEE.out]
          exact ⟨rfl, rfl⟩
      · have hr : wrap64 (valR 0 (byt s)) = refV s := by unfold refV; rw [if_neg hneg]
        by_cases hp : 0 < s.size
        · have hb0 : (bat s 0 == 45) = false := by
            rw [beq_eq_false_iff_ne]
            exact fun e => hneg ⟨hp, e⟩
          have i0 : ∀ w, (Instr.index 9 (.string s) (.int .i64 0)).run Tryz.prog w = .ok (.int .u8 (bat s 0)) w := run_at (P := Tryz.prog) Tryz.underlying9 s .i64 0 hp
          have hp' : (0 : Int) < (s.size : Int) := by omega
          clear ht hneg
          generalize bat s 0 = c0 at *
          generalize refV s = v at *
          generalize valR 0 (byt s) = n at *
          by_cases hn : numS v = s
          · have HAA := hidMk (show A = v by rw [← HA.out, if_pos ⟨hn, by omega⟩])
            have HEE := hidMk (show E = 0 by rw [← HE.out, if_pos ⟨hn, by omega⟩])
            rw [hn] at HN
            clear hn
            go_wp2_with (go_at_call 59; refine (HN.out _).mono ?_; rintro e w1 ⟨rfl, rfl⟩)
            go_ret2
            rw [HAA.out, HEE.out]
            exact ⟨rfl, rfl⟩
          · have HAA := hidMk (show A = 0 by rw [← HA.out, if_neg (fun h => hn h.1)])
            have HEE := hidMk (show E = 6 by rw [← HE.out, if_neg (fun h => hn h.1)])
            have hb := bytes_ne hn
            clear hn
            generalize numS v = x at *
            go_wp2_with (go_at_call 59; refine (HN.out _).mono ?_; rintro e w1 ⟨rfl, rfl⟩)
            go_ret2
            rw [HAA.out, HEE.out]
            exact ⟨rfl, rfl⟩
        · have hp' : ¬ ((0 : Int) < (s.size : Int)) := by omega
          have hn : numS (refV s) ≠ s := by
            intro e
            have h1 := (numL_head (refV s)).1
            have h2 : (numS (refV s)).size = (numL (refV s)).length := by unfold numS; rw [str_size]
            rw [e] at h2
            omega
          have HAA := hidMk (show A = 0 by rw [← HA.out, if_neg (fun h => hn h.1)])
          have HEE := hidMk (show E = 6 by rw [← HE.out, if_neg (fun h => hn h.1)])
          have hb := bytes_ne hn
          clear hn ht hneg
          generalize refV s = v at *
          generalize valR 0 (byt s) = n at *
          generalize numS v = x at *
          go_wp2_with (go_at_call 59; refine (HN.out _).mono ?_; rintro e w1 ⟨rfl, rfl⟩)
          go_ret2
          rw [HAA.out, HEE.out]
          exact ⟨rfl, rfl⟩

end Go.Proofs.YtpehinmckppjoaaGreatDoor
namespace Go.Proofs.YtpehinmckppjoaaGreatDoor
open Go.RowKit
set_option linter.unusedSimpArgs false
set_option linter.unusedVariables false

theorem own_ssX {w : World} {base : Nat} {e : TypeId} {A n c : Nat} {l : List ByteArray} (hn : l.length = n) (hm : n ≤ maxLen) (h : w.ownsRow base e 1 (.slice (some ⟨A, 0, none⟩) n c) n (l.map Value.string)) : Ss w (some ⟨A, 0, none⟩) n l := by
  have h' := h
  obtain ⟨_, ⟨e1, _⟩ | ⟨g, cap, cur, hv, hb, hheap, hc, hcm, hsz, htk⟩⟩ := h
  · cases e1
  · cases hv
    refine ⟨hn, hm, fun hp => ⟨A, 0, rfl, ?_, fun i hi => ?_⟩⟩
    · by_cases hlt : A < w.heap.size
      · exact hlt
      · rw [Array.getElem?_eq_none (by omega)] at hheap; cases hheap
    · rw [Nat.zero_add, h'.cellAt i (by omega)]
      simp [List.getElem?_map, List.getElem?_eq_getElem (show i < l.length by omega), List.getD]
theorem ss_new (w : World) (l : List ByteArray) (T : TypeId) (h : l.length ≤ maxLen) : Ss (w.alloc (.cells (l.map Value.string).toArray T)) (some ⟨w.heap.size, 0, none⟩) l.length l := by
  refine ⟨rfl, h, fun hp => ⟨_, _, rfl, by simp, fun i hi => ?_⟩⟩
  simp [List.getElem?_eq_getElem hi, List.getD]

def isBlank : Nat → Bool := fun x => (x : Int) == 32
theorem words_fn (x : Nat) (w : World) : Calls Tryz.prog 102 #[.int .i32 (x : Int)] w fun e w' => e = .returned (.bool (isBlank x)) ∧ w' = w := by
  unfold isBlank
  go_enter Tryz.func102, Tryz.ntmps102
  go_wp2
  go_ret
  exact ⟨rfl, rfl⟩
theorem words_pred (w : World) : PredAt Tryz.prog 102 #[] encR isBlank w := by
  intro W x _
  refine (words_fn x W).mono ?_
  rintro e w' ⟨rfl, rfl⟩
  exact ⟨rfl, 0, rfl⟩
theorem words_enters : ∀ args w, (callFunc 102 args).run Tryz.prog w = .ok (.enter 102 args) w :=
  enters_of Tryz.func102 (by kernel_rfl) rfl

def wordsB (s : ByteArray) : List ByteArray := Lib.goFieldsP isBlank s
end Go.Proofs.YtpehinmckppjoaaGreatDoor
namespace Go.Proofs.YtpehinmckppjoaaGreatDoor
open Go.RowKit
set_option linter.unusedSimpArgs false
set_option linter.unusedVariables false

end Go.Proofs.YtpehinmckppjoaaGreatDoor
