/- WireBack: what was put is read. -/
import Derived.Test.YtolihnipoggokabWireKnown
import Derived.Laws.AppendOwnNone
import Derived.Deep.RegionHeld
import Derived.Test.YtolihnipoggokabStrs
namespace Go.Proofs.Ytolihnipoggokab
open Go.RowKit
set_option linter.unusedSimpArgs false
set_option linter.unusedVariables false

def txts (l : List ByteArray) : List Int := l.flatMap txt
theorem txts_take {l : List ByteArray} {k : Nat} (h : k < l.length) : txts (l.take (k + 1)) = txts (l.take k) ++ txt (l.getD k ByteArray.empty) := by
  unfold txts
  rw [List.take_succ_eq_append_getElem h, List.flatMap_append, List.getD_eq_getElem?_getD, List.getElem?_eq_getElem h]
  simp
theorem txts_drop {l : List ByteArray} {k : Nat} (h : k < l.length) : txts (l.drop k) = txt (l.getD k ByteArray.empty) ++ txts (l.drop (k + 1)) := by
  unfold txts
  rw [List.drop_eq_getElem_cons h, List.flatMap_cons, List.getD_eq_getElem?_getD, List.getElem?_eq_getElem h]
  rfl
theorem allB_drop {l : List Int} {k : Nat} (h : k < l.length) : allB (l.drop k) = encI (l.getD k 0) ++ allB (l.drop (k + 1)) := by
  unfold allB
  rw [List.drop_eq_getElem_cons h, List.flatMap_cons, List.getD_eq_getElem?_getD, List.getElem?_eq_getElem h]
  rfl
theorem txt_len (s : ByteArray) (h : s.size ≤ 8000) : (txt s).length ≤ 8010 := by
  have := encI_len (s.size : Int) (by unfold isI; omega)
  unfold txt
  rw [List.length_append, byt_len]; omega
theorem txts_len (l : List ByteArray) (h : ∀ s ∈ l, s.size ≤ 8000) : (txts l).length ≤ 8010 * l.length := by
  induction l with
  | nil => simp [txts]
  | cons x r ih =>
    have h1 := ih fun y hy => h y (List.mem_cons_of_mem _ hy)
    have h2 := txt_len x (h x (List.mem_cons_self ..))
    simp only [txts, List.flatMap_cons, List.length_append, List.length_cons] at *
    omega
theorem txt_isB (s : ByteArray) : ∀ x ∈ txt s, isB x := by
  intro x hx
  unfold txt at hx
  rcases List.mem_append.1 hx with hx | hx
  · exact enc_isB _ x hx
  · exact byt_isB s x hx
theorem txts_isB (l : List ByteArray) : ∀ x ∈ txts l, isB x := by
  intro x hx
  obtain ⟨s, _, h⟩ := List.mem_flatMap.1 hx
  exact txt_isB s x h
theorem allB_isB (l : List Int) : ∀ x ∈ allB l, isB x := by
  intro x hx
  obtain ⟨s, _, h⟩ := List.mem_flatMap.1 hx
  exact enc_isB _ x h

theorem num_step (x : Int) (hx : isI x) (r : List Int) : numOV (encI x ++ r) 0 = x ∧ (encI x ++ r).drop (numOS (encI x ++ r) 0) = r ∧ numOE (encI x ++ r) 0 = 0 := by
  obtain ⟨h1, h2, h3⟩ := num_enc (zig x) (zig_lt hx) r
  rw [zag_zig] at h1
  have e : numOE (encI x ++ r) 0 = 0 := by unfold numOE; rw [if_neg (by simp)]; exact h3
  refine ⟨?_, ?_, e⟩
  · unfold numOV; rw [e, if_pos rfl]; exact h1
  · unfold numOS; rw [e, if_pos rfl]
    have : numS (encI x ++ r) = (encI x).length := h2
    rw [this, List.drop_left]
theorem text_step (s : ByteArray) (hs : s.size ≤ 8000) (r : List Int) : textV (txt s ++ r) 0 = byt s ∧ textR (txt s ++ r) 0 = r ∧ textE (txt s ++ r) 0 = 0 := by
  have hi : isI (s.size : Int) := by unfold isI; omega
  have e : txt s ++ r = enc (zig (s.size : Int)) ++ (byt s ++ r) := by unfold txt encI; rw [List.append_assoc]
  rw [e]
  obtain ⟨h1, h2, h3⟩ := num_enc (zig (s.size : Int)) (zig_lt hi) (byt s ++ r)
  rw [zag_zig] at h1
  have hE : outE (enc (zig (s.size : Int)) ++ (byt s ++ r)) 0 0 8000 = 0 := by
    unfold outE
    rw [h3, h1, if_neg (by simp), if_neg (by simp), if_neg (by omega)]
  have hT : textE (enc (zig (s.size : Int)) ++ (byt s ++ r)) 0 = 0 := by
    unfold textE
    rw [hE, h2, h1, if_neg (by simp), if_neg]
    rw [List.length_append, List.length_append, byt_len]
    omega
  refine ⟨?_, ?_, hT⟩
  · unfold textV
    rw [hT, if_pos rfl, h2, h1, List.drop_left]
    rw [show ((s.size : Int)).toNat = (byt s).length by rw [byt_len]; omega, List.take_left]
  · unfold textR
    rw [hT, if_pos rfl, h2, h1, List.drop_left]
    rw [show ((s.size : Int)).toNat = (byt s).length by rw [byt_len]; omega, List.drop_left]
theorem getD_ins {l : List ByteArray} {k : Nat} (h : k < l.length) : l.getD k ByteArray.empty ∈ l := by
  rw [List.getD_eq_getElem?_getD, List.getElem?_eq_getElem h]; exact List.getElem_mem h

theorem wpList_app {ops : Array Oper} {rest : List Oper} {o : Oper} {a : Act} {Q : Exit → Act → World → Prop} (w : World) (hgd : o.guard = none) (s x : Operand)
    (ho : o.op = .call { callee := .builtin .append, args := #[s, x], argTypes := #[24, 24] })
    (w0 : World) (v : Value) (l : List Int) (hs : a.eval s = v) (hv : Owned w0 w v l) (hk : Kept w0 w) (b : Option Addr) (n c : Nat) (m : List Int) (hx : a.eval x = .slice b n c) (hsl : Sl .u8 w b n m) (hnil : b = none → c = 0)
    (hbig : (l.length + n) + (l.length + n) / 4 + 192 ≤ 281474976710656)
    (h : ∀ v' w', Owned w0 w' v' (l ++ m) → Kept w0 w' → wpList Try.prog ops Q rest (a.put o.dst v') w') : wpList Try.prog ops Q (o :: rest) a w := by
  obtain ⟨i0, hi0, hz0, hz1, hz2⟩ := u8info
  have hl := hsl.len
  cases b with
  | none =>
    have hn : n = 0 := by
      by_cases hn : 0 < n
      · obtain ⟨b', o', e, _⟩ := hsl.cells hn
        cases e
      · omega
    subst hn
    have hm : m = [] := List.eq_nil_of_length_eq_zero hl
    subst hm
    rw [hnil rfl] at hx
    refine wpList_append_own_none hgd s x 24 ho w0.heap.size 5 i0 1 Try.underlying24 hi0 v _ _ hs hv hx ?_
    exact h v w (by rw [List.append_nil]; exact hv) hk
  | some ad =>
    refine wpList_append_own_wide w hgd s x 24 ho w0.heap.size 5 i0 (.int .u8 0) 1 1 Try.underlying24 hi0 hz0 hz1 hz2 rfl (by decide) v _ _ hs hv ad n c (m.map (Value.int .u8)) hx (by simpa using hl) (sl_news hsl rfl) (u8s_one m) (by unfold maxLen; omega) (by omega) hk.size ?_
    intro v' w' h2 h3 _
    refine h v' w' ?_ (kept_grown hk hv h3)
    unfold Owned
    rw [List.length_append, List.map_append, hl]
    exact h2

set_option maxHeartbeats 4000000 in
set_option maxRecDepth 100000 in
theorem law_WireBack (a0 : Option Addr) (n0 c0 : Nat) (l : List Int) (a1 : Option Addr) (n1 c1 : Nat) (ss : List ByteArray) (a2 : Option Addr) (n2 c2 : Nat) (lm : List Int) (w : World)
    (h0 : Sl .i64 w a0 n0 l) (hx : ∀ x ∈ l, isI x) (h1 : Ss w a1 n1 ss) (h2 : Sl .u8 w a2 n2 lm) (hb : ∀ x ∈ lm, isB x) (hnil : a2 = none → c2 = 0) (hm : n2 ≤ 140737488351232) :
    Calls Try.prog 3 #[.slice a0 n0 c0, .slice a1 n1 c1, .slice a2 n2 c2] w fun e w' => e = .returned (.bool true) ∧ Kept w w' := by
  obtain ⟨i0, hi0, hz0, hz1, hz2⟩ := u8info
  have H0 := hidMk h0
  have HX := hidMk hx
  have H1 := hidMk h1
  have H2 := hidMk h2
  have HB := hidMk hb
  have HI := hidMk hi0
  have HZ := hidMk hz0
  have HNIL := hidMk hnil
  have l0 := h0.len
  have l1 := h1.len
  have l2 := h2.len
  have b0 : n0 ≤ 9223372036854775807 := h0.big
  have b1 : n1 ≤ 9223372036854775807 := h1.big
  clear h0 hx h1 h2 hb hi0 hz0 hnil
  by_cases g0 : 500 < n0
  · have g0' : (500 : Int) < (n0 : Int) := by omega
    go_enter Try.func3, Try.ntmps3
    go_wp2_with (go_at_call 6; refine (law_known _).mono ?_; rintro e w3 ⟨rfl, k3⟩)
    go_ret
    exact ⟨rfl, k3⟩
  have g0' : (n0 : Int) ≤ (500 : Int) := by omega
  by_cases g1 : 50 < n1
  · have g1' : (50 : Int) < (n1 : Int) := by omega
    go_enter Try.func3, Try.ntmps3
    go_wp2_with (go_at_call 6; refine (law_known _).mono ?_; rintro e w3 ⟨rfl, k3⟩)
    go_ret
    exact ⟨rfl, k3⟩
  have g1' : (n1 : Int) ≤ (50 : Int) := by omega
  go_enter Try.func3, Try.ntmps3
  go_wp2_with fail
  refine (wire_All a0 n0 c0 l _ H0.out HX.out (by omega)).mono ?_
  rintro e w1 ⟨v1, rfl, o1, k1⟩
  have O1 := hidMk o1
  have K1 := hidMk k1
  have hal := allB_len l HX.out
  clear o1 k1
  go_wp2_with fail
  go_loopw [7, 8] (fun v i wr => ∃ k : Nat, k ≤ n1 ∧ i = .int .i64 k ∧ Hid (Owned w wr v (allB l ++ txts (ss.take k))) ∧ Hid (Kept w wr) ∧ Hid (∀ j, j < k → (ss.getD j ByteArray.empty).size ≤ 8000)) (fun _ i _ => n1 - (intOf i).toNat)
  case atStart => exact ⟨0, Nat.zero_le _, rfl, hidMk (by simpa [txts] using O1.out), K1, hidMk fun j hj => absurd hj (by omega)⟩
  case round =>
    obtain ⟨k, hk, rfl, OB, KB, HL⟩ := hrel
    by_cases hkn : k < n1
    · obtain ⟨b, o, rfl, hbb, hcs⟩ := H1.out.cells (by omega)
      have hcell := (KB.out.cell (p := ⟨b, o + k, none⟩) hbb).trans (hcs k hkn)
      have HT := hidMk (txts_take (l := ss) (k := k) (by omega))
      have hsz0 := txts_len (ss.take k) (fun s hs => by
        obtain ⟨i, hi, rfl⟩ := List.getElem_of_mem hs
        have := HL.out i (by rw [List.length_take] at hi; omega)
        rw [List.getD_eq_getElem?_getD] at this
        rw [List.length_take] at hi
        rw [List.getElem_take]
        rwa [List.getElem?_eq_getElem (by omega)] at this)
      rw [List.length_take] at hsz0
      have HSX := hidMk (show (ss.getD k ByteArray.empty).size = (ss.getD k ByteArray.empty).size from rfl)
      clear hcs
      have HGD := hidMk (show ∀ s, s = ss.getD k ByteArray.empty → s.size ≤ 8000 → ∀ j, j < k + 1 → (ss.getD j ByteArray.empty).size ≤ 8000 from fun s hs h j hj => by
        by_cases e : j = k
        · subst e; rw [← hs]; exact h
        · exact HL.out j (by omega))
      generalize hs : ss.getD k ByteArray.empty = s at *
      have HS := hidMk hs
      clear hs
      by_cases hbig : 8000 < s.size
      · have hbig' : (8000 : Int) < (s.size : Int) := by omega
        go_wp2_with (go_at_call 6; refine (law_known _).mono ?_; rintro e w3 ⟨rfl, k3⟩)
        go_ret
        exact ⟨rfl, KB.out.trans k3⟩
      · have hbig' : (s.size : Int) ≤ (8000 : Int) := by omega
        have hlen : (allB l ++ txts (ss.take k)).length + 10 + s.size ≤ 140737488355328 := by rw [List.length_append]; omega
        obtain ⟨a3, c3, rfl, s3, n3, q3⟩ := owned_sl OB.out (by unfold maxLen; omega)
        have S3 := hidMk s3
        clear s3 q3
        generalize hll : (allB l ++ txts (ss.take k)).length = ll at *
        have HLL := hidMk hll
        clear hll
        go_wp2_with fail
        refine (wire_Text a3 ll c3 _ s _ S3.out n3 (by have := HLL.out; omega)).mono ?_
        rintro e w3 ⟨v3, rfl, o3, k3⟩
        have O3 := hidMk o3
        have K3 := hidMk k3
        clear o3 k3
        go_wp2_with fail
        refine ⟨⟨k + 1, by omega, by go_num, hidMk ?_, hidMk (KB.out.trans K3.out), hidMk (HGD.out s rfl (by omega))⟩, by simp [intOf]; omega⟩
        rw [HT.out, ← List.append_assoc]
        exact ownsRow_base O3.out KB.out.size
    · have hkn' : k = n1 := by omega
      subst hkn'
      have ht : ss.take k = ss := List.take_of_length_le (by omega)
      rw [ht] at OB
      have HL2 : Hid (∀ s ∈ ss, s.size ≤ 8000) := hidMk fun s hs => by
        obtain ⟨i, hi, rfl⟩ := List.getElem_of_mem hs
        have := HL.out i (by omega)
        rwa [List.getD_eq_getElem?_getD, List.getElem?_eq_getElem hi] at this
      have htl := txts_len ss HL2.out
      have hbl : (allB l ++ txts ss).length ≤ 410000 := by rw [List.length_append]; omega
      have HBB : Hid (∀ x ∈ (allB l ++ txts ss) ++ lm, isB x) := hidMk fun x hx => by
        rcases List.mem_append.1 hx with hx | hx
        · rcases List.mem_append.1 hx with hx | hx
          · exact allB_isB _ x hx
          · exact txts_isB _ x hx
        · exact HB.out x hx
      clear ht htl
      generalize hBL : allB l ++ txts ss = bl at *
      have HBL := hidMk hBL
      clear hBL
      go_wp2_with (at_builtin; refine wpList_app _ rfl _ _ rfl w _ _ rfl OB.out KB.out a2 n2 c2 lm rfl (H2.out.kept KB.out) HNIL.out ?c1 ?_)
      case c1 => omega
      intro v4 w4 o4 k4
      have hlen4 : (bl ++ lm).length = bl.length + n2 := by rw [List.length_append, l2]
      obtain ⟨a4, c4, rfl, s4, n4, q4⟩ := owned_sl o4 (by unfold maxLen; omega)
      have S4 := hidMk s4
      have K4 := hidMk k4
      clear o4 k4 s4 q4 n4
      generalize hll : (bl ++ lm).length = ll at *
      have HLL := hidMk hll
      have HL4 := hidMk hlen4
      clear hll hlen4
      go_wp2_with fail
      refine (wire_New a4 ll c4 _ _ S4.out HBB.out (by have := HL4.out; omega)).mono ?_
      rintro e w5 ⟨p, rfl, hp, r5, k5⟩
      have R5 := hidMk r5
      have K5 := hidMk (K4.out.trans k5)
      have hp5 : w.heap.size ≤ p := Nat.le_trans K4.out.size hp
      have R5' : Hid (Rd w5 w4.heap.size p (allB (l.drop 0) ++ (txts ss ++ lm)) 0) := hidMk (by rw [List.drop_zero, ← List.append_assoc, HBL.out]; exact R5.out)
      have hp6 : p < w5.heap.size := R5.out.lt
      clear r5 k5
      go_wp2_with fail
      go_loopw [10] (fun i wr => ∃ j : Nat, j ≤ n0 ∧ i = .int .i64 j ∧ Hid (Rd wr w4.heap.size p (allB (l.drop j) ++ (txts ss ++ lm)) 0) ∧ Hid (Kept w wr)) (fun i _ => n0 - (intOf i).toNat)
      case atStart => exact ⟨0, Nat.zero_le _, rfl, R5', K5⟩
      case round =>
        obtain ⟨j, hj, rfl, RJ, KJ⟩ := hrel
        by_cases hjn : j < n0
        · obtain ⟨b, o, rfl, hbb, hcs⟩ := H0.out.cells (by omega)
          have hcell := (KJ.out.cell (p := ⟨b, o + j, none⟩) hbb).trans (hcs j hjn)
          have HXJ := hidMk (HX.out _ (getD_in (l := l) (k := j) (by omega)))
          have HD := allB_drop (l := l) (k := j) (by omega)
          have RJ2 := RJ
          rw [HD, List.append_assoc] at RJ2
          have HC0 := hidMk (hcs j hjn)
          clear hcs HD
          generalize l.getD j 0 = x at *
          have HC : Hid (∀ W, Kept wr W → Calls Try.prog 10 #[.pointer (some ⟨p, 0, none⟩)] W fun e w' => e = .returned (.int .i64 x) ∧ Rd w' w4.heap.size p (allB (l.drop (j + 1)) ++ (txts ss ++ lm)) 0 ∧ But p W w') := hidMk fun W hW => by
            have C := num_at (RJ2.out.kept hW)
            rw [(num_step x HXJ.out _).1, (num_step x HXJ.out _).2.1, (num_step x HXJ.out _).2.2] at C
            exact C
          have hbw : b < wr.heap.size := Nat.lt_of_lt_of_le hbb KJ.out.size
          have hbp : b ≠ p := by omega
          clear RJ RJ2
          go_wp2_with fail
          go_region_held (fun w' => w'.cell? ⟨b, o + j, none⟩ = some (.int .i64 x)) (go_keep) ((go_at_call 10; refine (HC.out _ (Kept.drew (Kept.refl _))).mono ?_; rintro e w7 ⟨rfl, r7, b7⟩; have m1 := (b7.cell (p := ⟨b, o + j, none⟩) hbw hbp).trans hcell))
          go_wp2_with fail
          exact ⟨⟨j + 1, by omega, by go_num, hidMk r7, hidMk (But.kept (KJ.out.drew) hp5 b7)⟩, by simp [intOf]; omega⟩
        · have hjn' : j = n0 := by omega
          subst hjn'
          have hd : l.drop j = [] := List.drop_of_length_le (by omega)
          rw [hd] at RJ
          have RJ' : Hid (Rd wr w4.heap.size p (txts (ss.drop 0) ++ lm) 0) := RJ
          clear RJ hd
          go_wp2_with fail
          go_loopw [11] (fun i wr => ∃ j : Nat, j ≤ k ∧ i = .int .i64 j ∧ Hid (Rd wr w4.heap.size p (txts (ss.drop j) ++ lm) 0) ∧ Hid (Kept w wr)) (fun i _ => k - (intOf i).toNat)
          case atStart => exact ⟨0, Nat.zero_le _, rfl, RJ', KJ⟩
          case round =>
            obtain ⟨q, hq, rfl, RQ, KQ⟩ := hrel
            by_cases hqn : q < k
            · obtain ⟨b, o, rfl, hbb, hcs⟩ := H1.out.cells (by omega)
              have hcell := (KQ.out.cell (p := ⟨b, o + q, none⟩) hbb).trans (hcs q hqn)
              have HSZ := hidMk (HL2.out _ (getD_ins (l := ss) (k := q) (by omega)))
              have HD := txts_drop (l := ss) (k := q) (by omega)
              rw [HD, List.append_assoc] at RQ
              clear hcs HD
              generalize ss.getD q ByteArray.empty = x at *
              have HC : Hid (∀ W, Kept wr W → Calls Try.prog 11 #[.pointer (some ⟨p, 0, none⟩)] W fun e w' => e = .returned (.string x) ∧ Rd w' w4.heap.size p (txts (ss.drop (q + 1)) ++ lm) 0 ∧ But p W w') := hidMk fun W hW => by
                have C := text_at (RQ.out.kept hW)
                rw [(text_step x HSZ.out _).1, (text_step x HSZ.out _).2.1, (text_step x HSZ.out _).2.2, str_byt] at C
                exact C
              have hbw : b < wr.heap.size := Nat.lt_of_lt_of_le hbb KQ.out.size
              have hbp : b ≠ p := by omega
              clear RQ
              go_wp2_with fail
              go_region_held (fun w' => w'.cell? ⟨b, o + q, none⟩ = some (.string x)) (go_keep) ((go_at_call 11; refine (HC.out _ (Kept.drew (Kept.refl _))).mono ?_; rintro e w7 ⟨rfl, r7, b7⟩; have m1 := (b7.cell (p := ⟨b, o + q, none⟩) hbw hbp).trans hcell))
              go_wp2_with fail
              exact ⟨⟨q + 1, by omega, by go_num, hidMk r7, hidMk (But.kept (KQ.out.drew) hp5 b7)⟩, by simp [intOf]; omega⟩
            · have hqn' : q = k := by omega
              subst hqn'
              have hd : ss.drop q = [] := List.drop_of_length_le (by omega)
              rw [hd] at RQ
              have RQ' : Hid (Rd wr w4.heap.size p lm 0) := RQ
              clear RQ hd
              go_wp2_with (first | (go_at_call 12; refine (why_at RQ'.out).mono ?_; rintro e w6 ⟨rfl, rfl⟩) | (go_at_call 13; refine (left_at RQ'.out).mono ?_; rintro e w6 ⟨rfl, rfl⟩) | (go_at_call 6; refine (law_known _).mono ?_; rintro e w8 ⟨rfl, k8⟩))
              go_ret
              exact ⟨rfl, KQ.out.trans k8⟩
end Go.Proofs.Ytolihnipoggokab
