/- Both files, the program's and the definition's, in one memory. -/
import Derived.Test.YtcmhfmbpbbdemaaRefBk2
namespace Go.Proofs.Ytcmhfmbpbbdemaa
open Go.RowKit Go.Maps
set_option linter.unusedSimpArgs false
set_option linter.unusedVariables false

section
variable {w W : World} {B r : Nat} {v : Value} {n : Nat} {gs cs : Nat → Nat} {R : Nat → List Int} {dk : Bool} {u y m : Int}
set_option maxHeartbeats 2000000 in
theorem r23_Write_bad (h : Rf w B r v n gs cs R dk u y m) (hn : 0 < n) (hn2 : n ≤ 4096) (x : Int) (a : Option Addr) (lm lc : Nat) (hlm : lm ≤ 9223372036854775807) (hb : badR dk n x ≠ 0 ∨ 32 < lm) : Calls Try.prog 14 #[.pointer (some ⟨r, 0, none⟩), .int .i64 x, .slice a lm lc] w fun e w' => e = .returned (.int .i64 (if badR dk n x ≠ 0 then badR dk n x else 5)) ∧ w' = w := by
  obtain ⟨g, cap, hv, hg1, hg2, hcs⟩ := h.rb.cell hn
  have c0 := h.c0
  have c1 := h.c1
  rw [hv] at c0
  clear h hv hcs
  cases dk with
  | true =>
    rw [show badR true n x = 21 from rfl, if_pos (by decide)]
    clear hb
    go_enter Try.func14, Try.ntmps14
    go_wp2_with fail
    go_ret
    exact ⟨rfl, rfl⟩
  | false =>
    by_cases hx : x < 0 ∨ (n : Int) ≤ x
    · rw [show badR false n x = 17 by unfold badR; rw [if_neg (by simp), if_pos hx], if_pos (by decide)]
      clear hb
      rcases (by omega : x < 0 ∨ (0 ≤ x ∧ (n : Int) ≤ x)) with h1 | ⟨h1, h2⟩
      all_goals
        clear hx
        go_enter Try.func14, Try.ntmps14
        go_wp2_with fail
        go_ret
        exact ⟨rfl, rfl⟩
    · have hb0 : badR false n x = 0 := by unfold badR; rw [if_neg (by simp), if_neg hx]
      rw [hb0, if_neg (by decide)]
      have hl : (32 : Int) < (lm : Int) := by rcases hb with hb | hb; exact absurd hb0 hb; omega
      have h1 : 0 ≤ x := by omega
      have h2 : x < (n : Int) := by omega
      clear hb hx hb0
      go_enter Try.func14, Try.ntmps14
      go_wp2_with fail
      go_ret
      exact ⟨rfl, rfl⟩
end
/-- When the definition's power goes, as the file says. -/
structure Rel (t : Bf) (u y : Int) : Prop where
  eq : t.off = false → (u = if t.wt then t.be else -1) ∧ (t.wt = true → y = t.by_)
  u0 : -1 ≤ u
  u1 : u ≤ 9223372036854775807
  y0 : 0 ≤ y
  y1 : y ≤ 32
/-- Both. -/
structure Bo (w0 w : World) (f d N : Nat) (s : Bf) (B r : Nat) (v : Value) (gs cs : Nat → Nat) (t : Bf) (u y : Int) : Prop where
  fl : Fl w f d N s
  rf : Rf w B r v N gs cs (fun k => blk t.F k) t.off u y t.wr
  ok : Ok s
  okt : Ok t
  rel : Rel t u y
  tl : t.F.length = N * 32
  tb : ∀ x ∈ t.F, isB x
  af : ¬ RS r v N gs f
  ad : ¬ RS r v N gs d
  kp : Kept w0 w
  hB : w0.heap.size ≤ B
  hf : w0.heap.size ≤ f
  hd : w0.heap.size ≤ d
  n0 : 0 < N
  n1 : N ≤ 100
section
variable {w0 w W : World} {f d N : Nat} {s : Bf} {B r : Nat} {v : Value} {gs cs : Nat → Nat} {t : Bf} {u y : Int}
theorem Bo.rge (h : Bo w0 w f d N s B r v gs cs t u y) : ∀ j, RS r v N gs j → B ≤ j ∧ j < w.heap.size := fun j e => by
  rcases e with e | e | ⟨k, hk, e⟩
  · subst e; exact ⟨h.rf.br, h.rf.lt⟩
  · exact h.rf.rb.olt j e
  · subst e; exact ⟨(h.rf.rb.row k hk).2.2, (h.rf.rb.row k hk).1.lt⟩
theorem Bo.kept (h : Bo w0 w f d N s B r v gs cs t u y) (k : Kept w W) : Bo w0 W f d N s B r v gs cs t u y :=
  ⟨h.fl.kept k, h.rf.kept k, h.ok, h.okt, h.rel, h.tl, h.tb, h.af, h.ad, h.kp.trans k, h.hB, h.hf, h.hd, h.n0, h.n1⟩
theorem Bo.prog (h : Bo w0 w f d N s B r v gs cs t u y) {s' : Bf} (F' : Fl W f d N s') (o : Ok s') (c : Chg (Of f d) w W) : Bo w0 W f d N s' B r v gs cs t u y :=
  ⟨F', h.rf.chg c (fun j e e2 => by rcases e2 with e2 | e2 <;> subst e2; exact h.af e; exact h.ad e), o, h.okt, h.rel, h.tl, h.tb, h.af, h.ad, Fl.down h.kp c h.hf h.hd, h.hB, h.hf, h.hd, h.n0, h.n1⟩
theorem Bo.ref (h : Bo w0 w f d N s B r v gs cs t u y) {t' : Bf} {u' y' : Int} (F' : Rf W B r v N gs cs (fun k => blk t'.F k) t'.off u' y' t'.wr) (o : Ok t') (rl : Rel t' u' y') (l : t'.F.length = N * 32) (b : ∀ x ∈ t'.F, isB x) (c : Chg (RS r v N gs) w W) : Bo w0 W f d N s B r v gs cs t' u' y' :=
  ⟨h.fl.chg c h.af h.ad, F', h.ok, o, rl, l, b, h.af, h.ad, Chg.kept h.kp c (fun j e => by have := (h.rge j e).1; have := h.hB; omega), h.hB, h.hf, h.hd, h.n0, h.n1⟩
theorem bo_WrP (h : Bo w0 w f d N s B r v gs cs t u y) (hwr : s.wr < 1000000) (n : Int) (a : Option Addr) (m c : Nat) (l : List Int) (hs : Sl .u8 w a m l) (hlb : ∀ x ∈ l, isB x) :
    Calls Try.prog 13 #[.pointer (some ⟨f, 0, none⟩), .int .i64 n, .slice a m c] w fun e w' => e = .returned (.int .i64 (wrE s N n m)) ∧ Bo w0 w' f d N (wrS s N n l) B r v gs cs t u y ∧ Chg (Of f d) w w' :=
  (bk_Write h.fl h.ok hwr n a m c l hs hlb).mono fun e w' q => ⟨q.1, h.prog q.2.1 (wrS_ok h.ok).1 q.2.2, q.2.2⟩
theorem bad_R (t : Bf) (N : Nat) (n : Int) : badR t.off N n = bad t N n := rfl
theorem wrS_len {t : Bf} {n : Int} {l : List Int} (hF : t.F.length = N * 32) : (wrS t N n l).F.length = N * 32 := by
  unfold wrS
  split
  · exact hF
  · rename_i hb
    obtain ⟨_, h0, h1⟩ := bad_zero (by simpa using hb)
    split
    · exact hF
    · rename_i hl
      have hwl := whole_len (l := l) (by omega)
      split
      · show (putL t.F (n.toNat * 32) ((whole l).take t.by_.toNat)).length = _
        rw [putL_len (by rw [List.length_take]; omega)]; exact hF
      · show (putL t.F (n.toNat * 32) (whole l)).length = _
        rw [putL_len (by omega)]; exact hF
theorem putL_isB {F x : List Int} {o : Nat} (hF : ∀ y ∈ F, isB y) (hx : ∀ y ∈ x, isB y) : ∀ z ∈ putL F o x, isB z := by
  intro z hz
  rcases List.mem_append.1 hz with hz | hz
  · rcases List.mem_append.1 hz with hz | hz
    · exact hF z (List.mem_of_mem_take hz)
    · exact hx z hz
  · exact hF z (List.mem_of_mem_drop hz)
theorem wrS_isB {t : Bf} {n : Int} {l : List Int} (hF : ∀ y ∈ t.F, isB y) (hl : ∀ y ∈ l, isB y) : ∀ z ∈ (wrS t N n l).F, isB z := by
  unfold wrS
  split
  · exact hF
  · split
    · exact hF
    · split
      · exact putL_isB hF (fun z hz => whole_isB hl z (List.mem_of_mem_take hz))
      · exact putL_isB hF (whole_isB hl)
theorem bo_WrR (h : Bo w0 w f d N s B r v gs cs t u y) (hwr : t.wr < 1000000) (n : Int) (a : Option Addr) (m c : Nat) (l : List Int) (hs : Sl .u8 w a m l) (hlb : ∀ x ∈ l, isB x) (hab : ∀ ad, a = some ad → 0 < m → ad.block < w0.heap.size) :
    Calls Try.prog 14 #[.pointer (some ⟨r, 0, none⟩), .int .i64 n, .slice a m c] w fun e w' => e = .returned (.int .i64 (wrE t N n m)) ∧ ∃ u' y', Bo w0 w' f d N s B r v gs cs (wrS t N n l) u' y' ∧ Chg (RS r v N gs) w w' := by
  have hml := hs.len
  have hmb : m ≤ 9223372036854775807 := hs.big
  by_cases hb : badR t.off N n ≠ 0 ∨ 32 < m
  · refine (r23_Write_bad h.rf h.n0 (by have := h.n1; omega) n a m c hmb hb).mono fun e w' q => ?_
    obtain ⟨rfl, rfl⟩ := q
    rw [bad_R] at hb ⊢
    have e1 : wrE t N n m = if bad t N n ≠ 0 then bad t N n else 5 := by
      unfold wrE
      by_cases q : bad t N n ≠ 0
      · rw [if_pos q, if_pos q]
      · rw [if_neg q, if_neg q, if_pos (by rcases hb with hb | hb; exact absurd hb q; exact hb)]
    have e2 : wrS t N n l = t := by
      unfold wrS
      by_cases q : bad t N n ≠ 0
      · rw [if_pos q]
      · rw [if_neg q, if_pos (by rcases hb with hb | hb; exact absurd hb q; omega)]
    rw [e1, e2]
    exact ⟨rfl, u, y, h, Chg.refl _ _⟩
  · have hb0 : bad t N n = 0 := by rw [← bad_R]; by_cases q : badR t.off N n = 0; exact q; exact absurd (.inl q) hb
    obtain ⟨hoff, h0, h1⟩ := bad_zero hb0
    obtain ⟨k, rfl⟩ : ∃ k : Nat, n = k := ⟨n.toNat, by omega⟩
    have hm32 : m ≤ 32 := by omega
    have hrf := h.rf
    rw [hoff] at hrf
    refine (r23_Write hrf (by have := h.n1; omega) k (by omega) h.rel.u0 h.rel.u1 h.rel.y0 h.rel.y1 h.okt.w0 hwr a m c l hs hm32 (fun ad e hp => by have := hab ad e hp; have := h.hB; omega)).mono fun e w' q => ?_
    obtain ⟨rfl, hR, hC⟩ := q
    obtain ⟨ru, ry⟩ := h.rel.eq hoff
    have hcm : cmB t = decide (u = 0) := by
      unfold cmB
      rw [ru]
      cases t.wt <;> simp
    have hwl := whole_len (l := l) (by omega)
    have eE : wrE t N k m = if u = 0 then 21 else 0 := by
      unfold wrE
      rw [if_neg (by simp [hb0]), if_neg (by omega), hcm]
      by_cases q : u = 0 <;> simp [q]
    have eS : wrS t N k l = if u = 0 then { t with F := putL t.F (k * 32) ((whole l).take t.by_.toNat), off := true, wr := t.wr + 1 } else { cmS t with F := putL t.F (k * 32) (whole l), wr := t.wr + 1 } := by
      unfold wrS
      rw [if_neg (by simp [hb0]), if_neg (by omega), hcm, Int.toNat_natCast]
      by_cases q : u = 0 <;> simp [q]
    have hlen := wrS_len (N := N) (n := (k : Int)) (l := l) h.tl
    have hisb := wrS_isB (N := N) (n := (k : Int)) (l := l) h.tb hlb
    have hok := (wrS_ok (N := N) (n := (k : Int)) (l := l) h.okt).1
    rw [eE]
    refine ⟨rfl, (if 0 ≤ u then u - 1 else u), y, ?_, hC⟩
    refine h.ref ?_ hok ?_ hlen hisb hC
    · by_cases q : u = 0
      · subst q
        simp only [if_true] at hR eS
        have hw : t.wt = true := by
          cases hw : t.wt with
          | true => rfl
          | false => rw [hw] at ru; simp at ru
        have hyb : y = t.by_ := ry hw
        rw [eS]
        refine (hR.imp (fun j hj => ?_))
        show upd (fun k => blk t.F k) k ((whole l).take y.toNat ++ (blk t.F k).drop y.toNat) j = blk (putL t.F (k * 32) ((whole l).take t.by_.toNat)) j
        have hl2 : ((whole l).take t.by_.toNat).length = t.by_.toNat := by rw [List.length_take, hwl]; have := h.rel.y1; omega
        rw [blk_putL h.tl (by omega) hj (by rw [hl2]; have := h.rel.y1; omega), hl2]
        unfold upd
        rw [hyb]
      · simp only [if_neg q] at hR eS
        rw [show decide (u = 0) = false from decide_eq_false q] at hR
        rw [eS]
        have hcs : (cmS t).off = false := hoff
        have hR' := hR.imp (R' := fun j => blk (putL t.F (k * 32) (whole l)) j) (fun j hj => by
          rw [blk_putL h.tl (by omega) hj (by omega), hwl]
          unfold upd
          split
          · rw [List.take_of_length_le (by omega)]
          · rfl)
        show Rf w' B r v N gs cs (fun j => blk (putL t.F (k * 32) (whole l)) j) (cmS t).off _ y (t.wr + 1)
        rw [hcs]
        exact hR'
    · refine ⟨fun ho => ?_, ?_, ?_, h.rel.y0, h.rel.y1⟩
      · rw [eS] at ho ⊢
        by_cases q : u = 0
        · rw [if_pos q] at ho; cases ho
        · rw [if_neg q] at ho ⊢
          show ((if 0 ≤ u then u - 1 else u) = if t.wt then (cmS t).be else -1) ∧ (t.wt = true → y = t.by_)
          refine ⟨?_, ry⟩
          unfold cmS
          cases hw : t.wt with
          | true =>
            rw [hw] at ru
            have hbe := h.okt.b0
            simp only [if_true] at ru
            have q2 : t.be ≠ 0 := by omega
            simp [q2, ru]
            intro; omega
          | false =>
            rw [hw] at ru
            simp at ru
            simp [ru]
      · have := h.rel.u0; split <;> omega
      · have := h.rel.u1; split <;> omega
theorem bo_UpP (h : Bo w0 w f d N s B r v gs cs t u y) : Calls Try.prog 20 #[.pointer (some ⟨f, 0, none⟩)] w fun e w' => e = .returned (.int .i64 0) ∧ Bo w0 w' f d N (upS s) B r v gs cs t u y :=
  (bk_Up h.fl).mono fun e w' q => ⟨q.1, h.prog q.2.1 (upS_ok h.ok) (q.2.2.mono fun j _ e => .inl e)⟩
theorem bo_UpR (h : Bo w0 w f d N s B r v gs cs t u y) : Calls Try.prog 19 #[.pointer (some ⟨r, 0, none⟩)] w fun e w' => e = .returned (.tuple #[]) ∧ ∃ u' y', Bo w0 w' f d N s B r v gs cs (upS t) u' y' :=
  (r23_Up h.rf).mono fun e w' q => ⟨q.1, -1, y, h.ref q.2.1 (upS_ok h.okt) ⟨fun _ => ⟨rfl, fun e => by cases e⟩, by omega, by omega, h.rel.y0, h.rel.y1⟩ h.tl h.tb (q.2.2.mono fun j _ e => .inl e)⟩
theorem bo_StP (h : Bo w0 w f d N s B r v gs cs t u y) (x z : Int) (hx : isI x) : Calls Try.prog 17 #[.pointer (some ⟨f, 0, none⟩), .int .i64 x, .int .i64 z] w fun e w' => e = .returned (.int .i64 (stE s x z)) ∧ Bo w0 w' f d N (stS s x z) B r v gs cs t u y ∧ Chg (Of f d) w w' :=
  (bk_Stop h.fl x z).mono fun e w' q => ⟨q.1, h.prog q.2.1 (stS_ok h.ok hx).1 (q.2.2.mono fun j _ e => .inl e), q.2.2.mono fun j _ e => .inl e⟩
theorem bo_StR (h : Bo w0 w f d N s B r v gs cs t u y) (x z : Int) (hx : isI x) : Calls Try.prog 18 #[.pointer (some ⟨r, 0, none⟩), .int .i64 x, .int .i64 z] w fun e w' => e = .returned (.int .i64 (stE t x z)) ∧ ∃ u' y', Bo w0 w' f d N s B r v gs cs (stS t x z) u' y' ∧ Chg (RS r v N gs) w w' := by
  refine (r23_Stop h.rf x z).mono fun e w' q => ?_
  obtain ⟨rfl, hR, hC⟩ := q
  have he : stER t.off x z = stE t x z := rfl
  rw [he] at hR ⊢
  have hok := stS_ok (x := x) (y := z) h.okt hx
  refine ⟨rfl, (if stE t x z = 0 then x else u), (if stE t x z = 0 then z else y), h.ref (t' := stS t x z) ?_ hok.1 ?_ (by rw [hok.2.2]; exact h.tl) (by rw [hok.2.2]; exact h.tb) (hC.mono fun j _ e => .inl e), hC.mono fun j _ e => .inl e⟩
  · rw [hok.2.1]
    have e2 : (stS t x z).off = t.off := by unfold stS; split <;> rfl
    rw [e2]
    exact hR.imp (fun j hj => by rw [hok.2.2])
  · unfold isI at hx
    by_cases q : stE t x z = 0
    · rw [if_pos q, if_pos q]
      have hS : stS t x z = ⟨t.F, t.off, true, x, z, t.wr⟩ := by unfold stS; rw [if_pos q]
      have hq : ¬ (x < 0 ∨ z < 0 ∨ 32 < z) := fun e => by unfold stE at q; rw [if_pos e] at q; omega
      rw [hS]
      exact ⟨fun _ => ⟨rfl, fun _ => rfl⟩, by omega, by omega, by omega, by omega⟩
    · rw [if_neg q, if_neg q]
      have hS : stS t x z = t := by unfold stS; rw [if_neg q]
      rw [hS]
      exact h.rel
theorem news_blk (N k : Nat) (hk : k < N) : List.replicate 32 (0 : Int) = blk (news N).F k := by
  have hl := blk_len (F := (news N).F) (N := N) (i := k) (by simp [news]) hk
  refine ext_getD (by rw [List.length_replicate]; omega) fun j hj => ?_
  rw [List.length_replicate] at hj
  rw [blk_getD hj]
  unfold news
  rw [List.getD_eq_getElem?_getD, List.getD_eq_getElem?_getD, List.getElem?_replicate, List.getElem?_replicate]
  split <;> split <;> rfl
/-- Both new. -/
theorem bo_new {w1 : World} (hF : Fl w1 f d N (news N)) (k1 : Kept w0 w1) (hf : w0.heap.size ≤ f) (hd : w0.heap.size ≤ d) (n0 : 0 < N) (n1 : N ≤ 100) : Calls Try.prog 12 #[.int .i64 N] w1 fun e w' => ∃ B r v gs cs, e = .returned (.tuple #[.pointer (some ⟨r, 0, none⟩), .int .i64 0]) ∧ Bo w0 w' f d N (news N) B r v gs cs (news N) (-1) 0 := by
  refine (r23_New N n0 n1 w1).mono fun e w' q => ?_
  obtain ⟨v, gs, cs, rfl, hR, k2⟩ := q
  have h3 := hF.lt
  have h4 := hF.dt.lt
  have hge : ∀ j, RS w1.heap.size v N gs j → w1.heap.size ≤ j := fun j e => by
    rcases e with e | e | ⟨k, hk, e⟩
    · omega
    · exact (hR.rb.olt j e).1
    · subst e; exact (hR.rb.row k hk).2.2
  refine ⟨w1.heap.size, w1.heap.size, v, gs, cs, rfl, hF.kept k2, ?_, new_ok N, new_ok N, ⟨fun _ => ⟨rfl, fun e => by cases e⟩, by omega, by omega, by omega, by omega⟩, hF.len, hF.isb, fun e => by have := hge _ e; omega, fun e => by have := hge _ e; omega, k1.trans k2, k1.size, hf, hd, n0, n1⟩
  exact hR.imp (fun k hk => news_blk N k hk)
end
end Go.Proofs.Ytcmhfmbpbbdemaa
