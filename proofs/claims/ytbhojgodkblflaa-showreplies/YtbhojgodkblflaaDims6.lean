/- dims.New. -/
import Derived.Test.YtbhojgodkblflaaDims4
import Derived.Test.YtbhojgodkblflaaDims5
namespace Go.Proofs.Ytbhojgodkblflaa
open Go.RowKit Go.Maps
set_option linter.unusedSimpArgs false
set_option linter.unusedVariables false

/-- Dimensions that came in. -/
structure Dss (w : World) (a : Option Addr) (n : Nat) (ds : List Dm) (na : Nat → Option Addr × Nat × Nat) : Prop where
  len : ds.length = n
  big : n ≤ maxLen
  nmb : ∀ k, k < n → (dmN ds k).size ≤ maxLen
  nds : ∀ k, k < n → Ns w (na k).1 (na k).2.1 (dmL ds k)
  cells : 0 < n → ∃ b o, a = some ⟨b, o, none⟩ ∧ b < w.heap.size ∧ ∀ k, k < n → w.cell? ⟨b, o + k * 2, none⟩ = some (.string (dmN ds k)) ∧ w.cell? ⟨b, o + k * 2 + 1, none⟩ = some (slv (na k))
theorem Dss.kept {w w' : World} {a : Option Addr} {n : Nat} {ds : List Dm} {na : Nat → Option Addr × Nat × Nat} (h : Dss w a n ds na) (g : Kept w w') : Dss w' a n ds na :=
  ⟨h.len, h.big, h.nmb, fun k hk => (h.nds k hk).kept g, fun hp => by
    obtain ⟨b, o, h1, h2, h3⟩ := h.cells hp
    exact ⟨b, o, h1, Nat.lt_of_lt_of_le h2 g.size, fun k hk => ⟨g.cellp (h3 k hk).1, g.cellp (h3 k hk).2⟩⟩⟩
def AddOk (ds : List Dm) (k : Nat) (er : Int) : Prop := AddIs (ds.take k) (dmN ds k) (dmL ds k) er
/-- What dims.New answers: where, and why. -/
def CatIs (ds : List Dm) (ms : List ByteArray) (lv sc at_ er : Int) : Prop :=
  (¬ (1 ≤ ds.length ∧ ds.length ≤ 4 ∧ 1 ≤ ms.length ∧ ms.length ≤ 4) ∧ at_ = -1 ∧ er = 5) ∨
  (1 ≤ ds.length ∧ ds.length ≤ 4 ∧ 1 ≤ ms.length ∧ ms.length ≤ 4) ∧ ((∃ k, k < ds.length ∧ AddOk ds k er ∧ er ≠ 0 ∧ (∀ j, j < k → AddOk ds j 0) ∧ at_ = (k : Nat)) ∨ ((∀ j, j < ds.length → AddOk ds j 0) ∧ CheckIs ms ds lv sc er ∧ at_ = if er = 0 then 0 else -1))
def DNewPost (w : World) (ds : List Dm) (ms : List ByteArray) (lv sc : Int) (e : Ending) (w' : World) : Prop :=
  (∃ w0 p tp ma mc dv, e = .returned (.tuple #[.pointer (some ⟨p, 0, none⟩), .int .i64 0, .int .i64 0]) ∧ CatIs ds ms lv sc 0 0 ∧ DP w0 w' p ds tp ma mc ms lv sc dv ∧ Kept w w') ∨
  ∃ at_ er, e = .returned (.tuple #[.pointer none, .int .i64 at_, .int .i64 er]) ∧ er ≠ 0 ∧ CatIs ds ms lv sc at_ er ∧ Kept w w'
theorem take_dm {ds : List Dm} {k : Nat} (h : k < ds.length) : ds.take (k + 1) = ds.take k ++ [(dmN ds k, dmL ds k)] := by
  have e : (dmN ds k, dmL ds k) = ds[k] := by simp [dmN, dmL, List.getD, List.getElem?_eq_getElem h]
  rw [e]
  exact List.take_succ_eq_append_getElem h
theorem fromB_nat (n : Nat) : fromB n 4 = decide (1 ≤ n ∧ n ≤ 4) := by
  unfold fromB
  by_cases h : 1 ≤ n ∧ n ≤ 4
  · rw [decide_eq_true h, decide_eq_true (by omega)]
  · rw [decide_eq_false h, decide_eq_false (by omega)]
set_option maxHeartbeats 4000000 in
set_option maxRecDepth 100000 in
theorem dims_New (a : Option Addr) (n c : Nat) (ds : List Dm) (na : Nat → Option Addr × Nat × Nat) (b : Option Addr) (m d : Nat) (ms : List ByteArray) (lv sc : Int) (w : World) (hs : Dss w a n ds na) (hm : Ss w b m ms) (hmz : ∀ i, i < ms.length → (msA ms i).size ≤ maxLen) :
    Calls Try.prog 18 #[.agg #[.slice a n c, .slice b m d, .int .i64 lv, .int .i64 sc]] w (DNewPost w ds ms lv sc) := by
  have hln := hs.len
  have hlm := hm.len
  have HS := hidMk hs
  have HM := hidMk hm
  have HMZ := hidMk hmz
  have HF := hidMk dims_from1
  have f1 := fromB_nat n
  have f2 := fromB_nat m
  clear hs hm hmz
  by_cases h1 : 1 ≤ n ∧ n ≤ 4
  · rw [decide_eq_true h1] at f1
    by_cases h2 : 1 ≤ m ∧ m ≤ 4
    · rw [decide_eq_true h2] at f2
      have F1 := hidMk (show ∀ y, Calls Try.prog 32 #[.int .i64 n, .int .i64 4] y fun e w' => e = .returned (.bool true) ∧ w' = y from fun y => by have := HF.out n 4 y; rw [f1] at this; exact this)
      have F2 := hidMk (show ∀ y, Calls Try.prog 32 #[.int .i64 m, .int .i64 4] y fun e w' => e = .returned (.bool true) ∧ w' = y from fun y => by have := HF.out m 4 y; rw [f2] at this; exact this)
      go_enter Try.func18, Try.ntmps18
      go_wp2_with fail
      refine (F1.out _).mono ?_
      rintro e w1 ⟨rfl, rfl⟩
      go_wp2_with fail
      refine (F2.out _).mono ?_
      rintro e w2 ⟨rfl, rfl⟩
      have HCL := hidMk (slices_CloneS b m d ms _ (HM.out.kept (((Kept.refl w).alloc (.cells #[.slice a n c, .slice b m d, .int .i64 lv, .int .i64 sc] 25)).drew)) (by omega))
      have y0 : (w.alloc (.cells #[.slice a n c, .slice b m d, .int .i64 lv, .int .i64 sc] 25)).drew.cell? ⟨w.heap.size, 0, none⟩ = some (.slice a n c) := by simp
      have y1 : (w.alloc (.cells #[.slice a n c, .slice b m d, .int .i64 lv, .int .i64 sc] 25)).drew.cell? ⟨w.heap.size, 1, none⟩ = some (.slice b m d) := by simp
      have y2 : (w.alloc (.cells #[.slice a n c, .slice b m d, .int .i64 lv, .int .i64 sc] 25)).drew.cell? ⟨w.heap.size, 2, none⟩ = some (.int .i64 lv) := by simp
      have y3 : (w.alloc (.cells #[.slice a n c, .slice b m d, .int .i64 lv, .int .i64 sc] 25)).drew.cell? ⟨w.heap.size, 3, none⟩ = some (.int .i64 sc) := by simp
      have Y := hidMk (And.intro y0 (And.intro y1 (And.intro y2 y3)))
      have HK0 := hidMk (((Kept.refl w).alloc (.cells #[.slice a n c, .slice b m d, .int .i64 lv, .int .i64 sc] 25)).drew)
      clear y0 y1 y2 y3
      go_wp2_with fail
      go_region_held3 (fun w' => w'.cell? ⟨w.heap.size, 1, none⟩ = some (.slice b m d) ∧ w'.cell? ⟨w.heap.size, 2, none⟩ = some (.int .i64 lv) ∧ w'.cell? ⟨w.heap.size, 3, none⟩ = some (.int .i64 sc)) (first | go_keep | (refine ⟨?_, ?_, ?_⟩ <;> assumption))
        ((go_at_call 33; refine HCL.out.mono ?_; rintro e w3 ⟨mb, mc, rfl, s3, b3, k3⟩; have x0 := k3.cellp Y.out.1; have x1 := k3.cellp Y.out.2.1; have x2 := k3.cellp Y.out.2.2.1; have x3 := k3.cellp Y.out.2.2.2; have S3 := hidMk s3; have B3 := hidMk b3; have K3 := hidMk (HK0.out.trans k3); have z0 := fun o => ((Kept.refl w3).alloc o).cellp x0; have z1 := fun o => ((Kept.refl w3).alloc o).cellp x1; have z2 := fun o => ((Kept.refl w3).alloc o).cellp x2; have z3 := fun o => ((Kept.refl w3).alloc o).cellp x3; clear s3 b3 k3))
      refine gen_world (f := fun W => Exit.then _ _ _ _ W) (fun W => DP W W w3.heap.size [] (fun _ => 0) mb mc ms lv sc (.slice none 0 0) ∧ Kept w W ∧ W.cell? ⟨w.heap.size, 0, none⟩ = some (.slice a n c)) ⟨⟨Chg.refl _ _, by simp, by rw [hlm]; simp, by simp, by simp, fun j => by simp, World.ownsRow_nil _ _ _ _, fun k hk => absurd hk (by simp), by rw [hlm]; exact S3.out.kept ((Kept.refl w3).alloc _), fun hp ad had => by
        have hp' : 0 < m := by omega
        obtain ⟨bb, oo, e1, e2, _⟩ := S3.out.cells hp'
        rw [had] at e1
        cases e1
        simp
        omega, by simp⟩, K3.out.alloc _, z0 _⟩ ?_
      rintro w0 ⟨hD0, hK0, hx0⟩
      have HD0 := hidMk hD0
      have HKW := hidMk hK0
      have hpw : w.heap.size ≤ w3.heap.size := K3.out.size
      generalize w3.heap.size = p at *
      clear hD0 hK0 x0 x1 x2 x3 z0 z1 z2 z3 Y HK0 K3 S3 B3 HCL F1 F2 HM f1 f2 HF
      go_wp2_with fail
      go_loopg [34] n (fun g x wr => ∃ (k : Nat) (tp : Nat → Nat) (dv : Value), k + g = n ∧ x = .int .i64 k ∧ DP w0 wr p (ds.take k) tp mb mc ms lv sc dv ∧ Hid (∀ j, j < k → AddOk ds j 0))
      case atStart => exact ⟨0, _, _, by omega, rfl, HD0.out, hidMk fun j hj => absurd hj (by omega)⟩
      case round =>
        obtain ⟨k, tp, dv, hkg, rfl, hD, HJ⟩ := hrel
        have HKG := hidMk hkg
        have HD := hidMk hD
        have HKR := hidMk (show Kept w wr from hD.chg.kept HKW.out (fun j e => by omega))
        by_cases hkn : k < n
        · obtain ⟨bb, oo, rfl, _, hcs⟩ := (HS.out.kept HKR.out).cells (by omega)
          obtain ⟨c1, c2⟩ := hcs k hkn
          have hnd := (HS.out.kept HKR.out).nds k hkn
          have hnm := HS.out.nmb k hkn
          have htk := take_dm (ds := ds) (k := k) (by omega)
          have hAO : ∀ er, AddOk ds k er ↔ AddIs (ds.take k) (dmN ds k) (dmL ds k) er := fun er => Iff.rfl
          have HAO := hidMk hAO
          have HTK := hidMk htk
          have hlk : (ds.take k).length ≤ 50 := by rw [List.length_take]; omega
          clear hcs hkg hD htk hAO
          generalize hna : na k = nk at *
          obtain ⟨n1, n2, n3⟩ := nk
          simp only [slv] at c2 hnd
          have HADD := hidMk (show ∀ y, Kept wr y → _ from fun y hy => dims_add (HD.out.kept hy) hlk (dmN ds k) hnm n1 n2 n3 (dmL ds k) (hnd.kept hy))
          clear hnd hnm hna
          generalize dmN ds k = nm at *
          generalize dmL ds k = nd at *
          have kn' : (k : Int) < n := by omega
          go_wp2_with fail
          refine (HADD.out _ ((Kept.refl _).alloc _)).mono ?_
          rintro e w5 ⟨er, rfl, hai, ⟨rfl, tp', dv', h5⟩ | ⟨her, k5⟩⟩
          · have H5 := hidMk h5
            have HAI := hidMk hai
            have HJ2 := hidMk (show ∀ j, j < k + 1 → AddOk ds j 0 from fun j hj => by
              by_cases e : j = k
              · subst e; exact (HAO.out 0).2 hai
              · exact HJ.out j (by omega))
            clear h5 hai
            go_wp2_with fail
            go_roundg (gk - 1)
            case measure => have := HKG.out; omega
            case rel => exact ⟨k + 1, tp', dv', by have := HKG.out; omega, by go_num, by rw [HTK.out]; exact H5.out, HJ2⟩
          · have K5 := hidMk (((Kept.refl wr).alloc _).trans k5)
            have HBD := hidMk (show CatIs ds ms lv sc (k : Nat) er from .inr ⟨by omega, .inl ⟨k, by omega, (HAO.out er).2 hai, her, HJ.out, rfl⟩⟩)
            have HER := hidMk her
            have her' : (er != 0) = true := by simpa using her
            clear k5 hai her
            go_wp2_with fail
            go_ret3
            exact .inr ⟨k, er, rfl, HER.out, HBD.out, HKR.out.trans K5.out⟩
        · have hk : k = n := by omega
          have htk : ds.take k = ds := List.take_of_length_le (by omega)
          rw [htk] at HD
          have HCK := hidMk (dims_check HD.out (by omega) (by omega) HMZ.out)
          have HAL := hidMk (show ∀ j, j < ds.length → AddOk ds j 0 from fun j hj => HJ.out j (by omega))
          have kn' : ¬ ((k : Int) < n) := by omega
          clear hD hkg htk
          go_wp2_with fail
          refine HCK.out.mono ?_
          rintro e w6 ⟨er, rfl, hci, k6⟩
          have K6 := hidMk k6
          have HCI := hidMk hci
          clear k6 hci
          by_cases her : er = 0
          · subst her
            have HFIN := hidMk (show CatIs ds ms lv sc 0 0 from .inr ⟨by omega, .inr ⟨HAL.out, HCI.out, rfl⟩⟩)
            go_wp2_with fail
            go_ret3
            exact .inl ⟨w0, p, tp, mb, mc, dv, rfl, HFIN.out, HD.out.kept K6.out, HKR.out.trans K6.out⟩
          · have HFIN := hidMk (show CatIs ds ms lv sc (-1) er from .inr ⟨by omega, .inr ⟨HAL.out, HCI.out, by rw [if_neg her]⟩⟩)
            have HER := hidMk her
            have her' : (er != 0) = true := by simpa using her
            clear her
            go_wp2_with fail
            go_ret3
            exact .inr ⟨-1, er, rfl, HER.out, HFIN.out, HKR.out.trans K6.out⟩
    · rw [decide_eq_false h2] at f2
      have F1 := hidMk (show ∀ y, Calls Try.prog 32 #[.int .i64 n, .int .i64 4] y fun e w' => e = .returned (.bool true) ∧ w' = y from fun y => by have := HF.out n 4 y; rw [f1] at this; exact this)
      have F2 := hidMk (show ∀ y, Calls Try.prog 32 #[.int .i64 m, .int .i64 4] y fun e w' => e = .returned (.bool false) ∧ w' = y from fun y => by have := HF.out m 4 y; rw [f2] at this; exact this)
      clear f1 f2 HF
      go_enter Try.func18, Try.ntmps18
      go_wp2_with fail
      refine (F1.out _).mono ?_
      rintro e w1 ⟨rfl, rfl⟩
      go_wp2_with fail
      refine (F2.out _).mono ?_
      rintro e w2 ⟨rfl, rfl⟩
      go_wp2_with fail
      go_ret3
      exact .inr ⟨-1, 5, rfl, by omega, .inl ⟨by omega, rfl, rfl⟩, (Kept.refl w).alloc _⟩
  · rw [decide_eq_false h1] at f1
    have F1 := hidMk (show ∀ y, Calls Try.prog 32 #[.int .i64 n, .int .i64 4] y fun e w' => e = .returned (.bool false) ∧ w' = y from fun y => by have := HF.out n 4 y; rw [f1] at this; exact this)
    clear f1 f2 HF
    go_enter Try.func18, Try.ntmps18
    go_wp2_with fail
    refine (F1.out _).mono ?_
    rintro e w1 ⟨rfl, rfl⟩
    go_wp2_with fail
    go_ret3
    exact .inr ⟨-1, 5, rfl, by omega, .inl ⟨by omega, rfl, rfl⟩, (Kept.refl w).alloc _⟩
end Go.Proofs.Ytbhojgodkblflaa
