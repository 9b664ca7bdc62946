/- show: rows of changes, locks, clashes in memory; a line of each of some things. -/
import Derived.Test.YtbhojgodkblflaaSh2
namespace Go.Proofs.Ytbhojgodkblflaa
open Go.RowKit Go.Maps
set_option linter.unusedSimpArgs false
set_option linter.unusedVariables false

/-- n things of k cells each, in a row. -/
structure Rq {α : Type} (F : α → List Value) (k : Nat) (w : World) (a : Option Addr) (n : Nat) (g : Nat → α) : Prop where
  big : n ≤ maxLen
  cells : 0 < n → ∃ b o, a = some ⟨b, o, none⟩ ∧ b < w.heap.size ∧ ∀ i, i < n → ∀ t u, (F (g i))[t]? = some u → w.cell? ⟨b, o + i * k + t, none⟩ = some u
theorem Rq.kept {α : Type} {F : α → List Value} {k : Nat} {w w' : World} {a : Option Addr} {n : Nat} {g : Nat → α} (h : Rq F k w a n g) (q : Kept w w') : Rq F k w' a n g :=
  ⟨h.big, fun hp => by
    obtain ⟨b, o, h1, h2, h3⟩ := h.cells hp
    exact ⟨b, o, h1, Nat.lt_of_lt_of_le h2 q.size, fun i hi t u hu => q.cellp (h3 i hi t u hu)⟩⟩
def lnL (L : Nat → ByteArray) (k : Nat) : List ByteArray := (List.range k).map L
theorem lnL_len (L : Nat → ByteArray) (k : Nat) : (lnL L k).length = k := by simp [lnL]
theorem lnL_succ (L : Nat → ByteArray) (k : Nat) : lnL L (k + 1) = lnL L k ++ [L k] := by simp [lnL, List.range_succ]
structure Ch where
  c0 : Int
  c1 : Int
  c2 : Int
  c3 : Int
  c4 : Int
  a : Int
  b : Int
def chF (x : Ch) : List Value := [.int .i64 x.c0, .int .i64 x.c1, .int .i64 x.c2, .int .i64 x.c3, .int .i64 x.c4, .int .i64 x.a, .int .i64 x.b]
structure Lo where
  c0 : Int
  c1 : Int
  c2 : Int
  c3 : Int
  c4 : Int
  u : ByteArray
def loF (x : Lo) : List Value := [.int .i64 x.c0, .int .i64 x.c1, .int .i64 x.c2, .int .i64 x.c3, .int .i64 x.c4, .string x.u]
structure Cs where
  c0 : Int
  c1 : Int
  c2 : Int
  c3 : Int
  c4 : Int
  a : Int
  b : Int
  c : Int
  h : Bool
def csF (x : Cs) : List Value := [.int .i64 x.c0, .int .i64 x.c1, .int .i64 x.c2, .int .i64 x.c3, .int .i64 x.c4, .int .i64 x.a, .int .i64 x.b, .int .i64 x.c, .bool x.h]
set_option maxHeartbeats 4000000 in
set_option maxRecDepth 100000 in
theorem lines_Ch (a : Option Addr) (n c : Nat) (g : Nat → Ch) (L : Nat → ByteArray) (p1 p2 : Nat) (w : World) (hs : Rq chF 7 w a n g) (hn : n ≤ 50)
    (HL : ∀ y, Kept w y → ∀ i, i < n → Calls Try.prog 27 #[.agg (chF (g i)).toArray, .pointer (some ⟨p1, 0, none⟩), .pointer (some ⟨p2, 0, none⟩)] y fun e w' => e = .returned (.string (L i)) ∧ Kept y w') :
    Calls Try.prog 26 #[.slice a n c, .func (.func 27) #[] #[.pointer (some ⟨p1, 0, none⟩), .pointer (some ⟨p2, 0, none⟩)]] w fun e w' => ∃ v, e = .returned v ∧ OwnS w' w.heap.size v (lnL L n) ∧ Kept w w' := by
  have HS := hidMk hs
  have HHL := hidMk HL
  clear hs HL
  go_enter Try.func26, Try.ntmps26
  go_wp2_with fail
  go_loopg [5, 10] n (fun gg v x wr => ∃ k : Nat, k + gg = n ∧ x = .int .i64 k ∧ Kept w wr ∧ Hid (OwnS wr w.heap.size v (lnL L k)))
  case atStart => exact ⟨0, by omega, rfl, Kept.refl _, hidMk (World.ownsRow_nil _ _ _ _)⟩
  case round =>
    obtain ⟨k, hkg, rfl, hk, HO⟩ := hrel
    have HKG := hidMk hkg
    have HK := hidMk hk
    by_cases hkn : k < n
    · obtain ⟨bb, oo, rfl, _, hc0⟩ := (HS.out.kept hk).cells (by omega)
      have hc := hc0 k hkn
      have HC := hidMk (fun y (hy : Kept wr y) => HHL.out y (HK.out.trans hy) k hkn)
      unfold chF at hc HC
      have d0 : wr.cell? ⟨bb, oo + k * 7, none⟩ = some (.int .i64 (g k).c0) := hc 0 _ rfl
      have d1 : wr.cell? ⟨bb, oo + k * 7 + 1, none⟩ = some (.int .i64 (g k).c1) := hc 1 _ rfl
      have d2 : wr.cell? ⟨bb, oo + k * 7 + 2, none⟩ = some (.int .i64 (g k).c2) := hc 2 _ rfl
      have d3 : wr.cell? ⟨bb, oo + k * 7 + 3, none⟩ = some (.int .i64 (g k).c3) := hc 3 _ rfl
      have d4 : wr.cell? ⟨bb, oo + k * 7 + 4, none⟩ = some (.int .i64 (g k).c4) := hc 4 _ rfl
      have d5 : wr.cell? ⟨bb, oo + k * 7 + 5, none⟩ = some (.int .i64 (g k).a) := hc 5 _ rfl
      have d6 : wr.cell? ⟨bb, oo + k * 7 + 6, none⟩ = some (.int .i64 (g k).b) := hc 6 _ rfl
      have HLn := hidMk (lnL_len L k)
      have HT := hidMk (lnL_succ L k)
      have hk1 : (k : Int) < n := by omega
      clear hc hc0 hk hkg
      generalize (g k).c0 = y0 at *
      generalize (g k).c1 = y1 at *
      generalize (g k).c2 = y2 at *
      generalize (g k).c3 = y3 at *
      generalize (g k).c4 = y4 at *
      generalize (g k).a = y5 at *
      generalize (g k).b = y6 at *
      generalize lnL L k = LL at *
      generalize L k = ln at *
      go_wp2_with fail
      refine (HC.out _ ((Kept.refl wr).alloc _)).mono ?_
      rintro e w2 ⟨rfl, k2⟩
      have K2 := hidMk (((Kept.refl wr).alloc _).trans k2)
      clear k2
      go_wp2_with (at_builtin; refine wpList_pushS _ rfl _ _ rfl w.heap.size _ LL rfl ((HO.out.kept K2.out).kept ((Kept.refl _).alloc _)) ?c1 _ ln rfl ?c2 ?c3 _ rfl ?_)
      case c1 => simp; have h1 := HK.out.size; have h2 := K2.out.size; omega
      case c2 => simp
      case c3 => rw [HLn.out]; omega
      intro g' cap w3 o3 k3 _ _
      have K3 := hidMk (show Kept w w3 from k3.kept ((HK.out.trans K2.out).alloc _) (fun t ht => (HO.out.lt t ht).1))
      have O3 := hidMk o3
      clear o3 k3
      go_wp2_with fail
      go_roundg (gk - 1)
      case measure => have := HKG.out; omega
      case rel => exact ⟨k + 1, by have := HKG.out; omega, by go_num, K3.out, hidMk (by rw [HT.out]; exact O3.out)⟩
    · have e : k = n := by omega
      subst e
      clear hk hkg
      have hkk : ¬ ((k : Int) < (k : Int)) := by omega
      go_wp2_with fail
      go_ret
      exact ⟨_, rfl, HO.out, HK.out⟩
set_option maxHeartbeats 4000000 in
set_option maxRecDepth 100000 in
theorem lines_Lo (a : Option Addr) (n c : Nat) (g : Nat → Lo) (L : Nat → ByteArray) (p1 : Nat) (w : World) (hs : Rq loF 6 w a n g) (hn : n ≤ 50)
    (HL : ∀ y, Kept w y → ∀ i, i < n → Calls Try.prog 29 #[.agg (loF (g i)).toArray, .pointer (some ⟨p1, 0, none⟩)] y fun e w' => e = .returned (.string (L i)) ∧ Kept y w') :
    Calls Try.prog 28 #[.slice a n c, .func (.func 29) #[] #[.pointer (some ⟨p1, 0, none⟩)]] w fun e w' => ∃ v, e = .returned v ∧ OwnS w' w.heap.size v (lnL L n) ∧ Kept w w' := by
  have HS := hidMk hs
  have HHL := hidMk HL
  clear hs HL
  go_enter Try.func28, Try.ntmps28
  go_wp2_with fail
  go_loopg [5, 10] n (fun gg v x wr => ∃ k : Nat, k + gg = n ∧ x = .int .i64 k ∧ Kept w wr ∧ Hid (OwnS wr w.heap.size v (lnL L k)))
  case atStart => exact ⟨0, by omega, rfl, Kept.refl _, hidMk (World.ownsRow_nil _ _ _ _)⟩
  case round =>
    obtain ⟨k, hkg, rfl, hk, HO⟩ := hrel
    have HKG := hidMk hkg
    have HK := hidMk hk
    by_cases hkn : k < n
    · obtain ⟨bb, oo, rfl, _, hc0⟩ := (HS.out.kept hk).cells (by omega)
      have hc := hc0 k hkn
      have HC := hidMk (fun y (hy : Kept wr y) => HHL.out y (HK.out.trans hy) k hkn)
      unfold loF at hc HC
      have d0 : wr.cell? ⟨bb, oo + k * 6, none⟩ = some (.int .i64 (g k).c0) := hc 0 _ rfl
      have d1 : wr.cell? ⟨bb, oo + k * 6 + 1, none⟩ = some (.int .i64 (g k).c1) := hc 1 _ rfl
      have d2 : wr.cell? ⟨bb, oo + k * 6 + 2, none⟩ = some (.int .i64 (g k).c2) := hc 2 _ rfl
      have d3 : wr.cell? ⟨bb, oo + k * 6 + 3, none⟩ = some (.int .i64 (g k).c3) := hc 3 _ rfl
      have d4 : wr.cell? ⟨bb, oo + k * 6 + 4, none⟩ = some (.int .i64 (g k).c4) := hc 4 _ rfl
      have d5 : wr.cell? ⟨bb, oo + k * 6 + 5, none⟩ = some (.string (g k).u) := hc 5 _ rfl
      have HLn := hidMk (lnL_len L k)
      have HT := hidMk (lnL_succ L k)
      have hk1 : (k : Int) < n := by omega
      clear hc hc0 hk hkg
      generalize (g k).c0 = y0 at *
      generalize (g k).c1 = y1 at *
      generalize (g k).c2 = y2 at *
      generalize (g k).c3 = y3 at *
      generalize (g k).c4 = y4 at *
      generalize (g k).u = y5 at *
      generalize lnL L k = LL at *
      generalize L k = ln at *
      go_wp2_with fail
      refine (HC.out _ ((Kept.refl wr).alloc _)).mono ?_
      rintro e w2 ⟨rfl, k2⟩
      have K2 := hidMk (((Kept.refl wr).alloc _).trans k2)
      clear k2
      go_wp2_with (at_builtin; refine wpList_pushS _ rfl _ _ rfl w.heap.size _ LL rfl ((HO.out.kept K2.out).kept ((Kept.refl _).alloc _)) ?c1 _ ln rfl ?c2 ?c3 _ rfl ?_)
      case c1 => simp; have h1 := HK.out.size; have h2 := K2.out.size; omega
      case c2 => simp
      case c3 => rw [HLn.out]; omega
      intro g' cap w3 o3 k3 _ _
      have K3 := hidMk (show Kept w w3 from k3.kept ((HK.out.trans K2.out).alloc _) (fun t ht => (HO.out.lt t ht).1))
      have O3 := hidMk o3
      clear o3 k3
      go_wp2_with fail
      go_roundg (gk - 1)
      case measure => have := HKG.out; omega
      case rel => exact ⟨k + 1, by have := HKG.out; omega, by go_num, K3.out, hidMk (by rw [HT.out]; exact O3.out)⟩
    · have e : k = n := by omega
      subst e
      clear hk hkg
      have hkk : ¬ ((k : Int) < (k : Int)) := by omega
      go_wp2_with fail
      go_ret
      exact ⟨_, rfl, HO.out, HK.out⟩
set_option maxHeartbeats 4000000 in
set_option maxRecDepth 100000 in
theorem lines_Cs (a : Option Addr) (n c : Nat) (g : Nat → Cs) (L : Nat → ByteArray) (p1 : Nat) (w : World) (hs : Rq csF 9 w a n g) (hn : n ≤ 50)
    (HL : ∀ y, Kept w y → ∀ i, i < n → Calls Try.prog 46 #[.agg (csF (g i)).toArray, .pointer (some ⟨p1, 0, none⟩)] y fun e w' => e = .returned (.string (L i)) ∧ Kept y w') :
    Calls Try.prog 45 #[.slice a n c, .func (.func 46) #[] #[.pointer (some ⟨p1, 0, none⟩)]] w fun e w' => ∃ v, e = .returned v ∧ OwnS w' w.heap.size v (lnL L n) ∧ Kept w w' := by
  have HS := hidMk hs
  have HHL := hidMk HL
  clear hs HL
  go_enter Try.func45, Try.ntmps45
  go_wp2_with fail
  go_loopg [5, 10] n (fun gg v x wr => ∃ k : Nat, k + gg = n ∧ x = .int .i64 k ∧ Kept w wr ∧ Hid (OwnS wr w.heap.size v (lnL L k)))
  case atStart => exact ⟨0, by omega, rfl, Kept.refl _, hidMk (World.ownsRow_nil _ _ _ _)⟩
  case round =>
    obtain ⟨k, hkg, rfl, hk, HO⟩ := hrel
    have HKG := hidMk hkg
    have HK := hidMk hk
    by_cases hkn : k < n
    · obtain ⟨bb, oo, rfl, _, hc0⟩ := (HS.out.kept hk).cells (by omega)
      have hc := hc0 k hkn
      have HC := hidMk (fun y (hy : Kept wr y) => HHL.out y (HK.out.trans hy) k hkn)
      unfold csF at hc HC
      have d0 : wr.cell? ⟨bb, oo + k * 9, none⟩ = some (.int .i64 (g k).c0) := hc 0 _ rfl
      have d1 : wr.cell? ⟨bb, oo + k * 9 + 1, none⟩ = some (.int .i64 (g k).c1) := hc 1 _ rfl
      have d2 : wr.cell? ⟨bb, oo + k * 9 + 2, none⟩ = some (.int .i64 (g k).c2) := hc 2 _ rfl
      have d3 : wr.cell? ⟨bb, oo + k * 9 + 3, none⟩ = some (.int .i64 (g k).c3) := hc 3 _ rfl
      have d4 : wr.cell? ⟨bb, oo + k * 9 + 4, none⟩ = some (.int .i64 (g k).c4) := hc 4 _ rfl
      have d5 : wr.cell? ⟨bb, oo + k * 9 + 5, none⟩ = some (.int .i64 (g k).a) := hc 5 _ rfl
      have d6 : wr.cell? ⟨bb, oo + k * 9 + 6, none⟩ = some (.int .i64 (g k).b) := hc 6 _ rfl
      have d7 : wr.cell? ⟨bb, oo + k * 9 + 7, none⟩ = some (.int .i64 (g k).c) := hc 7 _ rfl
      have d8 : wr.cell? ⟨bb, oo + k * 9 + 8, none⟩ = some (.bool (g k).h) := hc 8 _ rfl
      have HLn := hidMk (lnL_len L k)
      have HT := hidMk (lnL_succ L k)
      have hk1 : (k : Int) < n := by omega
      clear hc hc0 hk hkg
      generalize (g k).c0 = y0 at *
      generalize (g k).c1 = y1 at *
      generalize (g k).c2 = y2 at *
      generalize (g k).c3 = y3 at *
      generalize (g k).c4 = y4 at *
      generalize (g k).a = y5 at *
      generalize (g k).b = y6 at *
      generalize (g k).c = y7 at *
      generalize (g k).h = y8 at *
      generalize lnL L k = LL at *
      generalize L k = ln at *
      go_wp2_with fail
      refine (HC.out _ ((Kept.refl wr).alloc _)).mono ?_
      rintro e w2 ⟨rfl, k2⟩
      have K2 := hidMk (((Kept.refl wr).alloc _).trans k2)
      clear k2
      go_wp2_with (at_builtin; refine wpList_pushS _ rfl _ _ rfl w.heap.size _ LL rfl ((HO.out.kept K2.out).kept ((Kept.refl _).alloc _)) ?c1 _ ln rfl ?c2 ?c3 _ rfl ?_)
      case c1 => simp; have h1 := HK.out.size; have h2 := K2.out.size; omega
      case c2 => simp
      case c3 => rw [HLn.out]; omega
      intro g' cap w3 o3 k3 _ _
      have K3 := hidMk (show Kept w w3 from k3.kept ((HK.out.trans K2.out).alloc _) (fun t ht => (HO.out.lt t ht).1))
      have O3 := hidMk o3
      clear o3 k3
      go_wp2_with fail
      go_roundg (gk - 1)
      case measure => have := HKG.out; omega
      case rel => exact ⟨k + 1, by have := HKG.out; omega, by go_num, K3.out, hidMk (by rw [HT.out]; exact O3.out)⟩
    · have e : k = n := by omega
      subst e
      clear hk hkg
      have hkk : ¬ ((k : Int) < (k : Int)) := by omega
      go_wp2_with fail
      go_ret
      exact ⟨_, rfl, HO.out, HK.out⟩
set_option maxHeartbeats 4000000 in
set_option maxRecDepth 100000 in
theorem lines_Nm (a : Option Addr) (n c : Nat) (l : List ByteArray) (w : World) (hs : Ss w a n l) (hn : n ≤ 50) :
    Calls Try.prog 30 #[.slice a n c, .func (.func 31) #[] #[]] w fun e w' => ∃ v, e = .returned v ∧ OwnS w' w.heap.size v l ∧ Kept w w' := by
  have HS := hidMk hs
  have hlen := hs.len
  clear hs
  have HN := hidMk (show ∀ (x : ByteArray) (y : World), Calls Try.prog 31 #[.string x] y fun e w' => e = .returned (.string x) ∧ w' = y from fun x y => by
    go_enter Try.func31, Try.ntmps31
    go_wp2_with fail
    go_ret
    exact ⟨rfl, rfl⟩)
  go_enter Try.func30, Try.ntmps30
  go_wp2_with fail
  go_loopg [5, 10] n (fun gg v x wr => ∃ k : Nat, k + gg = n ∧ x = .int .i64 k ∧ Kept w wr ∧ Hid (OwnS wr w.heap.size v (l.take k)))
  case atStart => exact ⟨0, by omega, rfl, Kept.refl _, hidMk (World.ownsRow_nil _ _ _ _)⟩
  case round =>
    obtain ⟨k, hkg, rfl, hk, HO⟩ := hrel
    have HKG := hidMk hkg
    have HK := hidMk hk
    by_cases hkn : k < n
    · obtain ⟨bb, oo, rfl, _, hc0⟩ := (HS.out.kept hk).cells (by omega)
      have d0 := hc0 k hkn
      have HLn := hidMk (show (l.take k).length = k by rw [List.length_take]; omega)
      have HT := hidMk (show l.take (k + 1) = l.take k ++ [l.getD k ByteArray.empty] by rw [List.take_succ_eq_append_getElem (by omega), List.getD_eq_getElem?_getD, List.getElem?_eq_getElem (by omega)]; rfl)
      have hk1 : (k : Int) < n := by omega
      clear hc0 hk hkg
      generalize l.take k = LL at *
      generalize l.getD k ByteArray.empty = ln at *
      go_wp2_with fail
      refine (HN.out _ _).mono ?_
      rintro e w2 ⟨rfl, rfl⟩
      go_wp2_with (at_builtin; refine wpList_pushS _ rfl _ _ rfl w.heap.size _ LL rfl (HO.out.kept ((Kept.refl _).alloc _)) ?c1 _ ln rfl ?c2 ?c3 _ rfl ?_)
      case c1 => simp; have h1 := HK.out.size; omega
      case c2 => simp
      case c3 => rw [HLn.out]; omega
      intro g' cap w3 o3 k3 _ _
      have K3 := hidMk (show Kept w w3 from k3.kept (HK.out.alloc _) (fun t ht => (HO.out.lt t ht).1))
      have O3 := hidMk o3
      clear o3 k3
      go_wp2_with fail
      go_roundg (gk - 1)
      case measure => have := HKG.out; omega
      case rel => exact ⟨k + 1, by have := HKG.out; omega, by go_num, K3.out, hidMk (by rw [HT.out]; exact O3.out)⟩
    · have e : k = n := by omega
      subst e
      have HE := hidMk (show l.take k = l from List.take_of_length_le (by omega))
      clear hk hkg
      have hkk : ¬ ((k : Int) < (k : Int)) := by omega
      go_wp2_with fail
      go_ret
      exact ⟨_, rfl, by rw [← HE.out]; exact HO.out, HK.out⟩
end Go.Proofs.Ytbhojgodkblflaa
