/- hold: Region. -/
import Derived.Test.YtpkepkemjcjplaaGreatHold9
import Derived.Test.YtpkepkemjcjplaaGreatRegJ3
import Derived.Test.YtpkepkemjcjplaaGreatRegJ4
namespace Go.Proofs.YtpkepkemjcjplaaGreat
open Go.RowKit Go.Maps
set_option linter.unusedSimpArgs false
set_option linter.unusedVariables false

/-- The values of a row of sets. -/
def seV (f : Nat → List Rn) (nv : Nat → Option Addr × Nat) (j : Nat) : List Value := (List.range j).map fun k => .slice (nv k).1 (f k).length (nv k).2
/-- A row of j sets, from block B on, whose own rows lie apart from it. -/
def OwnE (w : World) (B : Nat) (v : Value) (f : Nat → List Rn) (j : Nat) (nv : Nat → Option Addr × Nat) : Prop :=
  w.ownsRow B 55 1 v j (seV f nv j) ∧ ∀ k, k < j → (Rs w (nv k).1 (f k) ∧ (f k).length ≤ (nv k).2 ∧ ((nv k).1 = none → f k = [] ∧ (nv k).2 = 0)) ∧ ∀ ad, (nv k).1 = some ad → 0 < (f k).length → ad.block < w.heap.size ∧ v.ownBlock ≠ some ad.block
theorem ownE_nil (w : World) (B : Nat) (f : Nat → List Rn) (nv : Nat → Option Addr × Nat) : OwnE w B (.slice none 0 0) f 0 nv := ⟨World.ownsRow_nil _ _ _ _, fun k hk => absurd hk (by omega)⟩
theorem OwnE.kept {w y : World} {B : Nat} {v : Value} {f : Nat → List Rn} {j : Nat} {nv : Nat → Option Addr × Nat} (h : OwnE w B v f j nv) (g : Kept w y) : OwnE y B v f j nv :=
  ⟨ownsRow_kept h.1 g, fun k hk => ⟨⟨(h.2 k hk).1.1.kept g, (h.2 k hk).1.2⟩, fun ad e hp => ⟨Nat.lt_of_lt_of_le ((h.2 k hk).2 ad e hp).1 g.size, ((h.2 k hk).2 ad e hp).2⟩⟩⟩
theorem OwnE.lt {w : World} {B : Nat} {v : Value} {f : Nat → List Rn} {j : Nat} {nv : Nat → Option Addr × Nat} (h : OwnE w B v f j nv) : ∀ g, v.ownBlock = some g → B ≤ g ∧ g < w.heap.size := World.ownsRow.lt h.1
theorem OwnE.form {w : World} {B : Nat} {v : Value} {f : Nat → List Rn} {j : Nat} {nv : Nat → Option Addr × Nat} (h : OwnE w B v f j nv) : ∃ a c, v = .slice a j c := by
  obtain ⟨_, ⟨h1, hz⟩ | ⟨g, cap, cur, h1, _⟩⟩ := h.1
  · exact ⟨none, 0, by rw [h1]; have : j = 0 := by simpa using hz
                       rw [this]⟩
  · exact ⟨_, _, h1⟩
theorem OwnE.sts {w : World} {B : Nat} {a : Option Addr} {c : Nat} {f : Nat → List Rn} {j : Nat} {nv : Nat → Option Addr × Nat} (h : OwnE w B (.slice a j c) f j nv) : Sts w a ((List.range j).map f) := by
  refine ⟨fun hp => ?_⟩
  rw [List.length_map, List.length_range] at hp
  obtain ⟨g, cap, e, _, _⟩ := h.1.form hp
  cases e
  refine ⟨g, 0, rfl, (h.lt g rfl).2, fun k hk => ?_⟩
  rw [List.length_map, List.length_range] at hk
  refine ⟨.slice (nv k).1 (f k).length (nv k).2, ?_, ?_⟩
  · rw [Nat.zero_add, h.1.cellAt k (by omega)]
    simp [seV, hk]
  · rw [show ((List.range j).map f).getD k [] = f k by simp [List.getD, hk]]
    obtain ⟨⟨h1, h2, h3⟩, _⟩ := h.2 k hk
    exact ⟨_, _, rfl, h1, h2, h3⟩
theorem ownE_next {w w' : World} {B : Nat} {v : Value} {f : Nat → List Rn} {j : Nat} {nv : Nat → Option Addr × Nat} (hv : OwnE w B v f j nv) (va : Option Addr) (vc : Nat) (m : List Rn) (hs : Rs w va m ∧ m.length ≤ vc ∧ (va = none → m = [] ∧ vc = 0)) (hfr : ∀ ad, va = some ad → 0 < m.length → ad.block < w.heap.size ∧ v.ownBlock ≠ some ad.block) {g' cap : Nat}
    (h2 : w'.ownsRow B 55 1 (.slice (some ⟨g', 0, none⟩) (j + 1) cap) (j + 1) (seV f nv j ++ [.slice va m.length vc])) (h3 : Chg (fun k => v.ownBlock = some k) w w') (h4 : v.ownBlock = some g' ∨ g' = w.heap.size) : OwnE w' B (.slice (some ⟨g', 0, none⟩) (j + 1) cap) (fun k => if k = j then m else f k) (j + 1) (fun k => if k = j then (va, vc) else nv k) := by
  have hne : ∀ ad : Addr, ad.block < w.heap.size → v.ownBlock ≠ some ad.block → (Value.slice (some ⟨g', 0, none⟩) (j + 1) cap).ownBlock ≠ some ad.block := fun ad hlt hn e => by
    simp only [Value.ownBlock, Option.some.injEq] at e
    rcases h4 with h4 | h4
    · rw [h4] at hn; exact hn (by rw [e])
    · omega
  refine ⟨?_, fun k hk => ?_⟩
  · have e : seV (fun k => if k = j then m else f k) (fun k => if k = j then (va, vc) else nv k) (j + 1) = seV f nv j ++ [.slice va m.length vc] := by
      unfold seV
      rw [List.range_succ, List.map_append]
      congr 1
      · apply List.map_congr_left
        intro k hk
        rw [List.mem_range] at hk
        have e : ¬ k = j := by omega
        simp only [if_neg e]
      · simp
    rw [e]
    exact h2
  · by_cases e : k = j
    · subst e
      simp only [if_true]
      exact ⟨⟨hs.1.chg h3 (fun hp ad had e => (hfr ad had hp).2 e), hs.2⟩, fun ad had hp => ⟨Nat.lt_of_lt_of_le (hfr ad had hp).1 h3.size, hne ad (hfr ad had hp).1 (hfr ad had hp).2⟩⟩
    · simp only [if_neg e]
      have hk' : k < j := by omega
      obtain ⟨s1, s2⟩ := hv.2 k hk'
      exact ⟨⟨s1.1.chg h3 (fun hp ad had e => (s2 ad had hp).2 e), s1.2⟩, fun ad had hp => ⟨Nat.lt_of_lt_of_le (s2 ad had hp).1 h3.size, hne ad (s2 ad had hp).1 (s2 ad had hp).2⟩⟩
theorem einfo : ∃ i0, Tryz.prog.info? 55 = some i0 ∧ i0.zero = some (.agg #[.slice none 0 0]) ∧ i0.size = 1 ∧ i0.bytes = 24 := by
  have h : (Tryz.prog.info? 55).map (fun i => (i.zero, i.size, i.bytes)) = some (some (.agg #[.slice none 0 0]), 1, 24) := by kernel_rfl
  exact info_parts h
theorem wpList_pushE {ops : Array Oper} {rest : List Oper} {o : Oper} {a : Act} {Q : Exit → Act → World → Prop} (w : World) (hgd : o.guard = none) (s x : Operand)
    (ho : o.op = .call { callee := .builtin .append, args := #[s, x], argTypes := #[97, 97] })
    (B : Nat) (v : Value) (f : Nat → List Rn) (j : Nat) (nv : Nat → Option Addr × Nat) (hs : a.eval s = v) (hv : OwnE w B v f j nv) (hB : B ≤ w.heap.size) (g : Nat) (va : Option Addr) (vc : Nat) (m : List Rn) (hx : a.eval x = .slice (some ⟨g, 0, none⟩) 1 1) (hcell : w.cell? ⟨g, 0, none⟩ = some (.slice va m.length vc))
    (hsl : Rs w va m ∧ m.length ≤ vc ∧ (va = none → m = [] ∧ vc = 0)) (hfr : ∀ ad, va = some ad → 0 < m.length → ad.block < w.heap.size ∧ v.ownBlock ≠ some ad.block) (hj : j ≤ 1000)
    (h : ∀ g' cap w', OwnE w' B (.slice (some ⟨g', 0, none⟩) (j + 1) cap) (fun k => if k = j then m else f k) (j + 1) (fun k => if k = j then (va, vc) else nv k) → Chg (fun k => v.ownBlock = some k) w w' → wpList Tryz.prog ops Q rest (a.put o.dst (.slice (some ⟨g', 0, none⟩) (j + 1) cap)) w') :
    wpList Tryz.prog ops Q (o :: rest) a w := by
  obtain ⟨i0, hi0, hz0, hz1, hz2⟩ := einfo
  refine wpList_append_lies w hgd s x 97 ho B 55 i0 (.agg #[.slice none 0 0]) 1 24 Tryz.underlying97 hi0 hz0 hz1 hz2 rfl (by decide) v _ _ hs hv.1 ⟨g, 0, none⟩ 1 1 [.slice va m.length vc] hx rfl (one_news hcell) (by intro u hu; simp at hu; subst hu; rfl) (by omega) (by unfold maxLen; omega) (by omega) hB w.heap.size rfl ?_
  intro g' cap w' h2 h3 h4 h5
  have hc : Chg (fun k => v.ownBlock = some k) w w' := (Chg.refl _ w).grown h3 (fun k hk => .inl hk)
  exact h g' cap w' (ownE_next hv va vc m hsl hfr h2 hc h4) hc
theorem norm_okR {l : List Rn} (h : Norm l) : ∀ r, r ∈ l → okR r := fun r hr => by
  obtain ⟨k, hk, rfl⟩ := mem_rnA hr
  exact norm_at h hk
theorem catL_len_le {f : Nat → List Rn} {j : Nat} (h : ∀ k, k < j → (f k).length ≤ 1000) : (catL [] ((List.range j).map f)).length ≤ j * 1000 := by
  induction j with
  | zero => simp [catL]
  | succ j ih =>
    have := ih (fun k hk => h k (by omega))
    have h2 := h j (by omega)
    rw [List.range_succ, List.map_append, catL, List.foldl_append]
    unfold catL at this
    simp only [List.map_cons, List.map_nil, List.foldl_cons, List.foldl_nil, List.length_append]
    omega
section
variable {w : World} {s p : Nat} {ds : List Dm} {ms : List ByteArray} {tp : Nat → Nat} {rv : Nat → Option Addr × Nat}
/-- The codes within cells. -/
def regP (ms : List ByteArray) (ds : List Dm) (l : List Cl) (y : Int) : Prop := ∃ k, k < l.length ∧ y ∈ undL ms ds (clA l k).1 (clT (clA l k))
set_option maxHeartbeats 8000000 in
set_option maxRecDepth 100000 in
theorem hold_Region (h : SW w s p ds ms tp rv) (a : Option Addr) (c : Nat) (l : List Cl) (hq : Cq w a l) (hl : l.length ≤ 40) (hu : ∀ cm at_, (undL ms ds cm at_).length ≤ 1000 ∧ ∀ y, y ∈ undL ms ds cm at_ → isI y ∧ 0 ≤ y) :
    Calls Tryz.prog 20 #[hdV a l.length c, .pointer (some ⟨s, 0, none⟩)] w (SetPost w (regP ms ds l) 40000) := by
  obtain ⟨WA, hWA⟩ : ∃ V, V = (w.alloc (.cells #[.slice a l.length c] 37)).alloc (.cells #[.slice none 0 0] 55) := ⟨_, rfl⟩
  have kA : Kept w WA := by rw [hWA]; exact ((Kept.refl w).alloc _).alloc _
  have hA0 : WA.cell? ⟨w.heap.size, 0, none⟩ = some (.slice a l.length c) := by rw [hWA]; simp
  have hA1 : WA.cell? ⟨w.heap.size + 1, 0, none⟩ = some (.slice none 0 0) := by rw [hWA]; simp
  have hA2 : WA.frozen? ⟨w.heap.size + 1, 0, none⟩ = false := by rw [hWA]; simp
  have hAs : WA.heap.size = w.heap.size + 2 := by rw [hWA]; simp
  have HH := hidMk h
  have HQ := hidMk hq
  have HU := hidMk hu
  have HKA := hidMk kA
  clear h hq hu kA
  unfold hdV
  go_enter Tryz.func20, Tryz.ntmps20
  go_wp2_with fail
  rw [← hWA]
  clear hWA
  go_loopg [5, 11] l.length (fun g v x wr => ∃ (k : Nat) (f : Nat → List Rn) (nv : Nat → Option Addr × Nat) (va : Option Addr) (vc : Nat), k + g = l.length ∧ x = .int .i64 k ∧ v = .slice va k vc ∧ Hid (OwnE wr WA.heap.size (.slice va k vc) f k nv ∧ Kept WA wr ∧ ∀ i, i < k → Norm (f i) ∧ (∀ y, inRg (f i) y ↔ y ∈ undL ms ds (clA l i).1 (clT (clA l i))) ∧ (f i).length ≤ 1000))
  case atStart => exact ⟨0, fun _ => [], fun _ => (none, 0), none, 0, by omega, rfl, rfl, hidMk ⟨ownE_nil _ _ _ _, Kept.refl _, fun i hi => absurd hi (by omega)⟩⟩
  case round =>
    obtain ⟨k, f, nv, va, vc, hkg, rfl, rfl, HJ⟩ := hrel
    have HKG := hidMk hkg
    by_cases hkn : k < l.length
    · have hk1 : (k : Int) < l.length := by omega
      have hk0 : (0 : Int) ≤ (k : Int) := by omega
      obtain ⟨b, o, rfl⟩ := HQ.out.form (by omega)
      have hkW := HKA.out.trans HJ.out.2.1
      obtain ⟨c0, c1, c2, c3, c4⟩ := (HQ.out.kept hkW).at hkn
      have hb : b < wr.heap.size := cell_lt c0
      have HUN := hidMk (show ∀ y, Kept wr y → Calls Tryz.prog 47 #[.pointer (some ⟨s, 0, none⟩), clV (clA l k)] y (UndP y (undL ms ds (clA l k).1 (clT (clA l k)))) from fun y hy => by rw [clV_at]; exact sw_Under (HH.out.keep (hkW.trans hy)) _ _)
      obtain ⟨UL, hUL⟩ : ∃ UL, UL = undL ms ds (clA l k).1 (clT (clA l k)) := ⟨_, rfl⟩
      rw [← hUL] at HUN
      have HUB := hidMk (HU.out (clA l k).1 (clT (clA l k)))
      rw [← hUL] at HUB
      have HUL := hidMk hUL
      obtain ⟨X, hxx⟩ : ∃ X, clA l k = X := ⟨_, rfl⟩
      rw [hxx] at c0 c1 c2 c3 c4 HUN HUL
      obtain ⟨x0, x1, x2, x3, x4⟩ := X
      unfold clV at HUN
      simp only at c0 c1 c2 c3 c4 HUN
      have HXX := hidMk hxx
      clear hUL hkW hkg hxx
      go_wp2_with fail
      refine (HUN.out _ ((Kept.refl wr).alloc _)).mono ?_
      rintro e w2 ⟨v2, rfl, ho2, k2⟩
      obtain ⟨ua, uc, rfl, hsl⟩ := ho2.sl (by have := HUB.out.1; unfold maxLen; omega)
      have HOF := hidMk (region_Of ua UL.length uc UL w2 hsl (fun x hx => (HUB.out.2 x hx).1) HUB.out.1)
      have HK2 := hidMk (((Kept.refl wr).alloc _).trans k2)
      clear ho2 k2 hsl c0 c1 c2 c3 c4 HUN
      go_wp2_with fail
      refine HOF.out.mono ?_
      rintro e w3 ⟨v3, m, rfl, hset, hN, hin, hlen, k3, hfr⟩
      obtain ⟨ma, mc, rfl, hrs, hle, hnl⟩ := hset
      have HK3 := hidMk (HK2.out.trans k3)
      have HST := hidMk (show Rs w3 ma m ∧ m.length ≤ mc ∧ (ma = none → m = [] ∧ mc = 0) from ⟨hrs, hle, hnl⟩)
      have HNM := hidMk hN
      have HIN := hidMk hin
      have HFR := hidMk (show ∀ ad, ma = some ad → 0 < m.length → ad.block < w3.heap.size ∧ (Value.slice va k vc).ownBlock ≠ some ad.block from fun ad e hp => by
        have h1 := hfr ad m.length mc (by rw [e])
        obtain ⟨b', o', e2, h2, _⟩ := hrs.cells hp
        rw [e] at e2
        cases e2
        refine ⟨h2, fun e3 => ?_⟩
        have := (HJ.out.1.lt _ e3).2
        have := HK2.out.size
        simp only at *
        omega)
      have hml := HUB.out.1
      have hlen1 : m.length ≤ 1000 := by omega
      clear hrs hle hnl hN hin hfr k3 HOF
      have hk16 : k ≤ 1000 := by omega
      have hBs : WA.heap.size ≤ w3.heap.size := by have := HJ.out.2.1.size; have := HK3.out.size; omega
      go_wp2_with (at_builtin; refine wpList_pushE _ rfl _ _ rfl WA.heap.size (.slice va k vc) f k nv rfl ((HJ.out.1.kept HK3.out).kept ((Kept.refl w3).alloc _)) (by simp; omega) w3.heap.size ma mc m rfl (by simp) ⟨HST.out.1.kept ((Kept.refl w3).alloc _), HST.out.2⟩ (fun ad e hp => ⟨by have := (HFR.out ad e hp).1; simp; omega, (HFR.out ad e hp).2⟩) hk16 ?_)
      intro g4 cap4 w4 o4 k4
      have HO4 := hidMk o4
      have HK4 := hidMk (show Kept WA w4 from k4.kept ((HJ.out.2.1.trans HK3.out).alloc _) (fun j hj => (HJ.out.1.lt j hj).1))
      clear o4 k4
      go_wp2_with fail
      go_roundg (gk - 1)
      case measure => have := HKG.out; omega
      case rel =>
        refine ⟨k + 1, _, _, _, _, by have := HKG.out; omega, by go_num, rfl, hidMk ⟨by rw [hAs]; exact HO4.out, HK4.out, fun i hi => ?_⟩⟩
        by_cases hik : i = k
        · subst hik
          simp only [if_true]
          rw [HXX.out]
          refine ⟨HNM.out, fun y => ?_, hlen1⟩
          rw [HIN.out y, ← HUL.out]
          exact ⟨fun h => h.1, fun h => ⟨h, (HUB.out.2 y h).2⟩⟩
        · simp only [if_neg hik]
          exact HJ.out.2.2 i (by omega)
    · have hk1 : ¬ ((k : Int) < l.length) := by omega
      obtain rfl : k = l.length := by omega
      have hcl := catL_len_le (f := f) (j := l.length) (fun i hi => (HJ.out.2.2 i hi).2.2)
      have hcm : ∀ r, r ∈ catL [] ((List.range l.length).map f) ↔ ∃ i, i < l.length ∧ r ∈ f i := fun r => by
        rw [catL_mem]
        simp only [List.mem_map, List.mem_range, List.not_mem_nil, false_or]
        exact ⟨fun ⟨t, ⟨i, hi, e⟩, hr⟩ => ⟨i, hi, by rw [e]; exact hr⟩, fun ⟨i, hi, hr⟩ => ⟨f i, ⟨i, hi, rfl⟩, hr⟩⟩
      have HJN := hidMk (show Calls Tryz.prog 48 #[.agg #[.slice none 0 0], .slice va l.length vc] wr (SetPost wr (regP ms ds l) 40000) from by
        have hj := region_Join (.agg #[.slice none 0 0]) [] va vc ((List.range l.length).map f) wr ⟨none, 0, rfl, ⟨fun hp => absurd hp (by simp)⟩, by simp, fun _ => ⟨rfl, rfl⟩⟩ HJ.out.1.sts
          (fun r hr => by obtain ⟨i, hi, h⟩ := (hcm r).1 hr; exact norm_okR (HJ.out.2.2 i hi).1 r h) (by omega) (by simp; omega)
        rw [List.length_map, List.length_range] at hj
        refine hj.mono ?_
        rintro e w' ⟨v', m, h1, h2, h3, h4, h5, h6, h7⟩
        refine ⟨v', m, h1, h2, h3, fun y => ?_, by omega, h6, h7⟩
        rw [h4 y]
        unfold regP
        constructor
        · rintro (h | ⟨t, ht, hy⟩)
          · exact absurd h (inR_nil y)
          · simp only [List.mem_map, List.mem_range] at ht
            obtain ⟨i, hi, rfl⟩ := ht
            exact ⟨i, hi, ((HJ.out.2.2 i hi).2.1 y).1 hy⟩
        · rintro ⟨i, hi, hy⟩
          exact .inr ⟨f i, by simp only [List.mem_map, List.mem_range]; exact ⟨i, hi, rfl⟩, ((HJ.out.2.2 i hi).2.1 y).2 hy⟩)
      have HKW := hidMk HJ.out.2.1
      have hr1 := HKW.out.cellp hA1
      have hr2 := (HKW.out.frozen (p := ⟨w.heap.size + 1, 0, none⟩) (show w.heap.size + 1 < WA.heap.size by omega)).trans hA2
      clear hcl hcm
      go_wp2_with fail
      refine HJN.out.mono ?_
      rintro e w5 ⟨v5, m5, rfl, hs5, hN5, hm5, hl5, k5, hf5⟩
      obtain ⟨a5, c5, rfl, hrs, hle, hnl⟩ := hs5
      have r1 := k5.cellp hr1
      have r2 := (k5.frozen (p := ⟨w.heap.size + 1, 0, none⟩) (cell_lt hr1)).trans hr2
      have HK5 := hidMk (show Kept w w5 from (HKA.out.trans HKW.out).trans k5)
      have H5 := hidMk hrs
      have HNN := hidMk hnl
      have HN5 := hidMk hN5
      have HM5 := hidMk hm5
      have HF5 := hidMk (show ∀ ad, a5 = some ad → w.heap.size + 2 ≤ ad.block from fun ad e => by
        have h1 := hf5 ad m5.length c5 (by rw [e])
        have h2 := HKW.out.size
        omega)
      clear hrs hnl hN5 hm5 hf5 k5 hr1 hr2 HJN
      go_wp2_with fail
      have c2 : Chg (· = w.heap.size + 1) w5 (w5.setCell ⟨w.heap.size + 1, 0, none⟩ (.slice a5 m5.length c5)) := chg_set _ _ _ _
      exact set_ret1 rfl (w.heap.size + 1) (.slice a5 m5.length c5) _ rfl rfl r1 ⟨_, m5, rfl, ⟨a5, c5, rfl, H5.out.chg c2 (fun _ ad e f => by have := HF5.out ad e; omega), hle, HNN.out⟩, HN5.out, HM5.out, hl5, HK5.out.setCell (p := ⟨w.heap.size + 1, 0, none⟩) (Nat.le_add_right _ _) _, fun ad n c e => by simp at e; have := HF5.out ad e.1; omega⟩
end
end Go.Proofs.YtpkepkemjcjplaaGreat
