/- tree.lay: what follows from the members of a tree without loops. · tree.New. · What a whole tree answers. · Lists of places held against each other; what must come of fixed calls (layer 5). -/
import Derived.Test.YtpehinmckppjoaaGreatDoorWTree8
import Derived.Test.YtpehinmckppjoaaGreatDoorWTreeMath4B
namespace Go.Proofs.YtpehinmckppjoaaGreatDoor
open Go.RowKit Go.Maps
set_option linter.unusedSimpArgs false
set_option linter.unusedVariables false

theorem cell_new1 {x : World} {N : Nat} {v : Value} {t : TypeId} (h : x.heap.size = N) : (x.alloc (.cells #[v] t)).cell? ⟨N, 0, none⟩ = some v := by subst h; simp
/-- A whole tree: its members, and what follows from them. -/
structure Whole (w : World) (p : Nat) (l : List Nd) : Prop where
  ex : ∃ mb pb kv rk fr tu ov lv, TM w p mb pb l kv rk fr tu ov lv ∧ (∀ j : Nat, j < l.length → Sl .i64 w (kv j).1 (kv j).2.1 (ints (kidN l j))) ∧
    (∃ a c, ov = .slice a (ordN l).length c ∧ Sl .i64 w a (ordN l).length (ints (ordN l))) ∧ (∃ a c, lv = .slice a (lvsN l).length c ∧ Sl .i64 w a (lvsN l).length (ints (lvsN l))) ∧
    (∀ j, j < l.length → Spn l (lvsN l) rk fr tu j) ∧ ∀ j, leafB l j = false → rk j = -1
  tr : Tr l
  one : 1 ≤ l.length
/-- A whole tree that lies in the blocks from lo on, up to ahead of hi. -/
structure Solid (lo hi : Nat) (p : Nat) (l : List Nd) (w : World) : Prop where
  hi_le : hi ≤ w.heap.size
  all : ∀ (S : Nat → Prop) (y : World), Chg S w y → (∀ j, lo ≤ j → j < hi → ¬ S j) → Whole y p l
theorem Solid.whole {lo hi : Nat} {p : Nat} {l : List Nd} {w : World} (h : Solid lo hi p l w) : Whole w p l := h.all (fun _ => False) w (Chg.refl _ w) (fun _ _ _ e => e)
theorem Solid.chg {lo hi : Nat} {p : Nat} {l : List Nd} {S : Nat → Prop} {w y : World} (h : Solid lo hi p l w) (g : Chg S w y) (hs : ∀ j, lo ≤ j → j < hi → ¬ S j) : Solid lo hi p l y :=
  ⟨Nat.le_trans h.hi_le g.size, fun S' z g' hs' => h.all (fun j => S j ∨ S' j) z ((g.mono (fun _ _ e => .inl e)).trans (g'.mono (fun _ _ e => .inr e))) (fun j h1 h2 e => e.elim (hs j h1 h2) (hs' j h1 h2))⟩
theorem Solid.kept {lo hi : Nat} {p : Nat} {l : List Nd} {w y : World} (h : Solid lo hi p l w) (g : Kept w y) : Solid lo hi p l y := h.chg (S := fun _ => False) (Chg.of_kept g) (fun _ _ _ e => e)
theorem Whole.kept {w w' : World} {p : Nat} {l : List Nd} (h : Whole w p l) (g : Kept w w') : Whole w' p l := by
  obtain ⟨⟨mb, pb, kv, rk, fr, tu, ov, lv, h1, h2, ⟨a, c, h3, h4⟩, ⟨a', c', h5, h6⟩, h7, h8⟩, ht, ho⟩ := h
  exact ⟨⟨mb, pb, kv, rk, fr, tu, ov, lv, h1.kept g ho, fun j hj => (h2 j hj).kept g, ⟨a, c, h3, h4.kept g⟩, ⟨a', c', h5, h6.kept g⟩, h7, h8⟩, ht, ho⟩

set_option maxHeartbeats 2000000 in
set_option maxRecDepth 100000 in
theorem tree_lay {w : World} {p mb pb : Nat} {l : List Nd} (h : TM w p mb pb l (fun _ => (none, 0, 0)) (fun _ => -1) (fun _ => 0) (fun _ => 0) (.slice none 0 0) (.slice none 0 0)) (h1 : 1 ≤ l.length)
    (htr : Tr l) (lo : Nat) (hlo : lo ≤ p ∧ lo ≤ mb ∧ lo ≤ pb ∧ lo ≤ w.heap.size) :
    Calls Tryz.prog 94 #[.pointer (some ⟨p, 0, none⟩)] w fun e w' => e = .returned (.tuple #[]) ∧ Solid lo w'.heap.size p l w' ∧ Chg (fun j => j = p ∨ j = mb) w w' := by
  have hp : p < w.heap.size := cell_lt h.c0
  have hm : mb < w.heap.size := cell_lt (h.nm 0 (by omega))
  have hpb : pb < w.heap.size := by obtain ⟨n, _, x⟩ := h.pm; exact x.lt
  have hbig := h.big
  have H := hidMk h
  have HU := hidMk htr.ups
  have HTR := hidMk htr
  clear h htr
  go_enter Tryz.func94, Tryz.ntmps94
  have d0 := ((Kept.refl w).alloc (.cells #[.pointer (some ⟨p, 0, none⟩)] 141)).cellp H.out.c0
  go_wp2_with fail
  go_loopw [2, 12] (fun tv i wr => ∃ (k : Nat) (kv : Nat → Option Addr × Nat × Nat), k ≤ l.length ∧ i = .int .i64 k ∧ LayR (w.alloc (.cells #[.pointer (some ⟨p, 0, none⟩)] 141)) wr (w.heap.size + 1) p mb pb k l kv tv) (fun _ i _ => l.length - (intOf i).toNat)
  case atStart =>
    refine ⟨0, fun _ => (none, 0, 0), Nat.zero_le _, rfl, Chg.refl _ _, H.out.kept ((Kept.refl w).alloc _) h1, fun j hj => ownI_nil _ _, ownI_nil _ _, fun j _ j' _ _ g e => by simp [slv, Value.ownBlock] at e, fun j _ g e => by simp [slv, Value.ownBlock] at e, by omega, by omega, by omega, by simp⟩
  case round =>
    obtain ⟨k, kv, hk, rfl, hR⟩ := hrel
    by_cases hkn : k < l.length
    · have six := hR.tm.six hkn
      obtain ⟨s0, s1, s2, s3, s4, s5⟩ := six
      have HR := hidMk hR
      have db : wr.cell? ⟨w.heap.size, 0, none⟩ = some (.pointer (some ⟨p, 0, none⟩)) := hR.chg.cellp (by simp) (by omega)
      have hB := hR.chg.size
      have t0 := hR.tm.c0
      clear hR
      rcases HU.out k hkn with hu | hu
      · rw [hu] at s1
        have HUU := hidMk hu
        clear hu
        generalize nmA l k = s at *
        generalize (kv k).1 = ka at *
        generalize (kv k).2.1 = kn at *
        generalize (kv k).2.2 = kc at *
        have hlen := kidK_len l k (-1)
        go_wp2_with (at_builtin; refine wpList_pushI _ rfl _ _ rfl (w.heap.size + 1) _ (ints (kidK l k (-1))) rfl (((HR.out.kept ((Kept.refl _).alloc _) h1).kept ((Kept.refl _).alloc _) h1).tops) ?c1 _ (k : Int) rfl ?c2 ?c3 _ rfl ?_)
        case c1 => first | (simp at hB; simp; omega) | (simp; omega) | omega
        case c2 => simp
        case c3 => rw [ints_len]; omega
        intro g' cap w3 o3 k3 a3 l3
        have HL := hidMk (((HR.out.kept ((Kept.refl _).alloc _) h1).kept ((Kept.refl _).alloc _) h1).top h1 HUU.out o3 k3 (by simpa using a3))
        clear o3 k3 a3 l3
        go_wp2_with fail
        exact ⟨⟨k + 1, kv, by omega, by go_num, HL.out⟩, by simp [intOf]; omega⟩
      · obtain ⟨u, huu⟩ : ∃ u : Nat, upA l k = u := ⟨(upA l k).toNat, by have := hu.1; omega⟩
        have hul : u < l.length := by have := hu.2; omega
        rw [huu] at s1
        have HUU := hidMk huu
        clear hu huu
        have hne : ((u : Int) == -1) = false := by simp
        have k2 := HR.out.tm.kd u hul
        have f2 := HR.out.tm.fm
        obtain ⟨ua, hua⟩ : ∃ ua, kv u = ua := ⟨_, rfl⟩
        rw [hua] at k2
        obtain ⟨ua1, ua2, ua3⟩ := ua
        have HUA := hidMk hua
        clear hua
        simp only [slv] at k2
        generalize nmA l k = s at *
        generalize (kv k).1 = ka at *
        generalize (kv k).2.1 = kn at *
        generalize (kv k).2.2 = kc at *
        have hlen := kidK_len l k u
        have db' := fun o q => (((Kept.refl wr).alloc o).drewN q).cellp db
        have t0' := fun o q => (((Kept.refl wr).alloc o).drewN q).cellp t0
        have k2' := fun o q => (((Kept.refl wr).alloc o).drewN q).cellp k2
        clear k2
        have HKD := hidMk (show ∀ y, Kept wr y → OwnI y (w.heap.size + 1) (.slice ua1 ua2 ua3) (ints (kidK l k u)) from fun y hy => by
          have := (HR.out.kept hy h1).kids u hul
          rw [HUA.out] at this
          exact this)
        have HLK := hidMk (show ∀ (y z : World) (g cap nl : Nat), Kept wr y → OwnI z (w.heap.size + 1) (.slice (some ⟨g, 0, none⟩) nl cap) (ints (kidK l k u) ++ [(k : Int)]) → Chg (fun t => (Value.slice ua1 ua2 ua3).ownBlock = some t) y z → ((Value.slice ua1 ua2 ua3).ownBlock = some g ∨ g = y.heap.size) →
            (∃ v, z.cell? ⟨mb, u * 6 + 2, none⟩ = some v) ∧ z.frozen? ⟨mb, u * 6 + 2, none⟩ = false ∧ LayR (w.alloc (.cells #[.pointer (some ⟨p, 0, none⟩)] 141)) (z.setCell ⟨mb, u * 6 + 2, none⟩ (.slice (some ⟨g, 0, none⟩) nl cap)) (w.heap.size + 1) p mb pb (k + 1) l (fun j => if j = u then (some ⟨g, 0, none⟩, nl, cap) else kv j) u2 from fun y z g cap nl hy ho hc hg => by
          have hy2 := HR.out.kept hy h1
          have e : (slv (kv u)) = .slice ua1 ua2 ua3 := by rw [HUA.out]; rfl
          rw [← e] at hc hg
          have hl := hy2.kid h1 HUU.out hul ho hc hg
          have hB : ∀ t, (slv (kv u)).ownBlock = some t → w.heap.size + 1 ≤ t := fun t ht => ((hy2.kids u hul).lt t ht).1
          have n2 : ¬ (slv (kv u)).ownBlock = some mb := fun e => by have := hB mb e; omega
          exact ⟨⟨_, hc.cellp (hy2.tm.kd u hul) n2⟩, (hc.frozen (p := ⟨mb, u * 6 + 2, none⟩) (show mb < y.heap.size from cell_lt (hy2.tm.kd u hul)) n2).trans (hy2.tm.fm _), hl⟩)
        go_wp2_with fail
        go_quiet (fail)
        go_wp2_with (at_builtin; refine wpList_pushI _ rfl _ _ rfl (w.heap.size + 1) _ (ints (kidK l k u)) rfl (HKD.out _ ((((Kept.refl _).alloc _).drewN nq).alloc _)) ?c1 _ (k : Int) rfl ?c2 ?c3 _ rfl ?_)
        case c1 => first | (simp at hB; simp; omega) | (simp; omega) | omega
        case c2 => first | exact cell_new1 (by simp) | exact cell_new1 rfl
        case c3 => rw [ints_len]; omega
        intro g' cap w3 o3 k3 a3 l3
        obtain ⟨⟨v9, hv9⟩, hf9, hl9⟩ := HLK.out _ w3 g' cap _ ((((Kept.refl _).alloc _).drewN nq).alloc _) o3 k3 (by simpa using a3)
        have HL := hidMk hl9
        clear o3 k3 a3 l3 hl9
        go_wp2_with fail
        exact ⟨⟨k + 1, _, by omega, by go_num, HL.out⟩, by simp [intOf]; omega⟩
    · have e : k = l.length := by omega
      have HR := hidMk hR
      clear hR
      have db : wr.cell? ⟨w.heap.size, 0, none⟩ = some (.pointer (some ⟨p, 0, none⟩)) := HR.out.chg.cellp (by simp) (by omega)
      subst e
      have hdbx : w.heap.size < wr.heap.size := cell_lt db
      obtain ⟨ta, tc, htv, hts⟩ := HR.out.tops.sl (by rw [ints_len]; have := kidK_len l l.length (-1); unfold maxLen; omega)
      rw [ints_len] at htv hts
      have HTS := hidMk hts
      subst htv
      clear hts
      have t0 := HR.out.tm.c0
      obtain ⟨w0, hw0⟩ : ∃ w0, wr.alloc (.cells #[.func (.func 113) #[] #[.pointer (some ⟨w.heap.size, 0, none⟩), .pointer (some ⟨wr.heap.size, 0, none⟩)]] 189) = w0 := ⟨_, rfl⟩
      have hk0 : Kept wr w0 := hw0 ▸ (Kept.refl wr).alloc _
      have hsz0 : w0.heap.size = wr.heap.size + 1 := by rw [← hw0]; simp
      have R0 := HR.out.kept hk0 h1
      have hc0 : w0.cell? ⟨wr.heap.size, 0, none⟩ = some (.func (.func 113) #[] #[.pointer (some ⟨w.heap.size, 0, none⟩), .pointer (some ⟨wr.heap.size, 0, none⟩)]) := by rw [← hw0]; simp
      have D0 : DR w0 w0 p mb pb l kv (fun _ => -1) (fun _ => 0) (fun _ => 0) (.slice none 0 0) (.slice none 0 0) [] [] :=
        ⟨Chg.refl _ _, R0.tm, ownI_nil _ _, ownI_nil _ _, fun g e => by simp [Value.ownBlock] at e, by omega, h1⟩
      have hkids : ∀ j : Nat, j < l.length → Sl .i64 w0 (kv j).1 (kv j).2.1 (ints (kidN l j)) ∧ (0 < (kv j).2.1 → ∀ ad, (kv j).1 = some ad → ¬ (ad.block = p ∨ ad.block = mb)) := fun j hj => by
        obtain ⟨a, c, e1, e2⟩ := (R0.kids j hj).sl (by rw [ints_len]; have := kidK_len l l.length j; unfold maxLen; omega)
        have e3 : (kv j).1 = a ∧ (kv j).2.1 = (ints (kidK l l.length j)).length := by simp only [slv, Value.slice.injEq] at e1; exact ⟨e1.1, e1.2.1⟩
        refine ⟨by rw [e3.1, e3.2]; exact e2, fun _ ad had => ?_⟩
        have hob : (slv (kv j)).ownBlock = some ad.block := by simp [slv, Value.ownBlock, had]
        have := ((R0.kids j hj).lt _ hob).1
        omega
      have hall := tree_down (w0 := w0) (p := p) (mb := mb) (pb := pb) (bx := w.heap.size) (fx := wr.heap.size) (l := l) (kv := kv) (hk0.cellp db) hc0 (by omega) (by omega) hkids (fun i hi d => dfs_acyc HTR.out.nl i hi d) 6 (topsN l) ta (kidK l l.length (-1)).length tc w0 _ _ _ _ _ _ _ (fit_tops HTR.out) (by omega) tops_lt (HTS.out.kept hk0)
        (fun hpos ad had => by
          have hob : (Value.slice ta (kidK l l.length (-1)).length tc).ownBlock = some ad.block := by simp [Value.ownBlock, had]
          have := (R0.tops.lt _ hob).1
          omega) D0 (by have := ord_len HTR.out; unfold ordN at this; simp; omega) (by have := ord_len HTR.out; unfold ordN at this; simp; omega)
      have HALL := hidMk hall
      have HCH := hidMk R0.chg
      have HKI := hidMk hkids
      have HKB := hidMk (show ∀ j, j < l.length → ∀ ad, (kv j).1 = some ad → w.heap.size + 1 ≤ ad.block from fun j hj ad had => by
        have hob : (slv (kv j)).ownBlock = some ad.block := by simp [slv, Value.ownBlock, had]
        exact ((R0.kids j hj).lt _ hob).1)
      have HW0 := hidMk hw0
      clear hall hkids D0 R0 hc0 hk0 hw0
      go_wp2_with fail
      rw [HW0.out]
      refine HALL.out.mono ?_
      rintro e w9 ⟨rfl, rk', fr', to', ov', lv', h9, sp9, un9, nl9⟩
      have H9 := hidMk h9
      have S9 := hidMk sp9
      have N9 := hidMk nl9
      clear h9 sp9 un9 nl9
      go_wp2_with fail
      go_end0
      refine ⟨rfl, ?_, ?_⟩
      · have hD := H9.out
        simp only [List.nil_append] at hD
        have hs9 := S9.out
        simp only [List.nil_append] at hs9
        have lp : p < w9.heap.size := cell_lt hD.tm.c0
        have lm : mb < w9.heap.size := cell_lt (hD.tm.nm 0 (by omega))
        have lb : pb < w9.heap.size := by obtain ⟨n, _, x⟩ := hD.tm.pm; exact x.lt
        refine ⟨Nat.le_refl _, fun S y hc hS => ?_⟩
        refine ⟨⟨mb, pb, kv, rk', fr', to', ov', lv', hD.tm.chg hc (hS p (by omega) lp) (hS mb (by omega) lm) (hS pb (by omega) lb) h1, fun j hj => ?_, ?_, ?_, fun j hj => hs9 j (ord_all HTR.out hj), N9.out⟩, HTR.out, h1⟩
        · obtain ⟨g1, g2⟩ := HKI.out j hj
          refine (g1.chg hD.chg g2).chg hc (fun hpos ad had => ?_)
          obtain ⟨b', o', e1, e2, _⟩ := (g1.chg hD.chg g2).cells hpos
          rw [had] at e1
          cases e1
          exact hS b' (by have := HKB.out j hj _ had; simp at this; omega) e2
        · have hoy := hD.ord.chg hc (fun k e => by have := hD.ord.lt k e; exact hS k (by omega) this.2)
          obtain ⟨a, c, e1, e2⟩ := hoy.sl (by rw [ints_len]; have := ord_len HTR.out; unfold ordN at this; unfold maxLen; omega)
          rw [ints_len] at e1 e2
          exact ⟨a, c, e1, e2⟩
        · have hly := hD.lvs.chg hc (fun k e => by have := hD.lvs.lt k e; exact hS k (by omega) this.2)
          obtain ⟨a, c, e1, e2⟩ := hly.sl (by rw [ints_len]; have := ord_len HTR.out; have h2 := List.length_filter_le (leafB l) (ordN l); unfold ordN at this h2; unfold maxLen; omega)
          rw [ints_len] at e1 e2
          exact ⟨a, c, e1, e2⟩
      · have c1 : Chg (fun j => j = p ∨ j = mb) w w0 := by
          have := HCH.out
          exact ((Chg.of_kept ((Kept.refl w).alloc _)).thn this (fun j _ e => .inr e))
        exact c1.trans H9.out.chg
end Go.Proofs.YtpehinmckppjoaaGreatDoor
namespace Go.Proofs.YtpehinmckppjoaaGreatDoor
open Go.RowKit Go.Maps
set_option linter.unusedSimpArgs false
set_option linter.unusedVariables false

/-- What New answers. -/
def NewPost (w : World) (l : List Nd) (e : Ending) (w' : World) : Prop :=
  (∃ p, (w.heap.size ≤ p ∧ Solid w.heap.size w'.heap.size p l w') ∧ e = .returned (.tuple #[.pointer (some ⟨p, 0, none⟩), .int .i64 0, .int .i64 0]) ∧ NewIs l 0 0 ∧ Whole w' p l ∧ Kept w w') ∨
  ∃ at_ er, e = .returned (.tuple #[.pointer none, .int .i64 at_, .int .i64 er]) ∧ er ≠ 0 ∧ NewIs l at_ er ∧ Kept w w'
def TM0 (w : World) (p mb pb : Nat) (l : List Nd) : Prop := TM w p mb pb l (fun _ => (none, 0, 0)) (fun _ => -1) (fun _ => 0) (fun _ => 0) (.slice none 0 0) (.slice none 0 0)

set_option maxHeartbeats 1000000 in
set_option maxRecDepth 100000 in
theorem tree_New (a : Option Addr) (n c : Nat) (l : List Nd) (w : World) (hs : Ns w a n l) :
    Calls Tryz.prog 65 #[.slice a n c] w (NewPost w l) := by
  have hlen := hs.len
  have hbig := hs.big
  unfold maxLen at hbig
  by_cases h1 : n < 1
  · have h1' : (n : Int) < 1 := by omega
    clear hs
    go_enter Tryz.func65, Tryz.ntmps65
    go_wp2_with fail
    go_ret3
    exact .inr ⟨0, 5, rfl, by omega, .inl ⟨by omega, rfl, rfl⟩, Kept.refl _⟩
  by_cases h2 : 32 < n
  · have h1' : (1 : Int) ≤ n := by omega
    have h2' : (32 : Int) < n := by omega
    clear hs
    go_enter Tryz.func65, Tryz.ntmps65
    go_wp2_with fail
    go_ret3
    exact .inr ⟨0, 5, rfl, by omega, .inl ⟨by omega, rfl, rfl⟩, Kept.refl _⟩
  have h1' : (1 : Int) ≤ n := by omega
  have h2' : (n : Int) ≤ 32 := by omega
  have hl1 : 1 ≤ l.length := by omega
  have HO := hidMk (tree_of a n c l w hs (by omega) (by omega))
  clear hs
  go_enter Tryz.func65, Tryz.ntmps65
  go_wp2_with fail
  refine HO.out.mono ?_
  rintro e w1 ⟨p, mb, pb, rfl, hp, hm, hpb, ht, hk⟩
  have HT := hidMk (show TM0 w1 p mb pb l from ht)
  have HK := hidMk hk
  clear ht hk
  go_wp2_with fail
  go_loopg [19] 5 (fun g x wr => ∃ q : Nat, q + g = 5 ∧ x = .int .i64 q ∧ TM0 wr p mb pb l ∧ Kept w wr ∧ Hid (∀ q', q' < q → ∀ i, i < l.length → chk l q' i = 0))
  case atStart => exact ⟨0, by omega, rfl, HT.out, HK.out, hidMk fun q' h => absurd h (by omega)⟩
  case round =>
    obtain ⟨q, hq, rfl, hT, hK, HQ⟩ := hrel
    obtain ⟨gq, hgq⟩ : ∃ gq, gq = gk := ⟨_, rfl⟩
    subst hgq
    have HT2 := hidMk hT
    have HK2 := hidMk hK
    clear hT hK
    by_cases hq5 : q < 5
    · have hq5' : (q : Int) < 5 := by omega
      go_wp2_with fail
      go_loopg [24] n (fun g x wi => ∃ k : Nat, k + g = n ∧ x = .int .i64 k ∧ TM0 wi p mb pb l ∧ Kept w wi ∧ Hid (∀ i, i < k → chk l q i = 0))
      case atStart => exact ⟨0, by omega, rfl, HT2.out, HK2.out, hidMk fun q' h => absurd h (by omega)⟩
      case round =>
        obtain ⟨k, hk, rfl, hT, hK, HI⟩ := hrel
        by_cases hkn : k < n
        · have HA := hidMk (tree_ask (show TM _ p mb pb l _ _ _ _ _ _ from hT) q k hq5 (by omega) (fun e => good_noLoop (fun i hi => HQ.out 3 (by omega) i hi)))
          have HT3 := hidMk hT
          have HK3 := hidMk hK
          clear hT hK
          by_cases hc : chk l q k = 0
          · have HI2 := hidMk (show ∀ i, i < k + 1 → chk l q i = 0 from fun i hi => by
              by_cases e : i = k
              · subst e; exact hc
              · exact HI.out i (by omega))
            rw [hc] at HA
            clear hc
            go_wp2_with (go_at_call 93; refine HA.out.mono ?_; rintro e w2 ⟨rfl, k2⟩; have K2 := hidMk k2; clear k2)
            go_roundg (gk - 1)
            case measure => omega
            case rel => exact ⟨k + 1, by omega, by go_num, (show TM _ p mb pb l _ _ _ _ _ _ from HT3.out).kept K2.out hl1, HK3.out.trans K2.out, HI2⟩
          · have HB := hidMk (show BadAt l q k from ⟨hq5, by omega, hc, HQ.out, HI.out⟩)
            have HC := hidMk (show chk l q k = chk l q k from rfl)
            have hc' : (chk l q k != 0) = true := by simpa using hc
            have HE := hidMk hc
            clear hc HC
            obtain ⟨er, her⟩ : ∃ er, chk l q k = er := ⟨_, rfl⟩
            rw [her] at HA hc' HE
            have HER := hidMk her
            clear her
            go_wp2_with (go_at_call 93; refine HA.out.mono ?_; rintro e w2 ⟨rfl, k2⟩; have K2 := hidMk k2; clear k2)
            go_ret3
            exact .inr ⟨k, er, rfl, HE.out, .inr ⟨by omega, .inr ⟨q, k, HB.out, rfl, HER.out.symm⟩⟩, HK3.out.trans K2.out⟩
        · have e : k = n := by omega
          subst e
          have HQ2 := hidMk (show ∀ q', q' < q + 1 → ∀ i, i < l.length → chk l q' i = 0 from fun q' hq' i hi => by
            by_cases e : q' = q
            · subst e; exact HI.out i (by omega)
            · exact HQ.out q' (by omega) i hi)
          have HT3 := hidMk hT
          have HK3 := hidMk hK
          clear hT hK
          have hkk : ¬ ((k : Int) < (k : Int)) := by omega
          go_wp2_with fail
          go_roundg (gq - 1)
          case measure => omega
          case rel => exact ⟨q + 1, by omega, by go_num, HT3.out, HK3.out, HQ2⟩
    · have e : q = 5 := by omega
      subst e
      have HG := hidMk (show Good l from fun q' hq' => HQ.out q' hq')
      have HL := hidMk (tree_lay (show TM _ p mb pb l _ _ _ _ _ _ from HT2.out) hl1 (tr_of HG.out) w.heap.size ⟨hp, hm, hpb, HK2.out.size⟩)
      go_wp2_with (go_at_call 94; refine HL.out.mono ?_; rintro e w2 ⟨rfl, hw2, hc2⟩; have HW2 := hidMk hw2; have HC2 := hidMk hc2; clear hw2 hc2)
      go_ret3
      exact .inl ⟨p, ⟨hp, HW2.out⟩, rfl, .inr ⟨by omega, .inl ⟨HG.out, rfl, rfl⟩⟩, HW2.out.whole, HC2.out.kept HK2.out (fun j hj => by rcases hj with h | h <;> omega)⟩
end Go.Proofs.YtpehinmckppjoaaGreatDoor
namespace Go.Proofs.YtpehinmckppjoaaGreatDoor
open Go.RowKit Go.Maps
set_option linter.unusedSimpArgs false
set_option linter.unusedVariables false

theorem Whole.tb {w : World} {p : Nat} {l : List Nd} (h : Whole w p l) : ∃ mb, TB w p mb l := by
  obtain ⟨⟨mb, pb, kv, rk, fr, tu, ov, lv, h1, _⟩, _, _⟩ := h
  exact ⟨mb, h1.toTB⟩
theorem Whole.big {w : World} {p : Nat} {l : List Nd} (h : Whole w p l) : l.length ≤ 60 := by
  obtain ⟨mb, h1⟩ := h.tb
  exact h1.big
def kidsI (l : List Nd) (i : Int) : List Int := if isP l i then ints (kidN l i) else []
def leafI (l : List Nd) (i : Int) : Bool := decide (isP l i) && leafB l i.toNat
theorem lvs_len {l : List Nd} (h : Tr l) : (lvsN l).length ≤ l.length := Nat.le_trans (List.length_filter_le ..) (ord_len h)
theorem w_Len {w : World} {p : Nat} {l : List Nd} (h : Whole w p l) : Calls Tryz.prog 67 #[.pointer (some ⟨p, 0, none⟩)] w fun e w' => e = .returned (.int .i64 l.length) ∧ w' = w := by
  obtain ⟨mb, h1⟩ := h.tb
  exact tree_Len h1
theorem w_Up {w : World} {p : Nat} {l : List Nd} (h : Whole w p l) (i : Int) : Calls Tryz.prog 124 #[.pointer (some ⟨p, 0, none⟩), .int .i64 i] w fun e w' => e = .returned (.int .i64 (upI l i)) ∧ w' = w := by
  obtain ⟨mb, h1⟩ := h.tb
  exact tree_Up h1 i
theorem w_Name {w : World} {p : Nat} {l : List Nd} (h : Whole w p l) (i : Int) : Calls Tryz.prog 189 #[.pointer (some ⟨p, 0, none⟩), .int .i64 i] w fun e w' => e = .returned (.string (nmI l i)) ∧ w' = w := by
  obtain ⟨mb, h1⟩ := h.tb
  exact tree_Name h1 i
theorem w_Find {w : World} {p : Nat} {l : List Nd} (h : Whole w p l) (s : ByteArray) (hs : s.size ≤ maxLen) : Calls Tryz.prog 178 #[.pointer (some ⟨p, 0, none⟩), .string s] w fun e w' => e = .returned (.int .i64 (findI l s)) ∧ w' = w := by
  obtain ⟨⟨mb, pb, kv, rk, fr, tu, ov, lv, h1, _⟩, _, _⟩ := h
  exact tree_Find h1 s hs
theorem w_Leaves {w : World} {p : Nat} {l : List Nd} (h : Whole w p l) : Calls Tryz.prog 68 #[.pointer (some ⟨p, 0, none⟩)] w fun e w' => ∃ v, e = .returned v ∧ OwnI w' w.heap.size v (ints (lvsN l)) ∧ Kept w w' := by
  have hb := h.big
  have hlen := lvs_len h.tr
  obtain ⟨⟨mb, pb, kv, rk, fr, tu, ov, lv, h1, _, ⟨a, c, h3, h4⟩, ⟨a', c', h5, h6⟩, _⟩, _, _⟩ := h
  subst h3 h5
  have hc := h1.c3
  have HC := hidMk (slices_CloneI a' (lvsN l).length c' (ints (lvsN l)) w h6 (by omega))
  clear h1 h4 h6
  go_enter Tryz.func68, Tryz.ntmps68
  go_wp2_with (go_at_call 96; refine HC.out.mono ?_; rintro e w1 ⟨v1, rfl, o1, k1⟩; have O1 := hidMk o1; have K1 := hidMk k1; clear o1 k1)
  go_ret
  exact ⟨_, rfl, O1.out, K1.out⟩
end Go.Proofs.YtpehinmckppjoaaGreatDoor
namespace Go.Proofs.YtpehinmckppjoaaGreatDoor
open Go.RowKit Go.Maps
set_option linter.unusedSimpArgs false
set_option linter.unusedVariables false

def k5 : List Nd := [(⟨#[97, 108, 108]⟩, -1), (⟨#[97]⟩, 0), (⟨#[98]⟩, 0), (⟨#[99]⟩, 1)]
end Go.Proofs.YtpehinmckppjoaaGreatDoor
